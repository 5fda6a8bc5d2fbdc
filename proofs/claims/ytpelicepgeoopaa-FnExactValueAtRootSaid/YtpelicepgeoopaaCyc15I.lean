/- CyclotomicPolynomial, both functions. -/
import Derived.Test.YtpelicepgeoopaaCyc15
namespace Go.Proofs.Ytpelicepgeoopaa
open Go.ChangeShapes Go.WideShapes Go.ChangeAt Go.RowKit
set_option linter.unusedVariables false

set_option maxRecDepth 100000 in
set_option maxHeartbeats 3200000 in
theorem cycIF : ∀ f d : Nat, d ≤ f → 1 ≤ d → d ≤ 16 → ∀ w, Calls Try.prog 18 #[.int .i64 (d : Int)] w (AnsIB (cyP d) true w) := by
  intro f
  induction f with
  | zero => intro d h1 h2; omega
  | succ f ih =>
    intro d hdf h1 h16 w
    have HIH := Lib.hid ih
    clear ih
    obtain ⟨i0, hi0, hz0, hz1, hz2⟩ := info_parts info3
    obtain ⟨m, hm⟩ : ∃ m, m = d + 1 := ⟨_, rfl⟩
    have hd1 : (d : Int) + 1 = (m : Int) := by omega
    have hdl : (d : Int) < (m : Int) := by omega
    have h0l : (0 : Int) < (m : Int) := by omega
    have hg1 : ¬ ((d : Int) < 1) := by omega
    have hg2 : ¬ ((16 : Int) < (d : Int)) := by omega
    have hdm : d < m := by omega
    have h0m : 0 < m := by omega
    have hm17 : m ≤ 17 := by omega
    have HB0 := Lib.hid (show cyS d 0 = ((List.replicate m (0 : Int)).set 0 (-1)).set d 1 by rw [hm]; rfl)
    have HOK := Lib.hid (cy_ok d (by omega))
    have HLN := Lib.hid (cy_len d (by omega))
    have HEN := Lib.hid (cy_end d (by omega) h1)
    have HPL := Lib.hid cyP_len
    clear hm
    go_enter Try.func18, Try.ntmps18
    go_wp2_with (at_make; go_must (refine wpList_make_full _ rfl _ _ 22 rfl w.heap.size 3 i0 (.int .i64 0) 1 Try.underlying22 hi0 hz0 hz1 .i64 .i64 (m : Int) (m : Int) m rfl rfl rfl rfl (by rw [hz2]; omega) (by unfold maxLen; omega) (Nat.le_refl _) ?_); intro w2 hown1 hgrow1; go_must (have HTB := Lib.hid (TbR.made hown1)); go_must (have hc0 := HTB.out.cell (j := 0) (by simp; omega)); go_must (have hcd := (HTB.out.set 0 (-1)).cell (j := d) (by simp; omega)); go_must (obtain ⟨hc1, hf1⟩ := hc0); go_must (obtain ⟨hc2, hf2⟩ := hcd))
    have HT2 := Lib.hid ((HTB.out.set 0 (-1)).set d 1)
    rw [← HB0.out] at HT2
    have HB2 := Lib.hid (((Below.refl w.heap.size w).grown hgrow1 (Nat.le_refl _) (fun k hk => by cases hk)).setCell (p := ⟨w.heap.size, 0, none⟩) (Nat.le_refl _) (.int .i64 (-1)))
    have HB3 := Lib.hid (HB2.out.setCell (p := ⟨w.heap.size, d, none⟩) (Nat.le_refl _) (.int .i64 1))
    have HO3 := Lib.hid (HT2.out.own (Nat.le_refl _) m)
    have HLM := Lib.hid (show (cyS d 0).length = m by rw [HB0.out]; simp)
    rw [HLM.out] at HO3
    go_loopw [4, 5] (fun x3 x4 wr => ∃ (k : Nat) (g3 : Nat), k < d ∧ x4 = .int .i64 ((k + 1 : Nat) : Int) ∧ x3 = .slice (some ⟨g3, 0, none⟩) (cyS d k).length (cyS d k).length ∧ OwnI wr w.heap.size wr.heap.size (.slice (some ⟨g3, 0, none⟩) (cyS d k).length (cyS d k).length) (cyS d k) ∧ Below w.heap.size w wr) (fun _ x4 _ => d - (intOf x4).toNat)
    case atStart => exact ⟨0, w.heap.size, by omega, rfl, by rw [HLM.out], by rw [HLM.out]; exact HO3.out, HB3.out⟩
    case round =>
      obtain ⟨k, g3, hk, rfl, rfl, ho, hb⟩ := hrel
      have HO := Lib.hid ho
      have HB := Lib.hid hb
      have hbz := hb.size
      clear ho hb HTB HT2 HB2 HB3 HO3 HB0 hc1 hc2 hf1 hf2 hgrow1 hown1
      obtain ⟨q, hq⟩ : ∃ q, q = k + 1 := ⟨_, rfl⟩
      rw [← hq]
      have hq1 : 1 ≤ q := by omega
      have hrem := rem_nat d q
      by_cases hlt : q < d
      · have hqi : (q : Int) < (d : Int) := by omega
        have hqn : ¬ ((q : Int) = 0) := by omega
        by_cases hdv : d % q = 0
        · obtain ⟨k1, k2, k3⟩ := HOK.out k (by omega) (by rw [← hq]; exact hdv)
          rw [← hq] at k1 k3
          have HSS := Lib.hid (show cyS d q = dvX (cyS d k) (cyP q) by rw [hq, cyS, if_pos (by rw [← hq]; exact hdv)])
          have hrem0 : (d : Int).tmod (q : Int) = 0 := by rw [hrem, hdv]; rfl
          have HL1 := Lib.hid (HLN.out k (by omega))
          have HL2 := Lib.hid (HPL.out q (by omega))
          have HC := Lib.hid (fun W => HIH.out q (by omega) hq1 (by omega) W)
          have HK1 := Lib.hid k1
          have HK2 := Lib.hid k2
          have HQ := Lib.hid hq
          clear hrem hdv hq k1 k2 k3
          go_wp2_with fail
          (with_reducible refine (HC.out _).mono ?_)
          rintro e w4 ⟨v4, rfl, ho4, hb4⟩
          obtain ⟨A4, c4, e4, -⟩ := id ho4
          subst e4
          have HD := Lib.hid (dividePolynomialsI_cap (some ⟨g3, 0, none⟩) A4 (cyS d k) (cyP q) _ c4 _ _ _ _ w4 (HO.out.keep hb4 (Nat.le_refl _)) ho4 hb4.size (Nat.le_refl _) (Nat.le_refl _) HK1.out HK2.out)
          have HB4 := Lib.hid (HB.out.trans (hb4.mono hbz))
          have hz4 := hb4.size
          clear ho4 hb4
          go_wp2_with fail
          (with_reducible refine HD.out.mono ?_)
          rintro e w5 ⟨g5, u5, rfl, -, -, ho5, hb5⟩
          rw [← HSS.out] at ho5 ⊢
          have HO5 := Lib.hid (ho5.wide (show w.heap.size ≤ w4.heap.size by omega) (Nat.le_refl _))
          have HB5 := Lib.hid (HB4.out.trans (hb5.mono (by omega)))
          clear ho5 hb5
          go_wp2
          go_roundw
          case rel => exact ⟨q, g5, hlt, by simp, rfl, HO5.out, HB5.out⟩
          case measure => simp [intOf]; omega
        · have HSS := Lib.hid (show cyS d q = cyS d k by rw [hq, cyS, if_neg (by rw [← hq]; exact hdv)])
          have hrem1 : ((d % q : Nat) : Int) ≠ 0 := by omega
          have hrem2 : ((((d % q : Nat) : Int)) == 0) = false := beq_eq_false_iff_ne.2 hrem1
          have HQ := Lib.hid hq
          generalize ((d % q : Nat) : Int) = z at *
          clear hdv hq
          go_wp2
          go_roundw
          case rel => exact ⟨q, g3, hlt, by simp, by rw [HSS.out], by rw [HSS.out]; exact HO.out, HB.out⟩
          case measure => simp [intOf]; omega
      · have hqn : ¬ ((q : Int) < (d : Int)) := by omega
        have HE := Lib.hid (show cyS d k = cyP d by rw [← HEN.out]; congr 1; omega)
        go_wp2
        go_ret2
        exact ⟨_, rfl, by rw [← HE.out]; exact HO.out, HB.out⟩


def cyOk (d : Int) : Bool := decide (1 ≤ d ∧ d ≤ 16)
def cyR (d : Int) : List Int := if cyOk d = true then cyP d.toNat else []

set_option maxRecDepth 100000 in
theorem cyclotomicPolynomial (d : Int) (w : World) : Calls Try.prog 17 #[.int .i64 d] w (AnsIB (cyR d) (cyOk d) w) := by
  by_cases h : 1 ≤ d ∧ d ≤ 16
  · have HO := Lib.hid (show cyOk d = true from decide_eq_true h)
    have HP := Lib.hid (show cyR d = cyP d.toNat from if_pos HO.out)
    have HI := Lib.hid (fun W => l1In_yes d 1 16 W h.1 h.2)
    obtain ⟨n, rfl⟩ : ∃ n : Nat, d = (n : Int) := ⟨d.toNat, by omega⟩
    rw [Int.toNat_natCast] at HP
    have HC := Lib.hid (fun W => cycF n n (Nat.le_refl _) (by omega) (by omega) W)
    clear h
    go_enter Try.func17, Try.ntmps17
    go_wp2_with fail
    (with_reducible refine (HI.out _).mono ?_)
    rintro e w' ⟨rfl, rfl⟩
    go_wp2_with fail
    (with_reducible refine (HC.out _).mono ?_)
    rintro e w2 ⟨v2, rfl, ho, hb⟩
    go_wp2
    go_ret2
    exact ⟨_, ret_ib rfl HO.out.symm, by rw [HP.out]; exact ho, hb⟩
  · have HO := Lib.hid (show cyOk d = false from decide_eq_false h)
    have HP := Lib.hid (show cyR d = [] from if_neg (by simp [HO.out]))
    have HI := Lib.hid (fun W => l1In_not d 1 16 W h)
    clear h
    go_enter Try.func17, Try.ntmps17
    go_wp2_with fail
    (with_reducible refine (HI.out _).mono ?_)
    rintro e w' ⟨rfl, rfl⟩
    go_wp2
    go_ret2
    exact ⟨_, ret_ib rfl HO.out.symm, by rw [HP.out]; exact ⟨_, _, rfl, .inl rfl⟩, (Below.refl _ _).alloc (Nat.le_refl _) _⟩

set_option maxRecDepth 100000 in
theorem cyclotomicPolynomialI (d : Int) (w : World) : Calls Try.prog 18 #[.int .i64 d] w (AnsIB (cyR d) (cyOk d) w) := by
  by_cases h : 1 ≤ d ∧ d ≤ 16
  · have HO : cyOk d = true := decide_eq_true h
    have HP : cyR d = cyP d.toNat := if_pos HO
    obtain ⟨n, rfl⟩ : ∃ n : Nat, d = (n : Int) := ⟨d.toNat, by omega⟩
    rw [Int.toNat_natCast] at HP
    rw [HO, HP]
    exact cycIF n n (Nat.le_refl _) (by omega) (by omega) w
  · have HO := Lib.hid (show cyOk d = false from decide_eq_false h)
    have HP := Lib.hid (show cyR d = [] from if_neg (by simp [HO.out]))
    by_cases h1 : d < 1
    · clear h
      go_enter Try.func18, Try.ntmps18
      go_wp2
      go_ret2
      exact ⟨_, ret_ib rfl HO.out.symm, by rw [HP.out]; exact ⟨_, _, rfl, .inl rfl⟩, Below.refl _ _⟩
    · have h2 : (16 : Int) < d := by omega
      clear h
      go_enter Try.func18, Try.ntmps18
      go_wp2
      go_ret2
      exact ⟨_, ret_ib rfl HO.out.symm, by rw [HP.out]; exact ⟨_, _, rfl, .inl rfl⟩, Below.refl _ _⟩
theorem cyR_len (d : Int) : (cyR d).length ≤ 1048576 := by
  unfold cyR
  split
  · rename_i h
    have h2 := of_decide_eq_true h
    have := cyP_len d.toNat (by omega)
    omega
  · simp

end Go.Proofs.Ytpelicepgeoopaa
