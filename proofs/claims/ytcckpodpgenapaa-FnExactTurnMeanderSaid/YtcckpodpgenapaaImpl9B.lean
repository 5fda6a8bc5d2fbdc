/- The program's TurnMatching. -/
import Derived.Test.YtcckpodpgenapaaImpl9A
namespace Go.Proofs.Ytcckpodpgenapaa
open Go.ChangeShapes Go.WideShapes Go.ChangeAt Go.RowKit
set_option linter.unusedVariables false

theorem src_mod {n K i : Nat} (hi : i < n) (hK : K < n) : ((i : Int) + (K : Int)) % (n : Int) = (src n K i : Int) := by
  unfold src
  split
  · rw [Int.emod_eq_of_lt (by omega) (by omega)]; push_cast; omega
  · rw [show (i : Int) + (K : Int) = ((i : Int) + K - n) + n * 1 by omega, Int.add_mul_emod_self_left, Int.emod_eq_of_lt (by omega) (by omega)]; omega
theorem src_lt {n K i : Nat} (hi : i < n) (hK : K < n) : src n K i < n := by unfold src; split <;> omega
/-- The row when the first i points have been filled in. -/
def tuG (xs : List Int) (K i : Nat) : Nat → Int := fun q => if q < i then tuV xs.length K (xs.getD (src xs.length K q) 0) else 0

set_option maxRecDepth 100000 in
set_option maxHeartbeats 3200000 in
theorem turnMatchingI_pos (v : Value) (xs : List Int) (k : Int) (lo hi : Nat) (w : World) (hn : 0 < xs.length) (hv : OwnI w lo hi v xs) (hhi : hi ≤ w.heap.size) (hl : xs.length ≤ 1099511627776) (hk0 : -9223372036854775808 ≤ k) (hk1 : k ≤ 9223372036854775807) :
    Calls Try.prog 55 #[v, .int .i64 k] w (AnsIB (turnP xs k) (turnOk xs k) w) := by
  have HM := Lib.hid (isMatchingI v xs lo hi w hv hl)
  obtain ⟨A1, c1, rfl, k1⟩ := id hv
  clear k1
  have HV := Lib.hid hv
  clear hv
  rcases hm : matchP xs with _ | _
  · have HO := Lib.hid (show turnOk xs k = false by unfold turnOk; rw [hm]; rfl)
    have HP := Lib.hid (show turnP xs k = [] from if_neg (by rw [HO.out]; simp))
    rw [hm] at HM
    clear hm
    go_enter Try.func55, Try.ntmps55
    go_wp2_with fail
    (with_reducible refine HM.out.mono ?_)
    rintro e w' ⟨rfl, rfl⟩
    go_wp2
    go_ret2
    exact ⟨_, ret_ib rfl HO.out.symm, by rw [HP.out]; exact ⟨none, 0, rfl, .inl rfl⟩, Below.refl _ _⟩
  · have h16 := (match_yes hm).1
    have hmt := (match_yes hm).2
    rw [hm] at HM
    by_cases hk : 0 ≤ k ∧ k ≤ max 0 ((xs.length : Int) - 1)
    · obtain ⟨K, rfl⟩ : ∃ K : Nat, k = K := ⟨k.toNat, by omega⟩
      have HO := Lib.hid (show turnOk xs K = true by unfold turnOk; rw [hm, decide_eq_true hk]; rfl)
      have HP := Lib.hid (show turnP xs K = turnL xs K from if_pos HO.out)
      have HMT := Lib.hid hmt
      have hKn : K < xs.length := by omega
      have hmx : ¬ (xs.length : Int) ≤ (K : Int) := by omega
      have d1 : decide ((xs.length : Int) ≤ (K : Int)) = false := decide_eq_false hmx
      have hmx2 : ¬ xs.length ≤ K := by omega
      have d2 : decide (xs.length ≤ K) = false := decide_eq_false hmx2
      have hk0' : ¬ (K : Int) < 0 := by omega
      have hK16 : K ≤ 16 := by omega
      have h1n : (1 : Int) ≤ (xs.length : Int) := by omega
      clear hm hmt hk
      obtain ⟨i0, hi0, hz0, hz1, hz2⟩ := info_parts info3
      have HKN := Lib.hid hKn
      clear hKn
      go_enter Try.func55, Try.ntmps55
      go_wp2_with fail
      (with_reducible refine HM.out.mono ?_)
      rintro e w' ⟨rfl, rfl⟩
      go_wp2_with (at_make; go_must (refine wpList_make_full _ rfl _ _ 22 rfl w.heap.size 3 i0 (.int .i64 0) 1 Try.underlying22 hi0 hz0 hz1 .i64 .i64 (xs.length : Int) (xs.length : Int) xs.length rfl rfl rfl rfl (by rw [hz2]; omega) (by unfold maxLen; omega) (Nat.le_refl _) ?_); intro w2 hown1 hgrow1)
      have HT0 := Lib.hid (TabI.made hown1)
      have HB2 := Lib.hid ((Below.refl w.heap.size w).grown hgrow1 (Nat.le_refl _) (fun k hk => by cases hk))
      clear hown1 hgrow1
      go_wp2
      go_loopw [27] (fun y wr => ∃ i : Nat, i ≤ xs.length ∧ y = .int .i64 i ∧ TabI wr w.heap.size xs.length (tuG xs K i) ∧ Below w.heap.size w wr) (fun y _ => xs.length - (intOf y).toNat)
      case atStart => exact ⟨0, Nat.zero_le _, rfl, HT0.out, HB2.out⟩
      case round =>
        obtain ⟨i, hi, rfl, htab, hb⟩ := hrel
        have HT := Lib.hid htab
        have HB := Lib.hid hb
        clear htab hb HT0 HB2
        by_cases hlt : i < xs.length
        · have hK : K < xs.length := HKN.out
          have hsl := src_lt hlt hK
          obtain ⟨m0, m1, -, -⟩ := HMT.out (src xs.length K i) hsl
          obtain ⟨g1, p1, e1, -, -, hc1, -⟩ := (HV.out.keep HB.out hhi).cell hsl
          simp only [Value.slice.injEq] at e1
          obtain ⟨rfl, -, rfl⟩ := e1
          have HNX := Lib.hid (show tuG xs K (i + 1) = upd (tuG xs K i) i (tuV xs.length K (xs.getD (src xs.length K i) 0)) by
            funext q
            unfold tuG
            by_cases e : q = i
            · subst e; rw [if_pos (by omega), upd_at]
            · rw [upd_ne _ _ e]
              by_cases h : q < i
              · rw [if_pos h, if_pos (by omega)]
              · rw [if_neg h, if_neg (by omega)])
          have hsm := src_mod hlt hK
          generalize src xs.length K i = sq at *
          generalize xs.getD sq 0 = y at hc1 HNX m0 m1
          have t2 := tuV_mod (n := xs.length) (K := K) (y := y) m0 (by omega) hK
          have hv0 : 0 ≤ tuV xs.length K y ∧ tuV xs.length K y ≤ 16 := by unfold tuV; split <;> omega
          generalize tuV xs.length K y = yv at *
          have t1' : ((i : Int) + (K : Int)).tmod (xs.length : Int) = (sq : Int) := by rw [IntWalk.rem_in _ _ (by omega)]; exact hsm
          have t2' : (y + (xs.length : Int) - (K : Int)).tmod (xs.length : Int) = yv := by rw [IntWalk.rem_in _ _ (by omega), show y + (xs.length : Int) - (K : Int) = y - (K : Int) + (xs.length : Int) by omega]; exact t2
          have w1 : IntKind.i64.wrap ((i : Int) + (K : Int)) = (i : Int) + (K : Int) := IntWalk.i64_in _ (by omega)
          have w2' : IntKind.i64.wrap (y + (xs.length : Int)) = y + (xs.length : Int) := IntWalk.i64_in _ (by omega)
          have w3 : IntKind.i64.wrap (y + (xs.length : Int) - (K : Int)) = y + (xs.length : Int) - (K : Int) := IntWalk.i64_in _ (by omega)
          have w5 : IntKind.i64.wrap (sq : Int) = (sq : Int) := IntWalk.i64_in _ (by omega)
          have w6 : IntKind.i64.wrap yv = yv := IntWalk.i64_in _ (by omega)
          have e0 : ((xs.length : Int) == 0) = false := beq_eq_false_iff_ne.2 (by omega)
          have hii : (i : Int) < (xs.length : Int) := by omega
          have hsi : (sq : Int) < (xs.length : Int) := by omega
          obtain ⟨hc2, hf2⟩ := HT.out.cell (j := i) hlt
          generalize tuG xs K i i = y0 at hc2
          clear hsm t2 m0 m1
          go_wp2
          go_roundw
          case rel => exact ⟨i + 1, by omega, by simp, by rw [HNX.out]; exact HT.out.set hlt _, HB.out.setCell (p := ⟨w.heap.size, i, none⟩) (Nat.le_refl _) _⟩
          case measure => simp [intOf]; omega
        · obtain rfl : i = xs.length := by omega
          go_wp2
          go_ret2
          refine ⟨_, ret_ib rfl HO.out.symm, ?_, HB.out⟩
          rw [HP.out]
          exact OwnI.of_tab HT.out (turnL_len xs K) (Nat.le_refl _) (fun q hq => by rw [turnL_at _ _ _ hq]; unfold tuG; rw [if_pos hq]) (Nat.le_refl _) HT.out.lt
    · have HO := Lib.hid (show turnOk xs k = false by unfold turnOk; rw [hm, decide_eq_false hk]; rfl)
      have HP := Lib.hid (show turnP xs k = [] from if_neg (by rw [HO.out]; simp))
      clear hm hmt
      by_cases hkn : k < 0
      · have d0 : decide (k < 0) = true := decide_eq_true hkn
        go_enter Try.func55, Try.ntmps55
        go_wp2_with fail
        (with_reducible refine HM.out.mono ?_)
        rintro e w' ⟨rfl, rfl⟩
        go_wp2
        go_ret2
        exact ⟨_, ret_ib rfl HO.out.symm, by rw [HP.out]; exact ⟨none, 0, rfl, .inl rfl⟩, Below.refl _ _⟩
      · have d0 : decide (k < 0) = false := decide_eq_false hkn
        have hmx : (xs.length : Int) ≤ k := by omega
        have h1n : (1 : Int) ≤ (xs.length : Int) := by omega
        have d1 : decide ((xs.length : Int) ≤ k) = true := decide_eq_true hmx
        go_enter Try.func55, Try.ntmps55
        go_wp2_with fail
        (with_reducible refine HM.out.mono ?_)
        rintro e w' ⟨rfl, rfl⟩
        go_wp2
        go_ret2
        exact ⟨_, ret_ib rfl HO.out.symm, by rw [HP.out]; exact ⟨none, 0, rfl, .inl rfl⟩, Below.refl _ _⟩

set_option maxRecDepth 100000 in
set_option maxHeartbeats 3200000 in
theorem turnMatchingI_nil (A1 : Option Addr) (c1 : Nat) (k : Int) (lo hi : Nat) (w : World) (hv : OwnI w lo hi (.slice A1 0 c1) []) (hk0 : -9223372036854775808 ≤ k) (hk1 : k ≤ 9223372036854775807) :
    Calls Try.prog 55 #[.slice A1 0 c1, .int .i64 k] w (AnsIB (turnP [] k) (turnOk [] k) w) := by
  have hm : matchP [] = true := by decide
  have HM := Lib.hid (isMatchingI (.slice A1 0 c1) [] lo hi w hv (by simp))
  rw [hm] at HM
  have hmx : max (0 : Int) ((([] : List Int).length : Int) - 1) = 0 := by decide
  by_cases hkn : k < 0
  · have HO := Lib.hid (show turnOk [] k = false by unfold turnOk; rw [hm, hmx, decide_eq_false (by omega)]; rfl)
    have HP := Lib.hid (show turnP [] k = [] from if_neg (by rw [HO.out]; simp))
    have d0 : decide (k < 0) = true := decide_eq_true hkn
    clear hm hmx
    go_enter Try.func55, Try.ntmps55
    go_wp2_with fail
    (with_reducible refine HM.out.mono ?_)
    rintro e w' ⟨rfl, rfl⟩
    go_wp2
    go_ret2
    exact ⟨_, ret_ib rfl HO.out.symm, by rw [HP.out]; exact ⟨none, 0, rfl, .inl rfl⟩, Below.refl _ _⟩
  · have d0 : decide (k < 0) = false := decide_eq_false hkn
    by_cases hk : k = 0
    · subst hk
      have HO := Lib.hid (show turnOk [] 0 = true by unfold turnOk; rw [hm, hmx]; rfl)
      have HP := Lib.hid (show turnP [] 0 = [] by unfold turnP; rw [if_pos HO.out]; rfl)
      clear hm hmx
      obtain ⟨i0, hi0, hz0, hz1, hz2⟩ := info_parts info3
      go_enter Try.func55, Try.ntmps55
      go_wp2_with fail
      (with_reducible refine HM.out.mono ?_)
      rintro e w' ⟨rfl, rfl⟩
      go_wp2_with (at_make; go_must (refine wpList_make_full _ rfl _ _ 22 rfl w.heap.size 3 i0 (.int .i64 0) 1 Try.underlying22 hi0 hz0 hz1 .i64 .i64 (0 : Int) (0 : Int) 0 rfl rfl rfl rfl (by rw [hz2]; omega) (by unfold maxLen; omega) (Nat.le_refl _) ?_); intro w2 hown1 hgrow1)
      have HB2 := Lib.hid ((Below.refl w.heap.size w).grown hgrow1 (Nat.le_refl _) (fun k hk => by cases hk))
      clear hown1 hgrow1
      go_wp2
      refine wp_loop_rounds 1 ?_
      rw [rounds_succ]
      go_wp2
      go_ret2
      exact ⟨_, ret_ib rfl HO.out.symm, by rw [HP.out]; exact ⟨_, _, rfl, .inl rfl⟩, HB2.out⟩
    · have HO := Lib.hid (show turnOk [] k = false by unfold turnOk; rw [hm, hmx, decide_eq_false (by omega)]; rfl)
      have HP := Lib.hid (show turnP [] k = [] from if_neg (by rw [HO.out]; simp))
      have h1k : (1 : Int) ≤ k := by omega
      have d1 : decide ((1 : Int) ≤ k) = true := decide_eq_true h1k
      clear hm hmx
      go_enter Try.func55, Try.ntmps55
      go_wp2_with fail
      (with_reducible refine HM.out.mono ?_)
      rintro e w' ⟨rfl, rfl⟩
      go_wp2
      go_ret2
      exact ⟨_, ret_ib rfl HO.out.symm, by rw [HP.out]; exact ⟨none, 0, rfl, .inl rfl⟩, Below.refl _ _⟩
theorem turnMatchingI (v : Value) (xs : List Int) (k : Int) (lo hi : Nat) (w : World) (hv : OwnI w lo hi v xs) (hhi : hi ≤ w.heap.size) (hl : xs.length ≤ 1099511627776) (hk0 : -9223372036854775808 ≤ k) (hk1 : k ≤ 9223372036854775807) :
    Calls Try.prog 55 #[v, .int .i64 k] w (AnsIB (turnP xs k) (turnOk xs k) w) := by
  rcases Nat.eq_zero_or_pos xs.length with h | h
  · obtain rfl := List.eq_nil_of_length_eq_zero h
    obtain ⟨A1, c1, rfl, -⟩ := id hv
    exact turnMatchingI_nil A1 c1 k lo hi w hv hk0 hk1
  · exact turnMatchingI_pos v xs k lo hi w h hv hhi hl hk0 hk1

end Go.Proofs.Ytcckpodpgenapaa
