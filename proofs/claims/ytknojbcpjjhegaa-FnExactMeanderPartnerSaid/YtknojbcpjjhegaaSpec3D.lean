/- The contracts of the model's UnrankPath and NextPath. -/
import Derived.Test.YtknojbcpjjhegaaSpec3C
namespace Go.Proofs.Ytknojbcpjjhegaa
open Go.ChangeShapes Go.WideShapes Go.ChangeAt Go.RowKit
open Go.PlainAid (bt bt_nonneg bt_le get_bt)
set_option linter.unusedVariables false

def ways (u d : Nat) : Int := if 0 < u then wy (u - 1) d else 0
/-- The letters of rank k when up letters u and down letters d are to come. -/
def unrL : Nat → Nat → Nat → Int → List UInt8
  | 0, _, _, _ => []
  | f + 1, u, d, k => if d = 0 then [] else if k < ways u d then 117 :: unrL f (u - 1) d k else 100 :: unrL f u (d - 1) (k - ways u d)
theorem unrL_end (f u : Nat) (k : Int) : unrL f u 0 k = [] := by
  cases f with
  | zero => rfl
  | succ f => rw [unrL, if_pos rfl]
theorem unrL_up (f u d : Nat) (k : Int) (hd : d ≠ 0) (h : k < ways u d) : unrL (f + 1) u d k = 117 :: unrL f (u - 1) d k := by rw [unrL, if_neg hd, if_pos h]
theorem unrL_down (f u d : Nat) (k : Int) (hd : d ≠ 0) (h : ¬ k < ways u d) : unrL (f + 1) u d k = 100 :: unrL f u (d - 1) (k - ways u d) := by rw [unrL, if_neg hd, if_neg h]
def unrGood (n k : Int) : Prop := 0 ≤ n ∧ n ≤ 8 ∧ 0 ≤ k ∧ k < wy n.toNat n.toNat
instance (n k : Int) : Decidable (unrGood n k) := by unfold unrGood; infer_instance
def unrOk (n k : Int) : Bool := decide (unrGood n k)
def unrP (n k : Int) : ByteArray := if unrGood n k then ⟨(unrL (n.toNat + n.toNat) n.toNat n.toNat k).toArray⟩ else ⟨#[]⟩
theorem unr_no {n k : Int} (h : ¬ unrGood n k) : unrOk n k = false ∧ unrP n k = ⟨#[]⟩ := ⟨decide_eq_false h, if_neg h⟩
theorem unr_yes {n k : Int} (h : unrGood n k) : unrOk n k = true ∧ unrP n k = ⟨(unrL (n.toNat + n.toNat) n.toNat n.toNat k).toArray⟩ := ⟨decide_eq_true h, if_pos h⟩
theorem wy_small (q d : Nat) (hq : q ≤ 8) (hd : d ≤ 15) : 0 ≤ wy q d ∧ wy q d ≤ 4294967296 := by
  have h := wy_bd q d hd
  refine ⟨h.1, Int.le_trans h.2 ?_⟩
  have h1 : (16 : Nat) ^ q ≤ 16 ^ 8 := Nat.pow_le_pow_right (by decide) hq
  have h2 : (16 : Int) ^ q ≤ 16 ^ 8 := by exact_mod_cast h1
  exact Int.le_trans h2 (by decide)
/-- A rank that is too great for u goes on behind d. -/
theorem ways_rest (u d : Nat) (k : Int) (hd : 0 < d) (hud : u ≤ d) (h0 : 0 ≤ k) (hk : k < wy u d) (h : ¬ k < ways u d) : u ≤ d - 1 ∧ 0 ≤ k - ways u d ∧ k - ways u d < wy u (d - 1) := by
  obtain ⟨e, rfl⟩ : ∃ e, d = e + 1 := ⟨d - 1, by omega⟩
  cases u with
  | zero => rw [wy_zero] at hk; unfold ways at h ⊢; simp at h ⊢; rw [wy_zero]; omega
  | succ u =>
    have hw : ways (u + 1) (e + 1) = wy u (e + 1) := by unfold ways; rw [if_pos (by omega)]; rfl
    rw [hw] at h ⊢
    by_cases hue : u = e
    · subst hue; rw [wy_diag] at hk; omega
    · rw [wy_step _ _ (by omega)] at hk
      rw [show e + 1 - 1 = e by omega]
      omega

set_option maxRecDepth 100000 in
set_option maxHeartbeats 3200000 in
theorem unrankPath (n k : Int) (w : World) : Calls Try.prog 12 #[.int .i64 n, .int .i64 k] w fun e w' => e = .returned (.tuple #[.string (unrP n k), .bool (unrOk n k)]) ∧ Below w.heap.size w w' := by
  by_cases h0 : n < 0
  · have HN := Lib.hid (unr_no (n := n) (k := k) fun h => by have := h.1; omega)
    go_enter Try.func12, Try.ntmps12
    go_wp2_with fail
    (with_reducible refine (l1In_no1 n 0 8 _ h0).mono ?_)
    rintro e w' ⟨rfl, rfl⟩
    go_wp2
    go_ret2
    exact ⟨ret_sb HN.out.2.symm HN.out.1.symm, Below.refl _ _⟩
  by_cases h1 : 8 < n
  · have HN := Lib.hid (unr_no (n := n) (k := k) fun h => by have := h.2.1; omega)
    have h0' : 0 ≤ n := by omega
    go_enter Try.func12, Try.ntmps12
    go_wp2_with fail
    (with_reducible refine (l1In_no2 n 0 8 _ h0' h1).mono ?_)
    rintro e w' ⟨rfl, rfl⟩
    go_wp2
    go_ret2
    exact ⟨ret_sb HN.out.2.symm HN.out.1.symm, Below.refl _ _⟩
  have h0' : 0 ≤ n := by omega
  have h1' : n ≤ 8 := by omega
  clear h0 h1
  by_cases k0 : k < 0
  · have HN := Lib.hid (unr_no (n := n) (k := k) fun h => by have := h.2.2.1; omega)
    go_enter Try.func12, Try.ntmps12
    go_wp2_with fail
    (with_reducible refine (l1In_yes n 0 8 _ h0' h1').mono ?_)
    rintro e w' ⟨rfl, rfl⟩
    go_wp2
    go_ret2
    exact ⟨ret_sb HN.out.2.symm HN.out.1.symm, Below.refl _ _⟩
  have k0' : 0 ≤ k := by omega
  obtain ⟨m, rfl⟩ : ∃ m : Nat, n = m := ⟨n.toNat, by omega⟩
  have hcat : catP (m : Int) = wy m m := if_pos (by omega)
  have hG : unrGood m k ↔ k < wy m m := ⟨fun h => h.2.2.2, fun h => ⟨h0', h1', k0', h⟩⟩
  by_cases kc : wy m m ≤ k
  · have HN := Lib.hid (unr_no (n := m) (k := k) fun h => by have := hG.1 h; omega)
    have HC := Lib.hid hcat
    clear hcat hG
    go_enter Try.func12, Try.ntmps12
    go_wp2_with fail
    (with_reducible refine (l1In_yes _ 0 8 _ h0' h1').mono ?_)
    rintro e w' ⟨rfl, rfl⟩
    go_wp2_with fail
    refine (catalanNumber (m : Int) _).mono ?_
    rw [HC.out]
    rintro e w' ⟨rfl, hb⟩
    go_wp2
    go_ret2
    exact ⟨ret_sb HN.out.2.symm HN.out.1.symm, hb⟩
  · have HN := Lib.hid (unr_yes (n := m) (k := k) (hG.2 (by omega)))
    have HC := Lib.hid hcat
    have kc' : k < wy m m := by omega
    have HK := Lib.hid kc'
    clear hcat hG
    go_enter Try.func12, Try.ntmps12
    go_wp2_with fail
    (with_reducible refine (l1In_yes _ 0 8 _ h0' h1').mono ?_)
    rintro e w' ⟨rfl, rfl⟩
    go_wp2_with fail
    refine (catalanNumber (m : Int) _).mono ?_
    rw [HC.out]
    rintro e w1 ⟨rfl, hb1⟩
    have HB1 := Lib.hid hb1
    clear hb1
    go_wp2
    go_loopw [1, 6, 7, 8] (fun x y z t wr => ∃ (u d : Nat) (c : Int) (acc : List UInt8), x = .int .i64 c ∧ y = .string ⟨acc.toArray⟩ ∧ z = .int .i64 u ∧ t = .int .i64 d ∧ u ≤ d ∧ d ≤ m ∧ 0 ≤ c ∧ c < wy u d ∧ acc.length ≤ 16 - (u + d) ∧ acc ++ unrL (u + d) u d c = unrL (m + m) m m k ∧ Below w.heap.size w wr) (fun _ _ z t _ => (intOf z).toNat + (intOf t).toNat)
    case atStart => exact ⟨m, m, k, [], rfl, rfl, rfl, rfl, Nat.le_refl _, Nat.le_refl _, k0', HK.out, by simp, rfl, HB1.out⟩
    case round =>
      obtain ⟨u, d, c, acc, rfl, rfl, rfl, rfl, hud, hdm, c0, c1, hl, ha, hb⟩ := hrel
      have HA := Lib.hid ha
      have HB := Lib.hid hb
      have HC1 := Lib.hid c1
      have hB := hb.size
      clear ha hb
      have hlen := str_len acc
      by_cases hd0 : 0 < d
      · have hdi : (0 : Int) < (d : Int) := by omega
        obtain ⟨f, hf⟩ : ∃ f, u + d = f + 1 := ⟨u + d - 1, by omega⟩
        have HF := Lib.hid hf
        clear hf
        by_cases hu0 : 0 < u
        · obtain ⟨q, HQ, hq⟩ : ∃ q, Hid (u = q + 1) ∧ (u : Int) - 1 = (q : Int) := ⟨u - 1, Lib.hid (by omega), by omega⟩
          have hui : (0 : Int) < (u : Int) := by omega
          have hqd : q ≤ d := by have := HQ.out; omega
          have hq8 : q ≤ 8 := by have := HQ.out; omega
          have hbd := wy_small q d hq8 (by omega)
          have hbu := wy_small u d (by omega) (by omega)
          have HW := Lib.hid (show ways u d = wy q d by unfold ways; rw [if_pos hu0, HQ.out]; rfl)
          by_cases hk : c < wy q d
          · have HU := Lib.hid (unrL_up f u d c (by omega) (by rw [HW.out]; exact hk))
            go_wp2_with fail
            (with_reducible refine (l3Ways q d _ hqd (by omega)).mono ?_)
            rintro e w' ⟨rfl, hb⟩
            have HK2 := Lib.hid hk
            have HB := Lib.hid (HB.out.trans (hb.mono hB))
            clear hb
            generalize hy : wy q d = y at *
            have HY := Lib.hid hy
            clear hy
            go_wp2
            refine ⟨⟨u - 1, d, c, acc ++ [117], rfl, by rw [← str_snoc], by congr 1; have := HQ.out; omega, rfl, by omega, hdm, c0, by rw [show u - 1 = q by have := HQ.out; omega, HY.out]; exact HK2.out, by simp only [List.length_append, List.length_cons, List.length_nil]; omega, ?_, HB.out⟩, by simp [intOf]; have := HQ.out; omega⟩
            rw [← HA.out, HF.out, HU.out, show u - 1 + d = f by have := HF.out; omega]; simp
          · have HU := Lib.hid (unrL_down f u d c (by omega) (by rw [HW.out]; exact hk))
            have HR := Lib.hid (ways_rest u d c hd0 hud c0 c1 (by rw [HW.out]; exact hk))
            go_wp2_with fail
            (with_reducible refine (l3Ways q d _ hqd (by omega)).mono ?_)
            rintro e w' ⟨rfl, hb⟩
            have HB := Lib.hid (HB.out.trans (hb.mono hB))
            clear hb
            generalize hy : wy q d = y at *
            have HY := Lib.hid hy
            clear hy
            go_wp2
            refine ⟨⟨u, d - 1, c - y, acc ++ [100], rfl, by rw [← str_snoc], rfl, by congr 1; omega, HR.out.1, by omega, by have := HR.out.2.1; rw [HW.out] at this; exact this, by have := HR.out.2.2; rw [HW.out] at this; exact this, by simp only [List.length_append, List.length_cons, List.length_nil]; omega, ?_, HB.out⟩, by simp [intOf]; omega⟩
            rw [← HA.out, HF.out, HU.out, HW.out, show u + (d - 1) = f by have := HF.out; omega]; simp
        · have hui : ¬ (0 : Int) < (u : Int) := by omega
          have HW := Lib.hid (show ways u d = 0 by unfold ways; rw [if_neg hu0])
          have hk : ¬ c < 0 := by omega
          have hc9 : c ≤ 9223372036854775807 := by have := wy_small u d (by omega) (by omega); omega
          have hcw : IntKind.i64.wrap c = c := IntWalk.i64_in _ (by omega)
          have HU := Lib.hid (unrL_down f u d c (by omega) (by rw [HW.out]; exact hk))
          have HR := Lib.hid (ways_rest u d c hd0 hud c0 c1 (by rw [HW.out]; exact hk))
          go_wp2
          refine ⟨⟨u, d - 1, c, acc ++ [100], by first | rfl | simp | (congr 1; omega), by rw [← str_snoc], rfl, by congr 1; omega, HR.out.1, by omega, c0, by have := HR.out.2.2; rw [HW.out] at this; simpa using this, by simp only [List.length_append, List.length_cons, List.length_nil]; omega, ?_, HB.out⟩, by simp [intOf]; omega⟩
          rw [← HA.out, HF.out, HU.out, HW.out, show u + (d - 1) = f by have := HF.out; omega]; simp
      · have hdi : ¬ (0 : Int) < (d : Int) := by omega
        have HD := Lib.hid (show d = 0 by omega)
        go_wp2
        go_ret2
        refine ⟨ret_sb ?_ HN.out.1.symm, HB.out⟩
        rw [HN.out.2]
        have h := HA.out
        rw [HD.out, unrL_end, List.append_nil] at h
        rw [h]; rfl

theorem rkL_bd : ∀ (l : List UInt8) (h u d : Nat), ends h u d l → u ≤ 8 → d ≤ 8 → 0 ≤ rkL l u d ∧ rkL l u d ≤ d * 4294967296 := by
  intro l
  induction l with
  | nil => intro h u d he hu hd; rw [rkL_nil]; omega
  | cons c l ih =>
    intro h u d he hu hd
    by_cases e : c.toNat = 117
    · obtain ⟨h1, h2⟩ := ends_up he e
      rw [rkL_up _ _ _ _ e]
      exact ih _ _ _ h2 (by omega) hd
    · obtain ⟨h1, h2, h3⟩ := ends_down he e
      have h4 := ih _ _ _ h3 hu (by omega)
      rw [rkL_down _ _ _ _ e]
      have h5 := wy_small (u - 1) d (by omega) (by omega)
      split <;> omega
theorem rankP_bd {s : ByteArray} (h : dyck s = true) : 0 ≤ rankP s ∧ rankP s ≤ 34359738368 := by
  have h16 := dyck_size h
  have h1 := rkL_bd _ _ _ _ (ends_start h) (by omega) (by omega)
  have h2 : rankP s = rkL (rest s 0) (s.size / 2) (s.size / 2) := if_pos h
  rw [h2]
  refine ⟨h1.1, Int.le_trans h1.2 ?_⟩
  omega
def nextOk (s : ByteArray) : Bool := if dyck s = true then unrOk ((s.size / 2 : Nat) : Int) (rankP s + 1) else false
def nextP (s : ByteArray) : ByteArray := if dyck s = true then unrP ((s.size / 2 : Nat) : Int) (rankP s + 1) else ⟨#[]⟩

end Go.Proofs.Ytknojbcpjjhegaa
