/- The program's IsPermutation, DescentsOf, InversionsOf, inverse, InverseOf. -/
import Derived.Test.YtgeppabpkbepdaaFact10P
import Derived.Test.YtgeppabpkbepdaaRow10
import Derived.BigQuiet
namespace Go.Proofs.Ytgeppabpkbepdaa
open Go.ChangeShapes Go.WideShapes Go.ChangeAt Go.RowKit
set_option linter.unusedVariables false

def Z8 : Array Value := Array.replicate 8 (.bool false)
theorem zeroFound (w : World) : (zeroValue 53).run Try.prog w = .ok (.agg Z8) w := by kernel_rfl
/-- Block g holds eight truth values. -/
def FoB (w : World) (g : Nat) (f : Nat → Bool) : Prop := ∃ C : Array Value, w.heap[g]? = some (.cells C 53 (0, 0)) ∧ C.size = 8 ∧ ∀ q, q < 8 → C[q]? = some (.bool (f q))
theorem FoB.lt {w : World} {g : Nat} {f : Nat → Bool} (h : FoB w g f) : g < w.heap.size := by
  obtain ⟨C, h1, -⟩ := h
  exact (Array.getElem?_eq_some_iff.1 h1).1
theorem FoB.cell {w : World} {g : Nat} {f : Nat → Bool} (h : FoB w g f) {q : Nat} (hq : q < 8) : w.cell? ⟨g, q, none⟩ = some (.bool (f q)) ∧ w.frozen? ⟨g, q, none⟩ = false := by
  obtain ⟨C, h1, -, h2⟩ := h
  refine ⟨?_, by simp [World.frozen?, h1]⟩
  rw [cell_of_row w g q C _ (0, 0) h1]
  exact h2 q hq
theorem FoB.set {w : World} {g k : Nat} {f f' : Nat → Bool} {y : Bool} (h : FoB w g f) (hy : f' k = y) (ho : ∀ q, q < 8 → q ≠ k → f' q = f q) : FoB (w.setCell ⟨g, k, none⟩ (.bool y)) g f' := by
  obtain ⟨C, h1, h0, h2⟩ := h
  refine ⟨C.setIfInBounds k (.bool y), by simp [World.setCell, Array.getElem?_modify, h1], by simpa using h0, fun q hq => ?_⟩
  by_cases e : q = k
  · subst e
    rw [Array.getElem?_setIfInBounds_self_of_lt (by omega), hy]
  · rw [Array.getElem?_setIfInBounds_ne (by omega), h2 q hq, ho q hq e]
theorem FoB.new (w : World) : FoB (w.alloc (.cells Z8 53)) w.heap.size fun _ => false := by
  refine ⟨Z8, by rw [show (w.alloc (.cells Z8 53)).heap = w.heap.push (.cells Z8 53) from rfl]; simp, by simp [Z8], fun q hq => ?_⟩
  simp [Z8, hq]
theorem FoB.drewN {w : World} {g : Nat} {f : Nat → Bool} (h : FoB w g f) (n : Nat) : FoB (w.drewN n) g f := h

/-- The numbers among the first i. -/
def pmF (xs : List Int) : Nat → Nat → Bool
  | 0, _ => false
  | i + 1, q => pmF xs i q || decide (xs.getD i 0 = (q : Int))
theorem pmF_iff (xs : List Int) (i q : Nat) : pmF xs i q = true ↔ ∃ k, k < i ∧ xs.getD k 0 = (q : Int) := by
  induction i with
  | zero => exact ⟨fun h => by simp [pmF] at h, fun ⟨k, h, _⟩ => absurd h (Nat.not_lt_zero _)⟩
  | succ i ih =>
    rw [pmF, Bool.or_eq_true, decide_eq_true_eq, ih]
    constructor
    · rintro (⟨k, h1, h2⟩ | h)
      · exact ⟨k, by omega, h2⟩
      · exact ⟨i, by omega, h⟩
    · rintro ⟨k, h1, h2⟩
      by_cases e : k = i
      · subst e; exact .inr h2
      · exact .inl ⟨k, by omega, h2⟩

set_option maxRecDepth 100000 in
set_option maxHeartbeats 1600000 in
theorem isPermutationI (A1 : Option Addr) (xs : List Int) (c1 lo hi : Nat) (w : World) (hv : OwnI w lo hi (.slice A1 xs.length c1) xs) (hhi : hi ≤ w.heap.size) :
    Calls Try.prog 36 #[.slice A1 xs.length c1] w fun e w' => e = .returned (.bool (permB xs)) ∧ Below w.heap.size w w' := by
  have HV := Lib.hid hv
  clear hv
  by_cases h8 : 8 < xs.length
  · have HP := Lib.hid (perm_long h8)
    have h8i : (8 : Int) < (xs.length : Int) := by omega
    go_enter Try.func36, Try.ntmps36
    go_wp2
    go_ret
    exact ⟨ret_bool HP.out.symm, Below.refl _ _⟩
  · have h8i : ¬ (8 : Int) < (xs.length : Int) := by omega
    have hz := zeroFound
    have HN0 := Lib.hid (FoB.new w)
    generalize Z8 = zz at hz HN0
    go_enter Try.func36, Try.ntmps36
    go_wp2
    go_loopw [11] (fun x wr => ∃ j : Nat, j ≤ xs.length ∧ x = .int .i64 j ∧ FoB wr w.heap.size (pmF xs j) ∧ Below w.heap.size w wr ∧ ∀ q, q < j → pmOk xs q) (fun x _ => xs.length - (intOf x).toNat)
    case atStart => exact ⟨0, Nat.zero_le _, rfl, HN0.out, (Below.refl _ _).alloc (Nat.le_refl _) _, fun q h => by omega⟩
    case round =>
      obtain ⟨j, hj, rfl, hf, hb, hok⟩ := hrel
      have HF := Lib.hid hf
      have HB := Lib.hid hb
      have HOK := Lib.hid hok
      clear hf hb hok
      by_cases hlt : j < xs.length
      · obtain ⟨g1, p1, e1, -, -, hc1, -⟩ := (HV.out.keep HB.out hhi).cell hlt
        simp only [Value.slice.injEq] at e1
        obtain ⟨rfl, -, rfl⟩ := e1
        have hji : (j : Int) < (xs.length : Int) := by omega
        have HNO := Lib.hid (fun h : ¬ pmOk xs j => perm_no hlt h)
        have HPI := Lib.hid (fun q => pmF_iff xs j q)
        have HPS := Lib.hid (fun q => show pmF xs (j + 1) q = (pmF xs j q || decide (xs.getD j 0 = (q : Int))) from rfl)
        generalize hy : xs.getD j 0 = y at hc1 HPS
        have HY := Lib.hid hy
        clear hy
        by_cases y0 : y < 0
        · have d0 : decide (y < 0) = true := decide_eq_true y0
          go_wp2
          go_ret
          exact ⟨ret_bool (HNO.out fun h => by have := h.1; rw [HY.out] at this; omega).symm, HB.out⟩
        · have d0 : decide (y < 0) = false := decide_eq_false y0
          by_cases y1 : (xs.length : Int) ≤ y
          · have d1 : decide ((xs.length : Int) ≤ y) = true := decide_eq_true y1
            go_wp2
            go_ret
            exact ⟨ret_bool (HNO.out fun h => by have := h.2.1; rw [HY.out] at this; omega).symm, HB.out⟩
          · have d1 : decide ((xs.length : Int) ≤ y) = false := decide_eq_false y1
            obtain ⟨k, rfl⟩ : ∃ k : Nat, y = k := ⟨y.toNat, by omega⟩
            obtain ⟨hc2, hf2⟩ := HF.out.cell (q := k) (by omega)
            have hk8 : (k : Int) < 8 := by omega
            have hkl : k < xs.length := by omega
            have hkl2 : ¬ xs.length ≤ k := by omega
            have d2 : decide (xs.length ≤ k) = false := decide_eq_false hkl2
            clear y0 y1 d0 d1
            rcases hb1 : pmF xs j k with _ | _
            · rw [hb1] at hc2
              have HOK2 := Lib.hid (show pmOk xs j from ⟨by rw [HY.out]; omega, by rw [HY.out]; omega, fun r hr e => by
                have := (HPI.out k).2 ⟨r, hr, e.trans HY.out⟩
                rw [hb1] at this; cases this⟩)
              go_wp2
              refine ⟨⟨j + 1, by omega, by simp, HF.out.set (k := k) (f' := pmF xs (j + 1)) (by rw [HPS.out]; simp) (fun q hq hne => by rw [HPS.out, decide_eq_false (by omega), Bool.or_false]), HB.out.setCell (p := ⟨w.heap.size, k, none⟩) (Nat.le_refl _) _, fun q hq => ?_⟩, by simp [intOf]; omega⟩
              by_cases e : q < j
              · exact HOK.out q e
              · obtain rfl : q = j := by omega
                exact HOK2.out
            · rw [hb1] at hc2
              obtain ⟨r, hr, he⟩ := (HPI.out k).1 hb1
              have HR := Lib.hid (HNO.out fun h => h.2.2 r hr (he.trans HY.out.symm))
              clear hr he
              go_wp2
              go_ret
              exact ⟨ret_bool HR.out.symm, HB.out⟩
      · obtain rfl : j = xs.length := by omega
        go_wp2
        go_ret
        refine ⟨ret_bool ?_, HB.out⟩
        unfold permB
        exact (decide_eq_true ⟨by omega, HOK.out⟩).symm

set_option maxRecDepth 100000 in
set_option maxHeartbeats 1600000 in
theorem inverseI (A1 : Option Addr) (xs : List Int) (c1 lo hi : Nat) (w : World) (hv : OwnI w lo hi (.slice A1 xs.length c1) xs) (hhi : hi ≤ w.heap.size) (hm : permB xs = true) :
    Calls Try.prog 50 #[.slice A1 xs.length c1] w (AnsI (ivL xs xs.length) w) := by
  have HV := Lib.hid hv
  clear hv
  have h16 := (perm_yes hm).1
  have HOK := Lib.hid (perm_yes hm).2
  clear hm
  obtain ⟨i0, hi0, hz0, hz1, hz2⟩ := info_parts info3
  go_enter Try.func50, Try.ntmps50
  go_wp2_with (at_make; go_must (refine wpList_make_full _ rfl _ _ 25 rfl w.heap.size 3 i0 (.int .i64 0) 1 Try.underlying25 hi0 hz0 hz1 .i64 .i64 (xs.length : Int) (xs.length : Int) xs.length rfl rfl rfl rfl (by rw [hz2]; omega) (by unfold maxLen; omega) (Nat.le_refl _) ?_); intro w2 hown1 hgrow1)
  have HTB := Lib.hid (TbR.made hown1)
  have HB2 := Lib.hid ((Below.refl w.heap.size w).grown hgrow1 (Nat.le_refl _) (fun k hk => by cases hk))
  clear hown1 hgrow1
  go_loopw [11] (fun y wr => ∃ i : Nat, i ≤ xs.length ∧ y = .int .i64 i ∧ TbR wr w.heap.size (ivL xs i) ∧ Below w.heap.size w wr) (fun y _ => xs.length - (intOf y).toNat)
  case atStart => exact ⟨0, Nat.zero_le _, rfl, HTB.out, HB2.out⟩
  case round =>
    obtain ⟨i, hi1, rfl, htb, hb⟩ := hrel
    have HT := Lib.hid htb
    have HB := Lib.hid hb
    clear htb hb
    by_cases hlt : i < xs.length
    · obtain ⟨g1, p1, e1, -, -, hc1, -⟩ := (HV.out.keep HB.out hhi).cell hlt
      simp only [Value.slice.injEq] at e1
      obtain ⟨rfl, -, rfl⟩ := e1
      obtain ⟨m0, m1, -⟩ := HOK.out i hlt
      have hii : (i : Int) < (xs.length : Int) := by omega
      have HSU := Lib.hid (show ivL xs (i + 1) = (ivL xs i).set (xs.getD i 0).toNat (i : Int) from rfl)
      have hlen := ivL_len xs i
      obtain ⟨q, hq⟩ : ∃ q : Nat, xs.getD i 0 = q := ⟨(xs.getD i 0).toNat, by omega⟩
      rw [hq] at hc1 m0 m1 HSU
      have hqx : q < xs.length := by omega
      have hqi : (q : Int) < (xs.length : Int) := by omega
      obtain ⟨hc2, hf2⟩ := HT.out.cell (j := q) (by rw [hlen]; exact hqx)
      generalize (ivL xs i).getD q 0 = z0 at hc2
      clear hq hlen m0 m1
      go_wp2
      go_roundw
      case rel => exact ⟨i + 1, by omega, by simp, by rw [HSU.out]; exact HT.out.set _ _, HB.out.setCell (p := ⟨w.heap.size, q, none⟩) (Nat.le_refl _) _⟩
      case measure => simp [intOf]; omega
    · obtain rfl : i = xs.length := by omega
      have hlen := ivL_len xs xs.length
      have HR := Lib.hid (HT.out.own (Nat.le_refl _) xs.length)
      rw [hlen] at HR
      clear hlen
      go_wp2
      go_ret
      exact ⟨_, rfl, HR.out, HB.out⟩

end Go.Proofs.Ytgeppabpkbepdaa
