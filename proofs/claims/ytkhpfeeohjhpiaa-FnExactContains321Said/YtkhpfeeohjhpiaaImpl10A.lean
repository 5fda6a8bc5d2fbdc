/- The program's IsPermutation, DescentsOf, InversionsOf, inverse, InverseOf. -/
import Derived.Test.YtkhpfeeohjhpiaaFact10P
import Derived.Test.YtkhpfeeohjhpiaaRow10
import Derived.BigQuiet
namespace Go.Proofs.Ytkhpfeeohjhpiaa
open Go.ChangeShapes Go.WideShapes Go.ChangeAt Go.RowKit
set_option linter.unusedVariables false

def Z8 : Array Value := Array.replicate 8 (.bool false)
theorem zeroFound (w : World) : (zeroValue 65).run Try.prog w = .ok (.agg Z8) w := by kernel_rfl
/-- Block g holds eight truth values. -/
def FoB (w : World) (g : Nat) (f : Nat → Bool) : Prop := ∃ C : Array Value, w.heap[g]? = some (.cells C 65 (0, 0)) ∧ C.size = 8 ∧ ∀ q, q < 8 → C[q]? = some (.bool (f q))
theorem FoB.lt {w : World} {g : Nat} {f : Nat → Bool} (h : FoB w g f) : g < w.heap.size := by
  obtain ⟨C, h1, -⟩ := h
  exact (Array.getElem?_eq_some_iff.1 h1).1
theorem FoB.cell {w : World} {g : Nat} {f : Nat → Bool} (h : FoB w g f) {q : Nat} (hq : q < 8) : w.cell? ⟨g, q, none⟩ = some (.bool (f q)) ∧ w.frozen? ⟨g, q, none⟩ = false := by
  obtain ⟨C, h1, -, h2⟩ := h
  refine ⟨?_, by simp [World.frozen?, h1]⟩
  rw [cell_of_row w g q C _ (0, 0) h1]
  exact h2 q hq
theorem FoB.set {w : World} {g k : Nat} {f f' : Nat → Bool} {y : Bool} (h : FoB w g f) (hy : f' k = y) (ho : ∀ q, q < 8 → q ≠ k → f' q = f q) : FoB (w.setCell ⟨g, k, none⟩ (.bool y)) g f' := by
  obtain ⟨C, h1, h0, h2⟩ := h
  refine ⟨C.setIfInBounds k (.bool y), by simp [World.setCell, Array.getElem?_modify, h1], by simpa using h0, fun q hq => ?_⟩
  by_cases e : q = k
  · subst e
    rw [Array.getElem?_setIfInBounds_self_of_lt (by omega), hy]
  · rw [Array.getElem?_setIfInBounds_ne (by omega), h2 q hq, ho q hq e]
theorem FoB.new (w : World) : FoB (w.alloc (.cells Z8 65)) w.heap.size fun _ => false := by
  refine ⟨Z8, by rw [show (w.alloc (.cells Z8 65)).heap = w.heap.push (.cells Z8 65) from rfl]; simp, by simp [Z8], fun q hq => ?_⟩
  simp [Z8, hq]
theorem FoB.drewN {w : World} {g : Nat} {f : Nat → Bool} (h : FoB w g f) (n : Nat) : FoB (w.drewN n) g f := h

/-- The numbers among the first i. -/
def pmF (xs : List Int) : Nat → Nat → Bool
  | 0, _ => false
  | i + 1, q => pmF xs i q || decide (xs.getD i 0 = (q : Int))
theorem pmF_iff (xs : List Int) (i q : Nat) : pmF xs i q = true ↔ ∃ k, k < i ∧ xs.getD k 0 = (q : Int) := by
  induction i with
  | zero => exact ⟨fun h => by simp [pmF] at h, fun ⟨k, h, _⟩ => absurd h (Nat.not_lt_zero _)⟩
  | succ i ih =>
    rw [pmF, Bool.or_eq_true, decide_eq_true_eq, ih]
    constructor
    · rintro (⟨k, h1, h2⟩ | h)
      · exact ⟨k, by omega, h2⟩
      · exact ⟨i, by omega, h⟩
    · rintro ⟨k, h1, h2⟩
      by_cases e : k = i
      · subst e; exact .inr h2
      · exact .inl ⟨k, by omega, h2⟩

set_option maxRecDepth 100000 in
set_option maxHeartbeats 1600000 in
theorem isPermutationI (A1 : Option Addr) (xs : List Int) (c1 lo hi : Nat) (w : World) (hv : OwnI w lo hi (.slice A1 xs.length c1) xs) (hhi : hi ≤ w.heap.size) :
    Calls Try.prog 32 #[.slice A1 xs.length c1] w fun e w' => e = .returned (.bool (permB xs)) ∧ Below w.heap.size w w' := by
  have HV := Lib.hid hv
  clear hv
  by_cases h8 : 8 < xs.length
  · have HP := Lib.hid (perm_long h8)
    have h8i : (8 : Int) < (xs.length : Int) := by omega
    go_enter Try.func32, Try.ntmps32
    go_wp2
    go_ret
    exact ⟨ret_bool HP.out.symm, Below.refl _ _⟩
  · have h8i : ¬ (8 : Int) < (xs.length : Int) := by omega
    have hz := zeroFound
    have HN0 := Lib.hid (FoB.new w)
    generalize Z8 = zz at hz HN0
    go_enter Try.func32, Try.ntmps32
    go_wp2
    go_loopw [11] (fun x wr => ∃ j : Nat, j ≤ xs.length ∧ x = .int .i64 j ∧ FoB wr w.heap.size (pmF xs j) ∧ Below w.heap.size w wr ∧ ∀ q, q < j → pmOk xs q) (fun x _ => xs.length - (intOf x).toNat)
    case atStart => exact ⟨0, Nat.zero_le _, rfl, HN0.out, (Below.refl _ _).alloc (Nat.le_refl _) _, fun q h => by omega⟩
    case round =>
      obtain ⟨j, hj, rfl, hf, hb, hok⟩ := hrel
      have HF := Lib.hid hf
      have HB := Lib.hid hb
      have HOK := Lib.hid hok
      clear hf hb hok
      by_cases hlt : j < xs.length
      · obtain ⟨g1, p1, e1, -, -, hc1, -⟩ := (HV.out.keep HB.out hhi).cell hlt
        simp only [Value.slice.injEq] at e1
        obtain ⟨rfl, -, rfl⟩ := e1
        have hji : (j : Int) < (xs.length : Int) := by omega
        have HNO := Lib.hid (fun h : ¬ pmOk xs j => perm_no hlt h)
        have HPI := Lib.hid (fun q => pmF_iff xs j q)
        have HPS := Lib.hid (fun q => show pmF xs (j + 1) q = (pmF xs j q || decide (xs.getD j 0 = (q : Int))) from rfl)
        generalize hy : xs.getD j 0 = y at hc1 HPS
        have HY := Lib.hid hy
        clear hy
        by_cases y0 : y < 0
        · have d0 : decide (y < 0) = true := decide_eq_true y0
          go_wp2
          go_ret
          exact ⟨ret_bool (HNO.out fun h => by have := h.1; rw [HY.out] at this; omega).symm, HB.out⟩
        · have d0 : decide (y < 0) = false := decide_eq_false y0
          by_cases y1 : (xs.length : Int) ≤ y
          · have d1 : decide ((xs.length : Int) ≤ y) = true := decide_eq_true y1
            go_wp2
            go_ret
            exact ⟨ret_bool (HNO.out fun h => by have := h.2.1; rw [HY.out] at this; omega).symm, HB.out⟩
          · have d1 : decide ((xs.length : Int) ≤ y) = false := decide_eq_false y1
            obtain ⟨k, rfl⟩ : ∃ k : Nat, y = k := ⟨y.toNat, by omega⟩
            obtain ⟨hc2, hf2⟩ := HF.out.cell (q := k) (by omega)
            have hk8 : (k : Int) < 8 := by omega
            have hkl : k < xs.length := by omega
            have hkl2 : ¬ xs.length ≤ k := by omega
            have d2 : decide (xs.length ≤ k) = false := decide_eq_false hkl2
            clear y0 y1 d0 d1
            rcases hb1 : pmF xs j k with _ | _
            · rw [hb1] at hc2
              have HOK2 := Lib.hid (show pmOk xs j from ⟨by rw [HY.out]; omega, by rw [HY.out]; omega, fun r hr e => by
                have := (HPI.out k).2 ⟨r, hr, e.trans HY.out⟩
                rw [hb1] at this; cases this⟩)
              go_wp2
              refine ⟨⟨j + 1, by omega, by simp, HF.out.set (k := k) (f' := pmF xs (j + 1)) (by rw [HPS.out]; simp) (fun q hq hne => by rw [HPS.out, decide_eq_false (by omega), Bool.or_false]), HB.out.setCell (p := ⟨w.heap.size, k, none⟩) (Nat.le_refl _) _, fun q hq => ?_⟩, by simp [intOf]; omega⟩
              by_cases e : q < j
              · exact HOK.out q e
              · obtain rfl : q = j := by omega
                exact HOK2.out
            · rw [hb1] at hc2
              obtain ⟨r, hr, he⟩ := (HPI.out k).1 hb1
              have HR := Lib.hid (HNO.out fun h => h.2.2 r hr (he.trans HY.out.symm))
              clear hr he
              go_wp2
              go_ret
              exact ⟨ret_bool HR.out.symm, HB.out⟩
      · obtain rfl : j = xs.length := by omega
        go_wp2
        go_ret
        refine ⟨ret_bool ?_, HB.out⟩
        unfold permB
        exact (decide_eq_true ⟨by omega, HOK.out⟩).symm

set_option maxRecDepth 100000 in
set_option maxHeartbeats 1600000 in
theorem descentsOfI (A1 : Option Addr) (xs : List Int) (c1 lo hi : Nat) (w : World) (hv : OwnI w lo hi (.slice A1 xs.length c1) xs) (hhi : hi ≤ w.heap.size) :
    Calls Try.prog 37 #[.slice A1 xs.length c1] w fun e w' => e = .returned (.int .i64 (desP xs)) ∧ Below w.heap.size w w' := by
  have HV := Lib.hid hv
  have HM := Lib.hid (isPermutationI _ xs _ lo hi w hv hhi)
  clear hv
  rcases hm : permB xs with _ | _
  · have HP := Lib.hid (show desP xs = -1 from if_neg (by simp [hm]))
    rw [hm] at HM
    clear hm
    go_enter Try.func37, Try.ntmps37
    go_wp2_with fail
    (with_reducible refine HM.out.mono ?_)
    rintro e w' ⟨rfl, hb⟩
    go_wp2
    go_ret
    exact ⟨ret_int HP.out.symm, hb⟩
  · have HP := Lib.hid (show desP xs = (desN xs (xs.length - 1) : Int) from if_pos hm)
    have h16 := (perm_yes hm).1
    rw [hm] at HM
    clear hm
    go_enter Try.func37, Try.ntmps37
    go_wp2_with fail
    (with_reducible refine HM.out.mono ?_)
    rintro e w1 ⟨rfl, hb⟩
    have HB1 := Lib.hid hb
    have HV1 := Lib.hid (HV.out.keep hb hhi)
    clear hb
    go_wp2
    go_loopw [3, 4] (fun x y wr => ∃ (k q : Nat), (k = 0 ∨ k + 1 ≤ xs.length) ∧ y = .int .i64 ((k + 1 : Nat) : Int) ∧ x = .int .i64 (desN xs k : Nat) ∧ wr = w1.drewN q) (fun _ y _ => xs.length - (intOf y).toNat)
    case atStart => exact ⟨0, 0, .inl rfl, rfl, rfl, rfl⟩
    case round =>
      obtain ⟨k, q, hk, rfl, rfl, rfl⟩ := hrel
      have hle := desN_le xs k
      have HSUC := Lib.hid (show desN xs (k + 1) = desN xs k + if xs.getD (k + 1) 0 < xs.getD k 0 then 1 else 0 from rfl)
      by_cases hlt : k + 1 < xs.length
      · obtain ⟨g1, p1, e1, -, -, hc1, -⟩ := HV1.out.cell hlt
        simp only [Value.slice.injEq] at e1
        obtain ⟨rfl, -, rfl⟩ := e1
        obtain ⟨g2, p2, e2, -, -, hc2, -⟩ := HV1.out.cell (show k < xs.length by omega)
        obtain rfl : g1 = g2 := by simpa using (Value.slice.inj e2).1
        generalize desN xs k = n at *
        generalize xs.getD (k + 1) 0 = y at hc1 HSUC
        generalize xs.getD k 0 = x at hc2 HSUC
        have hkp : ((k + 1 : Nat) : Int) - 1 = (k : Int) := by omega
        have HKL := Lib.hid hlt
        generalize hb : k + 1 = b at *
        have HBB := Lib.hid hb
        clear hb
        have hbi : (b : Int) < (xs.length : Int) := by have := HKL.out; omega
        have hki : (k : Int) < (xs.length : Int) := by have := HBB.out; omega
        have hk16 : k ≤ 16 := by omega
        have hb16 : b ≤ 17 := by have := HBB.out; omega
        by_cases c1 : y < x
        · have HE := Lib.hid (HSUC.out.trans (by rw [if_pos c1]))
          go_wp2
          go_quiet (fail)
          go_wp2
          refine ⟨⟨b, q + nq, .inr (by have := HKL.out; omega), by simp, by rw [HE.out]; simp, rfl⟩, by have := HKL.out; simp [intOf]; omega⟩
        · have HE := Lib.hid (HSUC.out.trans (by rw [if_neg c1]))
          have c1d : decide (y < x) = false := decide_eq_false c1
          go_wp2
          go_quiet (fail)
          go_wp2
          refine ⟨⟨b, q + nq, .inr (by have := HKL.out; omega), by simp, by rw [HE.out]; simp, rfl⟩, by have := HKL.out; simp [intOf]; omega⟩
      · have HKE := Lib.hid (show xs.length - 1 = k by omega)
        have hkn : ¬ ((k + 1 : Nat) : Int) < (xs.length : Int) := by omega
        clear HSUC
        generalize ((k + 1 : Nat) : Int) = bb at *
        go_wp2
        go_ret
        exact ⟨ret_int (by rw [HP.out, HKE.out]), below_drewN HB1.out _⟩

set_option maxRecDepth 100000 in
set_option maxHeartbeats 3200000 in
theorem inversionsOfI (A1 : Option Addr) (xs : List Int) (lo hi : Nat) (w : World) (hv : OwnI w lo hi (.slice A1 xs.length xs.length) xs) (hhi : hi ≤ w.heap.size) :
    Calls Try.prog 23 #[.slice A1 xs.length xs.length] w fun e w' => e = .returned (.int .i64 (invP xs)) ∧ Below w.heap.size w w' := by
  have HV := Lib.hid hv
  have HM := Lib.hid (isPermutationI _ xs _ lo hi w hv hhi)
  clear hv
  rcases hm : permB xs with _ | _
  · have HP := Lib.hid (show invP xs = -1 from if_neg (by simp [hm]))
    rw [hm] at HM
    clear hm
    go_enter Try.func23, Try.ntmps23
    go_wp2_with fail
    (with_reducible refine HM.out.mono ?_)
    rintro e w' ⟨rfl, hb⟩
    go_wp2
    go_ret
    exact ⟨ret_int HP.out.symm, hb⟩
  · have HP := Lib.hid (show invP xs = (sumBB (ivR xs) xs.length : Int) from if_pos hm)
    have h16 := (perm_yes hm).1
    rw [hm] at HM
    have HLE := Lib.hid (fun b (hb : b ≤ 8) => show sumBB (ivR xs) b ≤ 64 from Nat.le_trans (sumBB_le _ (ivR_le xs) b) (Nat.mul_le_mul hb hb))
    clear hm
    go_enter Try.func23, Try.ntmps23
    go_wp2_with fail
    (with_reducible refine HM.out.mono ?_)
    rintro e w1 ⟨rfl, hb⟩
    have HB1 := Lib.hid hb
    have HV1 := Lib.hid (HV.out.keep hb hhi)
    clear hb
    go_wp2
    go_loop [3, 13] (fun x y => ∃ b : Nat, b ≤ xs.length ∧ y = .int .i64 b ∧ x = .int .i64 (sumBB (ivR xs) b : Nat)) (fun _ y => xs.length - (intOf y).toNat)
    case atStart => exact ⟨0, Nat.zero_le _, rfl, rfl⟩
    case round =>
      obtain ⟨b, hb, rfl, rfl⟩ := hrel
      have hle := HLE.out b (by omega)
      by_cases hlt : b < xs.length
      · obtain ⟨g1, p1, e1, -, -, hc1, -⟩ := HV1.out.cell hlt
        simp only [Value.slice.injEq] at e1
        obtain ⟨rfl, -, rfl⟩ := e1
        have hbi : (b : Int) < (xs.length : Int) := by omega
        have hbl : (b : Int) ≤ (xs.length : Int) := by omega
        have HSUC := Lib.hid (show sumBB (ivR xs) (b + 1) = sumBB (ivR xs) b + sumB (ivR xs) b b from rfl)
        generalize sumBB (ivR xs) b = nb at *
        have HR := Lib.hid (fun a => show ivR xs a b = if xs.getD b 0 < xs.getD a 0 then 1 else 0 from rfl)
        generalize hx : xs.getD b 0 = x at hc1 HR
        clear hx
        go_wp2
        go_loop [3, 22] (fun x y => ∃ a : Nat, a ≤ b ∧ y = .int .i64 (a : Int) ∧ x = .int .i64 ((nb + sumB (ivR xs) b a : Nat) : Int)) (fun _ y => b - (intOf y).toNat)
        case atStart => exact ⟨0, by omega, rfl, rfl⟩
        case round =>
          obtain ⟨a, ha, rfl, rfl⟩ := hrel
          have hin := sumB_le _ (ivR_le xs) b a
          have HIN := Lib.hid (show sumB (ivR xs) b (a + 1) = sumB (ivR xs) b a + ivR xs a b from rfl)
          have HRB := Lib.hid (HR.out a)
          generalize hnb : sumB (ivR xs) b a = na at *
          have HNB := Lib.hid hnb
          clear hnb
          by_cases hal : a < b
          · obtain ⟨g2, p2, e2, -, -, hc2, -⟩ := HV1.out.cell (show a < xs.length by omega)
            obtain rfl : g1 = g2 := by simpa using (Value.slice.inj e2).1
            generalize xs.getD a 0 = y at hc2 HRB
            have hai : (a : Int) < (b : Int) := by omega
            by_cases c2 : x < y
            · have HE := Lib.hid (HRB.out.trans (if_pos c2))
              go_wp2
              refine ⟨⟨a + 1, by omega, by simp, by rw [HIN.out, HE.out]; congr 1⟩, by simp [intOf]; omega⟩
            · have HE := Lib.hid (HRB.out.trans (if_neg c2))
              have c1d : decide (x < y) = false := decide_eq_false c2
              go_wp2
              refine ⟨⟨a + 1, by omega, by simp, by rw [HIN.out, HE.out]; rfl⟩, by simp [intOf]; omega⟩
          · obtain rfl : a = b := by omega
            go_wp2
            refine ⟨⟨a + 1, by omega, by simp, by rw [HSUC.out, HNB.out]⟩, by simp [intOf]; omega⟩
      · obtain rfl : b = xs.length := by omega
        go_wp2
        go_ret
        exact ⟨ret_int HP.out.symm, HB1.out⟩

set_option maxRecDepth 100000 in
set_option maxHeartbeats 1600000 in
theorem inverseI (A1 : Option Addr) (xs : List Int) (c1 lo hi : Nat) (w : World) (hv : OwnI w lo hi (.slice A1 xs.length c1) xs) (hhi : hi ≤ w.heap.size) (hm : permB xs = true) :
    Calls Try.prog 50 #[.slice A1 xs.length c1] w (AnsI (ivL xs xs.length) w) := by
  have HV := Lib.hid hv
  clear hv
  have h16 := (perm_yes hm).1
  have HOK := Lib.hid (perm_yes hm).2
  clear hm
  obtain ⟨i0, hi0, hz0, hz1, hz2⟩ := info_parts info3
  go_enter Try.func50, Try.ntmps50
  go_wp2_with (at_make; go_must (refine wpList_make_full _ rfl _ _ 25 rfl w.heap.size 3 i0 (.int .i64 0) 1 Try.underlying25 hi0 hz0 hz1 .i64 .i64 (xs.length : Int) (xs.length : Int) xs.length rfl rfl rfl rfl (by rw [hz2]; omega) (by unfold maxLen; omega) (Nat.le_refl _) ?_); intro w2 hown1 hgrow1)
  have HTB := Lib.hid (TbR.made hown1)
  have HB2 := Lib.hid ((Below.refl w.heap.size w).grown hgrow1 (Nat.le_refl _) (fun k hk => by cases hk))
  clear hown1 hgrow1
  go_loopw [11] (fun y wr => ∃ i : Nat, i ≤ xs.length ∧ y = .int .i64 i ∧ TbR wr w.heap.size (ivL xs i) ∧ Below w.heap.size w wr) (fun y _ => xs.length - (intOf y).toNat)
  case atStart => exact ⟨0, Nat.zero_le _, rfl, HTB.out, HB2.out⟩
  case round =>
    obtain ⟨i, hi1, rfl, htb, hb⟩ := hrel
    have HT := Lib.hid htb
    have HB := Lib.hid hb
    clear htb hb
    by_cases hlt : i < xs.length
    · obtain ⟨g1, p1, e1, -, -, hc1, -⟩ := (HV.out.keep HB.out hhi).cell hlt
      simp only [Value.slice.injEq] at e1
      obtain ⟨rfl, -, rfl⟩ := e1
      obtain ⟨m0, m1, -⟩ := HOK.out i hlt
      have hii : (i : Int) < (xs.length : Int) := by omega
      have HSU := Lib.hid (show ivL xs (i + 1) = (ivL xs i).set (xs.getD i 0).toNat (i : Int) from rfl)
      have hlen := ivL_len xs i
      obtain ⟨q, hq⟩ : ∃ q : Nat, xs.getD i 0 = q := ⟨(xs.getD i 0).toNat, by omega⟩
      rw [hq] at hc1 m0 m1 HSU
      have hqx : q < xs.length := by omega
      have hqi : (q : Int) < (xs.length : Int) := by omega
      obtain ⟨hc2, hf2⟩ := HT.out.cell (j := q) (by rw [hlen]; exact hqx)
      generalize (ivL xs i).getD q 0 = z0 at hc2
      clear hq hlen m0 m1
      go_wp2
      go_roundw
      case rel => exact ⟨i + 1, by omega, by simp, by rw [HSU.out]; exact HT.out.set _ _, HB.out.setCell (p := ⟨w.heap.size, q, none⟩) (Nat.le_refl _) _⟩
      case measure => simp [intOf]; omega
    · obtain rfl : i = xs.length := by omega
      have hlen := ivL_len xs xs.length
      have HR := Lib.hid (HT.out.own (Nat.le_refl _) xs.length)
      rw [hlen] at HR
      clear hlen
      go_wp2
      go_ret
      exact ⟨_, rfl, HR.out, HB.out⟩

set_option maxRecDepth 100000 in
set_option maxHeartbeats 1600000 in
theorem inverseOfI (A1 : Option Addr) (xs : List Int) (c1 lo hi : Nat) (w : World) (hv : OwnI w lo hi (.slice A1 xs.length c1) xs) (hhi : hi ≤ w.heap.size) :
    Calls Try.prog 21 #[.slice A1 xs.length c1] w (AnsIB (invOfP xs) (permB xs) w) := by
  have HV := Lib.hid hv
  have HM := Lib.hid (isPermutationI _ xs _ lo hi w hv hhi)
  clear hv
  rcases hm : permB xs with _ | _
  · have HP := Lib.hid (show invOfP xs = [] from if_neg (by simp [hm]))
    rw [hm] at HM
    clear hm
    go_enter Try.func21, Try.ntmps21
    go_wp2_with fail
    (with_reducible refine HM.out.mono ?_)
    rintro e w' ⟨rfl, hb⟩
    go_wp2
    go_ret2
    exact ⟨_, rfl, by rw [HP.out]; exact ⟨none, 0, rfl, .inl rfl⟩, hb⟩
  · have HP := Lib.hid (show invOfP xs = ivL xs xs.length from if_pos hm)
    have HMM := Lib.hid hm
    rw [hm] at HM
    clear hm
    go_enter Try.func21, Try.ntmps21
    go_wp2_with fail
    (with_reducible refine HM.out.mono ?_)
    rintro e w1 ⟨rfl, hb⟩
    have HB1 := Lib.hid hb
    have z1 := hb.size
    have HV1 := Lib.hid (HV.out.keep hb hhi)
    clear hb
    go_wp2_with fail
    (with_reducible refine (inverseI _ xs _ lo hi _ HV1.out (by omega) HMM.out).mono ?_)
    rintro e w2 ⟨v, rfl, ho, hb⟩
    have HO := Lib.hid ho
    have HB2 := Lib.hid hb
    have z2 := hb.size
    clear ho hb
    go_wp2
    go_ret2
    exact ⟨_, rfl, by rw [HP.out]; exact HO.out.wide z1 (Nat.le_refl _), HB1.out.trans (HB2.out.mono z1)⟩

end Go.Proofs.Ytkhpfeeohjhpiaa
