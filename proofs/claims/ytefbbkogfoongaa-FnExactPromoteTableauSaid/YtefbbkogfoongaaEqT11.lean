/- slices.Equal on ints; slices.EqualFunc on tables with it. -/
import Derived.Test.YtefbbkogfoongaaSpec2G
import Derived.Test.YtefbbkogfoongaaTblLZ
import Derived.BigQuiet
namespace Go.Proofs.Ytefbbkogfoongaa
open Go.ChangeShapes Go.WideShapes Go.ChangeAt Go.RowKit
set_option linter.unusedVariables false

set_option maxRecDepth 100000 in
set_option maxHeartbeats 800000 in
theorem equalCT (v u : Value) (xs ys : List Int) (lo hi lo' hi' : Nat) (w : World) (hv : OwnI w lo hi v xs) (hu : OwnI w lo' hi' u ys) (hl : xs.length ≤ 1099511627776) :
    Calls Try.prog 32 #[v, u] w fun e w' => e = .returned (.bool (decide (xs = ys))) ∧ Below w.heap.size w w' := by
  obtain ⟨A1, c1, rfl, k1⟩ := id hv
  obtain ⟨A2, c2, rfl, k2⟩ := id hu
  clear k1 k2
  have HV := Lib.hid hv
  have HU := Lib.hid hu
  clear hv hu
  by_cases hll : xs.length = ys.length
  · have hne : ((xs.length : Int) != (ys.length : Int)) = false := by simp [hll]
    have HLL := Lib.hid hll
    clear hll
    go_enter Try.func32, Try.ntmps32
    go_wp2
    go_loopw [13] (fun x wr => ∃ i d : Nat, i ≤ xs.length ∧ x = .int .i64 i ∧ wr = w.drewN d ∧ ∀ j, j < i → xs.getD j 0 = ys.getD j 0) (fun x _ => xs.length - (intOf x).toNat)
    case atStart => exact ⟨0, 0, Nat.zero_le _, rfl, rfl, fun j hj => absurd hj (Nat.not_lt_zero _)⟩
    case round =>
      obtain ⟨i, d, hi1, rfl, rfl, ha⟩ := hrel
      have HA := Lib.hid ha
      clear ha
      by_cases hlt : i < xs.length
      · obtain ⟨g1, p1, e1, -, -, hc1, -⟩ := HV.out.cell hlt
        obtain ⟨g2, p2, e2, -, -, hc2, -⟩ := HU.out.cell (show i < ys.length by have := HLL.out; omega)
        simp only [Value.slice.injEq] at e1 e2
        obtain ⟨rfl, -, -⟩ := e1
        obtain ⟨rfl, -, -⟩ := e2
        have hii : (i : Int) < (xs.length : Int) := by omega
        have hi2 : (i : Int) < (ys.length : Int) := by have := HLL.out; omega
        have HNX := Lib.hid (show xs.getD i 0 = ys.getD i 0 → ∀ j, j < i + 1 → xs.getD j 0 = ys.getD j 0 from fun h j hj => by
          by_cases e : j < i
          · exact HA.out j e
          · obtain rfl : j = i := by omega
            exact h)
        have HNO := Lib.hid (show xs.getD i 0 ≠ ys.getD i 0 → decide (xs = ys) = false from fun h => decide_eq_false fun h2 => h (by rw [h2]))
        generalize xs.getD i 0 = y at *
        generalize ys.getD i 0 = z at *
        by_cases e : y = z
        · have he : (y != z) = false := by simp [e]
          have HX := Lib.hid (HNX.out e)
          clear e HNX HNO
          go_wp2
          go_quiet (fail)
          go_wp2
          exact ⟨⟨i + 1, _, by omega, by simp, rfl, HX.out⟩, by simp [intOf]; omega⟩
        · have he : (y != z) = true := by simp [e]
          have HX := Lib.hid (HNO.out e)
          clear e HNX HNO
          go_wp2
          go_quiet (fail)
          go_wp2
          go_ret
          exact ⟨ret_bool HX.out.symm, below_drewN (below_drewN (Below.refl _ _) _) _⟩
      · obtain rfl : i = xs.length := by omega
        have HD := Lib.hid (show decide (xs = ys) = true from decide_eq_true (by
          apply List.ext_getElem HLL.out
          intro j h1 h2
          have := HA.out j h1
          rwa [List.getD_eq_getElem?_getD, List.getD_eq_getElem?_getD, List.getElem?_eq_getElem h1, List.getElem?_eq_getElem h2] at this))
        go_wp2
        go_ret
        exact ⟨ret_bool HD.out.symm, below_drewN (Below.refl _ _) _⟩
  · have hne : ((xs.length : Int) != (ys.length : Int)) = true := by simp; omega
    have HD := Lib.hid (show decide (xs = ys) = false from decide_eq_false fun h => hll (by rw [h]))
    clear hll
    go_enter Try.func32, Try.ntmps32
    go_wp2
    go_ret
    exact ⟨ret_bool HD.out.symm, Below.refl _ _⟩

set_option maxRecDepth 100000 in
set_option maxHeartbeats 1600000 in
theorem equalFuncT (v u : Value) (ls ms : List (List Int)) (lo hi lo' hi' : Nat) (w : World) (hv : OwnT w lo hi v ls) (hu : OwnT w lo' hi' u ms) (h1 : hi ≤ w.heap.size) (h2 : hi' ≤ w.heap.size) (hl : ls.length ≤ 1099511627776) (hr : ∀ j, (ls.getD j []).length ≤ 1099511627776) :
    Calls Try.prog 31 #[v, u, .func (.func 32) #[] #[]] w fun e w' => e = .returned (.bool (decide (ls = ms))) ∧ Below w.heap.size w w' := by
  obtain ⟨A1, c1, rfl, k1⟩ := id hv
  obtain ⟨A2, c2, rfl, k2⟩ := id hu
  clear k1 k2
  have HV := Lib.hid hv
  have HU := Lib.hid hu
  have HR := Lib.hid hr
  clear hv hu hr
  by_cases hll : ls.length = ms.length
  · have hne : ((ls.length : Int) != (ms.length : Int)) = false := by simp [hll]
    have HLL := Lib.hid hll
    clear hll
    go_enter Try.func31, Try.ntmps31
    go_wp2
    go_loopw [17] (fun x wr => ∃ i : Nat, i ≤ ls.length ∧ x = .int .i64 i ∧ Below w.heap.size w wr ∧ ∀ j, j < i → ls.getD j [] = ms.getD j []) (fun x _ => ls.length - (intOf x).toNat)
    case atStart => exact ⟨0, Nat.zero_le _, rfl, Below.refl _ _, fun j hj => absurd hj (Nat.not_lt_zero _)⟩
    case round =>
      obtain ⟨i, hi1, rfl, hb, ha⟩ := hrel
      have HA := Lib.hid ha
      have HB := Lib.hid hb
      have hB := hb.size
      clear ha hb
      by_cases hlt : i < ls.length
      · obtain ⟨o1, r1, rfl, -, -, hc1, ho1⟩ := (HV.out.keep HB.out h1).cell hlt
        obtain ⟨o2, r2, rfl, -, -, hc2, ho2⟩ := (HU.out.keep HB.out h2).cell (show i < ms.length by have := HLL.out; omega)
        have hii : (i : Int) < (ls.length : Int) := by omega
        have hi2 : (i : Int) < (ms.length : Int) := by have := HLL.out; omega
        have HNX := Lib.hid (show ls.getD i [] = ms.getD i [] → ∀ j, j < i + 1 → ls.getD j [] = ms.getD j [] from fun h j hj => by
          by_cases e : j < i
          · exact HA.out j e
          · obtain rfl : j = i := by omega
            exact h)
        have HNO := Lib.hid (show ls.getD i [] ≠ ms.getD i [] → decide (ls = ms) = false from fun h => decide_eq_false fun h2 => h (by rw [h2]))
        have HE := Lib.hid (equalCT r1 r2 _ _ lo hi lo' hi' wr ho1 ho2 (HR.out i))
        generalize ls.getD i [] = y at *
        generalize ms.getD i [] = z at *
        clear ho1 ho2
        by_cases e : y = z
        · have he : decide (y = z) = true := by simp [e]
          rw [he] at HE
          have HX := Lib.hid (HNX.out e)
          clear e he HNX HNO
          go_wp2_with fail
          (with_reducible refine HE.out.mono ?_)
          rintro e w2 ⟨rfl, hb2⟩
          have HB2 := Lib.hid (HB.out.trans (hb2.mono hB))
          clear hb2
          go_wp2
          exact ⟨⟨i + 1, by omega, by simp, HB2.out, HX.out⟩, by simp [intOf]; omega⟩
        · have he : decide (y = z) = false := by simp [e]
          rw [he] at HE
          have HX := Lib.hid (HNO.out e)
          clear e he HNX HNO
          go_wp2_with fail
          (with_reducible refine HE.out.mono ?_)
          rintro e w2 ⟨rfl, hb2⟩
          have HB2 := Lib.hid (HB.out.trans (hb2.mono hB))
          clear hb2
          go_wp2
          go_ret
          exact ⟨ret_bool HX.out.symm, HB2.out⟩
      · obtain rfl : i = ls.length := by omega
        have HD := Lib.hid (show decide (ls = ms) = true from decide_eq_true (by
          apply List.ext_getElem HLL.out
          intro j h1 h2
          have := HA.out j h1
          rwa [List.getD_eq_getElem?_getD, List.getD_eq_getElem?_getD, List.getElem?_eq_getElem h1, List.getElem?_eq_getElem h2] at this))
        go_wp2
        go_ret
        exact ⟨ret_bool HD.out.symm, HB.out⟩
  · have hne : ((ls.length : Int) != (ms.length : Int)) = true := by simp; omega
    have HD := Lib.hid (show decide (ls = ms) = false from decide_eq_false fun h => hll (by rw [h]))
    clear hll
    go_enter Try.func31, Try.ntmps31
    go_wp2
    go_ret
    exact ⟨ret_bool HD.out.symm, Below.refl _ _⟩

end Go.Proofs.Ytefbbkogfoongaa
