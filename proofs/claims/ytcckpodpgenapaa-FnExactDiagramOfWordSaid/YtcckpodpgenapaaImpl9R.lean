/- The program's arcsOf: an iterator over the arcs of a matching, and its contract. -/
import Derived.RangeFuncNested
import Derived.RangeFuncBound
import Derived.RangeFuncCalls
import Derived.RangeFuncLeaves
import Derived.Shelf.Abstract
import Derived.WalkKit
import Derived.OwnWalkIn
import Derived.TacticsInMore
import Derived.LoopNIn
import Derived.LoopIn
import Derived.Test.YtcckpodpgenapaaImpl9A
namespace Go.Proofs.Ytcckpodpgenapaa
open Go.ChangeShapes Go.WideShapes Go.ChangeAt Go.RowKit Go.Shelf
attribute [local go_sem] Oper.semAt_some
set_option linter.unusedVariables false

/-- The arcs of the first i points. -/
def arcL (xs : List Int) : Nat → List (Int × Int)
  | 0 => []
  | i + 1 => if (i : Int) < xs.getD i 0 then arcL xs i ++ [((i : Int), xs.getD i 0)] else arcL xs i
theorem arcL_le (xs : List Int) (i : Nat) : (arcL xs i).length ≤ i := by
  induction i with
  | zero => exact Nat.le_refl _
  | succ i ih => rw [arcL]; split; (rw [List.length_append, List.length_singleton]; omega); omega
theorem arcL_pre (xs : List Int) (i : Nat) : ∀ k, arcL xs i <+: arcL xs (i + k) := by
  intro k
  induction k with
  | zero => exact List.prefix_refl _
  | succ k ih =>
    refine ih.trans ?_
    rw [show i + (k + 1) = (i + k) + 1 by omega, arcL]
    split
    · exact List.prefix_append _ _
    · exact List.prefix_refl _
/-- An arc as it is handed on. -/
def arcV (p : Int × Int) : Array Value := #[.agg #[.int .i64 p.1, .int .i64 p.2]]

set_option maxRecDepth 100000 in
set_option maxHeartbeats 1000000 in
theorem arcsOf_in (F : Fence) (n : Nat) (h5 : F.fn 74) (hro : F.round = none) (v : Value) (A : Option Addr) (len cap : Nat) (hv : v = .slice A len cap) (w : World) :
    CallsIn F n Try.prog 74 #[.slice A len cap] w fun e w' => e = .returned (.func (.func 76) #[] #[.pointer (some ⟨w.heap.size, 0, none⟩)]) ∧ w' = w.alloc (.cells #[.slice A len cap] 22) := by
  refine callsIn_of_wp Try.func74 rfl h5 ?_ hro
  simp only [Try.ntmps74, List.size_toArray, List.length_cons, List.length_nil, Nat.reduceAdd, Nat.reduceSub, Array.replicate_succ, Array.replicate_zero, List.push_toArray, List.append_toArray, List.nil_append, List.cons_append]
  gi_wp2
  go_ret
  exact ⟨rfl, rfl⟩

set_option maxRecDepth 100000 in
set_option maxHeartbeats 2000000 in
theorem arcs1_in (F : Fence) (n : Nat) (h6 : F.fn 76) (hro : F.round = none) (hn : 1 ≤ n) (l Bn n₀ lo hi : Nat) (A : Option Addr) (cap : Nat) (xs : List Int) (hhi : hi ≤ n₀) (hlx : xs.length ≤ 1099511627776) (J Jx : List (Int × Int) → World → Prop)
    (hY : ∀ pre x W, J pre W → pre.length < xs.length → YieldAt F (n - 1) Try.prog l (arcV x) W fun e W' =>
      (e = .returned (.bool true) ∧ J (pre ++ [x]) W' ∧ Below n₀ W W') ∨ (e = .returned (.bool false) ∧ Jx (pre ++ [x]) W'))
    (W : World) (hBn : W.cell? ⟨Bn, 0, none⟩ = some (.slice A xs.length cap)) (hL : OwnI W lo hi (.slice A xs.length cap) xs) (h0 : J [] W) :
    CallsIn F n Try.prog 76 #[.func (.yield l) #[] #[], .pointer (some ⟨Bn, 0, none⟩)] W fun e W' => (∃ v, e = .returned v) ∧
      ((∃ ys, ys = arcL xs xs.length ∧ J ys W') ∨ (∃ pre, pre <+: arcL xs xs.length ∧ Jx pre W')) := by
  refine callsIn_of_wp Try.func76 rfl h6 ?_ hro
  simp only [Try.ntmps76, List.size_toArray, List.length_cons, List.length_nil, Nat.reduceAdd, Nat.reduceSub, Array.replicate_succ, Array.replicate_zero, List.push_toArray, List.append_toArray, List.nil_append, List.cons_append]
  gi_wp2
  gi_loopw [7] (fun x wr => ∃ k : Nat, k ≤ xs.length ∧ x = .int .i64 k ∧ OwnI wr lo hi (.slice A xs.length cap) xs ∧ J (arcL xs k) wr) (fun x _ => xs.length - (intOf x).toNat)
  case atStart => exact ⟨0, Nat.zero_le _, rfl, hL, h0⟩
  case round =>
    obtain ⟨k, hk, rfl, ho, hJs⟩ := hrel
    by_cases hlt : k < xs.length
    · obtain ⟨g, p, e1, -, -, hc, -⟩ := ho.cell hlt
      simp only [Value.slice.injEq] at e1
      obtain ⟨rfl, -, rfl⟩ := e1
      have hki : (k : Int) < (xs.length : Int) := by omega
      have hlen := arcL_le xs k
      have HSU := Lib.hid (show arcL xs (k + 1) = if (k : Int) < xs.getD k 0 then arcL xs k ++ [((k : Int), xs.getD k 0)] else arcL xs k from rfl)
      have HPR := Lib.hid (arcL_pre xs (k + 1) (xs.length - (k + 1)))
      rw [show k + 1 + (xs.length - (k + 1)) = xs.length by omega] at HPR
      generalize xs.getD k 0 = y at *
      by_cases hky : (k : Int) < y
      · have d1 : decide ((k : Int) < y) = true := decide_eq_true hky
        have HE := Lib.hid (HSU.out.trans (if_pos hky))
        obtain ⟨fn, tmps, assign, body, hy, hR⟩ := hY (arcL xs k) ((k : Int), y) wr hJs (by omega)
        unfold arcV at hy
        dsimp only at hy
        gi_wp2
        refine hR.mono ?_
        rintro e W3 (⟨rfl, hJ3, hk3⟩ | ⟨rfl, hJx3⟩)
        · have ho3 := ho.keep hk3 hhi
          gi_wp2
          go_roundw
          case rel => exact ⟨k + 1, by omega, by simp, ho3, by rw [HE.out]; exact hJ3⟩
          case measure => simp [intOf]; omega
        · gi_wp2
          refine bodyPost_ret (results_none rfl _ _ _) rfl ?_
          exact ⟨⟨_, rfl⟩, .inr ⟨_, by rw [← HE.out]; exact HPR.out, hJx3⟩⟩
      · have d1 : decide ((k : Int) < y) = false := decide_eq_false hky
        have HE := Lib.hid (HSU.out.trans (if_neg hky))
        gi_wp2
        refine ⟨fun _ h => (by cases h), ?_⟩
        gi_wp2
        go_roundw
        case rel => exact ⟨k + 1, by omega, by simp, ho, by rw [HE.out]; exact hJs⟩
        case measure => simp [intOf]; omega
    · obtain rfl : k = xs.length := by omega
      gi_wp2
      go_end0
      exact ⟨⟨_, rfl⟩, .inl ⟨_, rfl, hJs⟩⟩

end Go.Proofs.Ytcckpodpgenapaa
