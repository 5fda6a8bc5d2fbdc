/- The program's composition of series: Horner's rule over slices.Backward. -/
import Derived.RangeFuncBox
import Derived.RangeFuncNested
import Derived.RangeFuncBound
import Derived.RangeFuncCalls
import Derived.RangeFuncLeaves
import Derived.Shelf.Abstract
import Derived.WalkKit
import Derived.OwnWalkIn
import Derived.TacticsInMore
import Derived.LoopNIn
import Derived.LoopIn
import Derived.Test.YtbikipacfmaiaaaRev30
namespace Go.Proofs.Ytbikipacfmaiaaa
open Go.ChangeShapes Go.WideShapes Go.ChangeAt Go.RowKit Go.Shelf
attribute [local go_sem] Oper.semAt_some
set_option linter.unusedVariables false

/-- What the iterator yields at its step k. -/
def bwE (xs : List Int) (k : Nat) : Array Value := #[.int .i64 ((xs.length : Int) - 1 - (k : Int)), .int .i64 (xs.getD (xs.length - 1 - k) 0)]
def KpB (n₀ Bn : Nat) (W W' : World) : Prop := Below n₀ W W' ∧ W'.heap[Bn]? = W.heap[Bn]?
theorem KpB.t {n₀ Bn : Nat} {A B C : World} (h : KpB n₀ Bn A B) (k : KpB n₀ Bn B C) : KpB n₀ Bn A C := ⟨h.1.trans k.1, k.2.trans h.2⟩
theorem KpB.b {n₀ Bn : Nat} {w : World} (hn : n₀ ≤ w.heap.size) (hB : Bn < w.heap.size) (W : World) (l : Nat) (o o' : Obj) (hl : w.heap.size ≤ l) (h : W.heap[l]? = some o) (h1 : o.isCells = false) (h2 : o.isWalk = false) : KpB n₀ Bn W (W.putObj l o') :=
  ⟨belowK_b hn W l o o' hl h h1 h2, World.putObj_heap_other (by omega)⟩
theorem boxBelow' {W W' : World} {B : Nat} {t : TypeId} {v : Value} (h : Boxed W B t v) (hb : Below W.heap.size W W') : Boxed W' B t v := (hb.block B h.lt).trans h
theorem keepsBelow' (B : Nat) {W W' : World} (hb : Below W.heap.size W W') : KeepsFrom B W W' := ⟨hb.size, fun k o _ hk _ => (hb.block k (Array.getElem?_eq_some_iff.1 hk).1).trans hk⟩

set_option maxRecDepth 100000 in
set_option maxHeartbeats 1000000 in
theorem backwardS (F : Fence) (n : Nat) (h5 : F.fn 52) (hro : F.round = none) (A : Option Addr) (len cap : Nat) (w : World) :
    CallsIn F n Try.prog 52 #[.slice A len cap] w fun e w' => e = .returned (.func (.func 54) #[] #[.pointer (some ⟨w.heap.size, 0, none⟩)]) ∧ w' = w.alloc (.cells #[.slice A len cap] 38) := by
  refine callsIn_of_wp Try.func52 rfl h5 ?_ hro
  simp only [Try.ntmps52, List.size_toArray, List.length_cons, List.length_nil, Nat.reduceAdd, Nat.reduceSub, Array.replicate_succ, Array.replicate_zero, List.push_toArray, List.append_toArray, List.nil_append, List.cons_append]
  gi_wp2
  go_ret
  exact ⟨rfl, rfl⟩

set_option maxRecDepth 100000 in
set_option maxHeartbeats 2000000 in
theorem backwardS1 (F : Fence) (n : Nat) (h6 : F.fn 54) (hro : F.round = none) (hn : 1 ≤ n) (l Bn n₀ lo hi : Nat) (A : Option Addr) (cap : Nat) (xs : List Int) (hhi : hi ≤ n₀) (hlx : xs.length ≤ 1099511627776) (J Jx : List Nat → World → Prop)
    (hY : ∀ pre x W, J pre W → pre.length < xs.length → YieldAt F (n - 1) Try.prog l (bwE xs x) W fun e W' =>
      (e = .returned (.bool true) ∧ J (pre ++ [x]) W' ∧ KpB n₀ Bn W W') ∨ (e = .returned (.bool false) ∧ Jx (pre ++ [x]) W'))
    (W : World) (hBn : W.cell? ⟨Bn, 0, none⟩ = some (.slice A xs.length cap)) (hL : OwnI W lo hi (.slice A xs.length cap) xs) (h0 : J [] W) :
    CallsIn F n Try.prog 54 #[.func (.yield l) #[] #[], .pointer (some ⟨Bn, 0, none⟩)] W fun e W' => (∃ v, e = .returned v) ∧
      ((∃ ys, ys = List.range xs.length ∧ J ys W') ∨ (∃ pre, True ∧ Jx pre W')) := by
  refine callsIn_of_wp Try.func54 rfl h6 ?_ hro
  simp only [Try.ntmps54, List.size_toArray, List.length_cons, List.length_nil, Nat.reduceAdd, Nat.reduceSub, Array.replicate_succ, Array.replicate_zero, List.push_toArray, List.append_toArray, List.nil_append, List.cons_append]
  have vN : IntKind.i64.wrap ((xs.length : Int) - 1) = (xs.length : Int) - 1 := IntWalk.i64_in _ (by omega)
  gi_wp2
  gi_loopw [3] (fun x wr => ∃ k : Nat, k ≤ xs.length ∧ x = .int .i64 ((xs.length : Int) - 1 - (k : Int)) ∧ wr.cell? ⟨Bn, 0, none⟩ = some (.slice A xs.length cap) ∧ OwnI wr lo hi (.slice A xs.length cap) xs ∧ J (List.range k) wr) (fun x _ => (intOf x + 1).toNat)
  case atStart => exact ⟨0, Nat.zero_le _, by simp, hBn, hL, h0⟩
  case round =>
    obtain ⟨k, hk, rfl, hbc, ho, hJs⟩ := hrel
    by_cases hlt : k < xs.length
    · obtain ⟨q, hq⟩ : ∃ q : Nat, q = xs.length - 1 - k := ⟨_, rfl⟩
      obtain ⟨g, p, e1, -, -, hc, -⟩ := ho.cell (j := q) (by omega)
      simp only [Value.slice.injEq] at e1
      obtain ⟨rfl, -, rfl⟩ := e1
      have HQ := Lib.hid (show (xs.length : Int) - 1 - (k : Int) = (q : Int) by omega)
      have HSU := Lib.hid (show List.range (k + 1) = List.range k ++ [k] from List.range_succ)
      have hki : (q : Int) < (xs.length : Int) := by omega
      have hq0 : (0 : Int) ≤ (q : Int) := by omega
      have hqk : k + q + 1 = xs.length := by omega
      rw [HQ.out]
      have hY2 := hY (List.range k) k wr hJs (by rw [List.length_range]; omega)
      unfold bwE at hY2
      rw [HQ.out, ← hq] at hY2
      generalize xs.getD q 0 = y at *
      have vQ : IntKind.i64.wrap ((q : Int) - 1) = (q : Int) - 1 := IntWalk.i64_in _ (by omega)
      have HQK := Lib.hid hqk
      clear hq hqk
      obtain ⟨fn, tmps, assign, body, hy, hR⟩ := hY2
      gi_wp2
      refine hR.mono ?_
      rintro e W3 (⟨rfl, hJ3, hk3⟩ | ⟨rfl, hJx3⟩)
      · have ho3 := ho.keep hk3.1 hhi
        have hb3 : W3.cell? ⟨Bn, 0, none⟩ = some (.slice (some ⟨g, 0, none⟩) xs.length cap) := by rw [← hbc]; simp [World.cell?, hk3.2]
        gi_wp2
        go_roundw
        case rel => exact ⟨k + 1, by omega, by have := HQK.out; congr 1; omega, hb3, ho3, by rw [HSU.out]; exact hJ3⟩
        case measure => simp [intOf]
      · gi_wp2
        refine bodyPost_ret (results_none rfl _ _ _) rfl ?_
        exact ⟨⟨_, rfl⟩, .inr ⟨_, trivial, hJx3⟩⟩
    · obtain rfl : k = xs.length := by omega
      have e : (xs.length : Int) - 1 - (xs.length : Int) = -1 := by omega
      rw [e]
      gi_wp2
      go_end0
      exact ⟨⟨_, rfl⟩, .inl ⟨_, rfl, hJs⟩⟩

theorem backwardS_stops (F : Fence) (n : Nat) (h6 : F.fn 54) (hro : F.round = none) (hn : 1 ≤ n) (Bn n₀ lo hi : Nat) (A : Option Addr) (cap : Nat) (xs : List Int) (hhi : hi ≤ n₀) (hlx : xs.length ≤ 1099511627776) (w : World) (hBn : Bn < w.heap.size) (hn₀ : n₀ ≤ w.heap.size)
    (hc : w.cell? ⟨Bn, 0, none⟩ = some (.slice A xs.length cap)) (hL : OwnI w lo hi (.slice A xs.length cap) xs) :
    SeqStopsK F n Try.prog 54 #[.pointer (some ⟨Bn, 0, none⟩)] (bwE xs) (KpB n₀ Bn) (fun ys => ys = List.range xs.length) (fun _ => True) xs.length w := fun l J Jx W hW _ _ hY h0 =>
  backwardS1 F n h6 hro hn l Bn n₀ lo hi A cap xs hhi hlx J Jx hY W ((hW.cell (p := ⟨Bn, 0, none⟩) hBn).trans hc) (hL.keep hW (by omega)) h0

/-- Bounds of what Horner's rule makes out of coefficients up to 3. -/
def mfL : Nat → List Int
  | 0 => (List.range 8).map fun _ => 0
  | t + 1 => (tmL (mfL t) UL 8).set 0 ((tmL (mfL t) UL 8).getD 0 0 + 3)
theorem mfL_len : ∀ t, (mfL t).length = 8
  | 0 => by simp [mfL]
  | t + 1 => by rw [mfL, List.length_set, tmL_len]
theorem mf_bd : ∀ t, t < 9 → ∀ q, q < 8 → 0 ≤ (mfL t).getD q 0 ∧ (mfL t).getD q 0 ≤ 4899384 := by decide +kernel
theorem mf_nn (t q : Nat) (ht : t < 9) : 0 ≤ (mfL t).getD q 0 ∧ (mfL t).getD q 0 ≤ 4899384 := by
  by_cases h : q < 8
  · exact mf_bd t ht q h
  · rw [getD_out (by rw [mfL_len]; omega)]; decide
def Dm (t : Nat) (L : List Int) : Prop := ∀ q, -((mfL t).getD q 0) ≤ L.getD q 0 ∧ L.getD q 0 ≤ (mfL t).getD q 0
theorem Dm.step {t N : Nat} {L o : List Int} {c : Int} (h : Dm t L) (hd : Dom o) (hN : N ≤ 8) (ht : t < 8) (hc : -3 ≤ c ∧ c ≤ 3) : Dm (t + 1) ((tmL L o N).set 0 ((tmL L o N).getD 0 0 + c)) := by
  intro q
  have hn := mf_nn (t + 1) q (by omega)
  by_cases hq : q < N
  · rw [set0_at _ _ _ (by rw [tmL_len]; omega), mfL, set0_at _ _ _ (by rw [tmL_len]; omega), tmL_at _ _ (show 0 < N by omega), tmL_at _ _ (show 0 < 8 by omega), tmL_at _ _ hq, tmL_at _ _ (show q < 8 by omega)]
    have h1 := pS_dom h hd q (q + 1)
    have h2 := pS_dom h hd 0 (0 + 1)
    split <;> omega
  · rw [getD_out (l := (tmL L o N).set 0 ((tmL L o N).getD 0 0 + c)) (by rw [List.length_set, tmL_len]; omega)]; omega
theorem Dm.inn {t : Nat} {L : List Int} (h : Dm t L) (ht : t < 9) (q : Nat) : -4899384 ≤ L.getD q 0 ∧ L.getD q 0 ≤ 4899384 := by
  have h1 := h q
  have h2 := mf_nn t q ht
  omega
theorem Dm.zero (N : Nat) : Dm 0 ((List.range N).map fun _ => 0) := by
  intro q
  have h2 := mf_nn 0 q (by omega)
  by_cases h : q < N
  · rw [show ((List.range N).map fun _ => (0 : Int)).getD q 0 = 0 by simp [List.getD, h]]; omega
  · rw [getD_out (l := (List.range N).map fun _ => (0 : Int)) (by rw [List.length_map, List.length_range]; omega)]; omega
/-- The sum so far lies in a row that box S names. -/
def OfS (xs o : List Int) (n lo S : Nat) (pre : List Nat) (W : World) : Prop := ∃ g L, Boxed W S 38 (.slice (some ⟨g, 0, none⟩) n n) ∧ OwnI W lo (g + 1) (.slice (some ⟨g, 0, none⟩) n n) L ∧ lo ≤ g ∧ g < W.heap.size ∧ L.length = n ∧ Dm pre.length L ∧ (pre = List.range pre.length → L = ofL xs o n pre.length)
theorem OfS.own (xs o : List Int) (n lo S B : Nat) : OwnFrom B (OfS xs o n lo S) := by
  rintro s X Y row ⟨g, L, hB, hO, h1, h2, h3, h4, h5⟩ hg hr
  have hrow : ∀ (k : Nat) (o' : Obj), X.heap[k]? = some o' → o'.isCells = true → some k ≠ row := by
    intro k o' hk hc e
    obtain ⟨-, o2, ho2, hc2⟩ := hr k e.symm
    rw [hk] at ho2
    cases ho2
    rw [hc] at hc2
    cases hc2
  refine ⟨g, L, hB.kept hg (hrow S _ hB rfl), ?_, h1, Nat.lt_of_lt_of_le h2 hg.size, h3, h4, h5⟩
  obtain ⟨A, cap, e, hh⟩ := hO
  refine ⟨A, cap, e, ?_⟩
  rcases hh with rfl | ⟨g', C, a1, a2, a3, a4, a5⟩
  · exact .inl rfl
  · exact .inr ⟨g', C, a1, a2, a3, (hg.block g' (Array.getElem?_eq_some_iff.1 a4).1 (hrow g' _ a4 rfl)).trans a4, a5⟩

end Go.Proofs.Ytbikipacfmaiaaa
