/- ValueAt, both functions; slices.Backward. -/
import Derived.RangeFuncBox
import Derived.RangeFuncNested
import Derived.RangeFuncBound
import Derived.RangeFuncCalls
import Derived.RangeFuncLeaves
import Derived.Shelf.Abstract
import Derived.WalkKit
import Derived.OwnWalkIn
import Derived.TacticsInMore
import Derived.LoopNIn
import Derived.LoopIn
import Derived.Test.YtpelicepgeoopaaPoly14
import Derived.Test.YtpelicepgeoopaaRow10
namespace Go.Proofs.Ytpelicepgeoopaa
open Go.ChangeShapes Go.WideShapes Go.ChangeAt Go.RowKit Go.Shelf
attribute [local go_sem] Oper.semAt_some
set_option linter.unusedVariables false

/-- The last t numbers with their places, from the last one on. -/
def bwL (xs : List Int) (t : Nat) : List (Int × Int) := (List.range t).map fun (q : Nat) => ((xs.length : Int) - 1 - (q : Int), xs.getD (xs.length - 1 - q) 0)
theorem bwL_len (xs : List Int) (t : Nat) : (bwL xs t).length = t := by simp [bwL]
theorem bwL_succ (xs : List Int) (t : Nat) : bwL xs (t + 1) = bwL xs t ++ [((xs.length : Int) - 1 - (t : Int), xs.getD (xs.length - 1 - t) 0)] := by simp [bwL, List.range_succ]
theorem bwL_pre (xs : List Int) {t : Nat} (h : t ≤ xs.length) : bwL xs t <+: bwL xs xs.length := by
  refine ⟨((List.range (xs.length - t)).map fun (q : Nat) => ((xs.length : Int) - 1 - ((t + q : Nat) : Int), xs.getD (xs.length - 1 - (t + q)) 0)), ?_⟩
  unfold bwL
  have e : List.range xs.length = List.range t ++ (List.range (xs.length - t)).map (t + ·) := by
    rw [show xs.length = t + (xs.length - t) by omega, List.range_add]; simp
  rw [e, List.map_append, List.map_map]
  rfl
def bwV (p : Int × Int) : Array Value := #[.int .i64 p.1, .int .i64 p.2]
/-- Horner's rule, as the machine counts. -/
def hvI (x v c : Int) : Int := wrap64 (wrap64 (v * x) + c)
def vaL (x : Int) (l : List (Int × Int)) : Int := l.foldl (fun v p => hvI x v p.2) 0
theorem vaL_snoc (x : Int) (l : List (Int × Int)) (p : Int × Int) : vaL x (l ++ [p]) = hvI x (vaL x l) p.2 := by simp [vaL, List.foldl_append]
def hvB (n : Nat) (x : Int) : Bool := if n ≤ 1 then true else if n ≤ 30 then (decide (-2 ≤ x) && decide (x ≤ 2)) else (decide (-1 ≤ x) && decide (x ≤ 1))
def vaOk (xs : List Int) (x : Int) : Bool := plyB xs && hvB xs.length x
def vaP (xs : List Int) (x : Int) : Int := if vaOk xs x = true then vaL x (bwL xs xs.length) else 0

/-- What a round keeps: all that lay below n₀, and block Bn. -/
def KpB (n₀ Bn : Nat) (W W' : World) : Prop := Below n₀ W W' ∧ W'.heap[Bn]? = W.heap[Bn]?
theorem KpB.t {n₀ Bn : Nat} {A B C : World} (h : KpB n₀ Bn A B) (k : KpB n₀ Bn B C) : KpB n₀ Bn A C := ⟨h.1.trans k.1, k.2.trans h.2⟩
theorem KpB.b {n₀ Bn : Nat} {w : World} (hn : n₀ ≤ w.heap.size) (hB : Bn < w.heap.size) (W : World) (l : Nat) (o o' : Obj) (hl : w.heap.size ≤ l) (h : W.heap[l]? = some o) (h1 : o.isCells = false) (h2 : o.isWalk = false) : KpB n₀ Bn W (W.putObj l o') :=
  ⟨belowK_b hn W l o o' hl h h1 h2, World.putObj_heap_other (by omega)⟩
theorem boxBelow' {W W' : World} {B : Nat} {t : TypeId} {v : Value} (h : Boxed W B t v) (hb : Below W.heap.size W W') : Boxed W' B t v := (hb.block B h.lt).trans h

set_option maxRecDepth 100000 in
set_option maxHeartbeats 1000000 in
theorem backwardI (F : Fence) (n : Nat) (h5 : F.fn 53) (hro : F.round = none) (A : Option Addr) (len cap : Nat) (w : World) :
    CallsIn F n Try.prog 53 #[.slice A len cap] w fun e w' => e = .returned (.func (.func 61) #[] #[.pointer (some ⟨w.heap.size, 0, none⟩)]) ∧ w' = w.alloc (.cells #[.slice A len cap] 22) := by
  refine callsIn_of_wp Try.func53 rfl h5 ?_ hro
  simp only [Try.ntmps53, List.size_toArray, List.length_cons, List.length_nil, Nat.reduceAdd, Nat.reduceSub, Array.replicate_succ, Array.replicate_zero, List.push_toArray, List.append_toArray, List.nil_append, List.cons_append]
  gi_wp2
  go_ret
  exact ⟨rfl, rfl⟩

set_option maxRecDepth 100000 in
set_option maxHeartbeats 2000000 in
theorem backward1I (F : Fence) (n : Nat) (h6 : F.fn 61) (hro : F.round = none) (hn : 1 ≤ n) (l Bn n₀ lo hi : Nat) (A : Option Addr) (cap : Nat) (xs : List Int) (hhi : hi ≤ n₀) (hlx : xs.length ≤ 1099511627776) (J Jx : List (Int × Int) → World → Prop)
    (hY : ∀ pre x W, J pre W → pre.length < xs.length → YieldAt F (n - 1) Try.prog l (bwV x) W fun e W' =>
      (e = .returned (.bool true) ∧ J (pre ++ [x]) W' ∧ KpB n₀ Bn W W') ∨ (e = .returned (.bool false) ∧ Jx (pre ++ [x]) W'))
    (W : World) (hBn : W.cell? ⟨Bn, 0, none⟩ = some (.slice A xs.length cap)) (hL : OwnI W lo hi (.slice A xs.length cap) xs) (h0 : J [] W) :
    CallsIn F n Try.prog 61 #[.func (.yield l) #[] #[], .pointer (some ⟨Bn, 0, none⟩)] W fun e W' => (∃ v, e = .returned v) ∧
      ((∃ ys, ys = bwL xs xs.length ∧ J ys W') ∨ (∃ pre, pre <+: bwL xs xs.length ∧ Jx pre W')) := by
  refine callsIn_of_wp Try.func61 rfl h6 ?_ hro
  simp only [Try.ntmps61, List.size_toArray, List.length_cons, List.length_nil, Nat.reduceAdd, Nat.reduceSub, Array.replicate_succ, Array.replicate_zero, List.push_toArray, List.append_toArray, List.nil_append, List.cons_append]
  have vN : IntKind.i64.wrap ((xs.length : Int) - 1) = (xs.length : Int) - 1 := IntWalk.i64_in _ (by omega)
  gi_wp2
  gi_loopw [3] (fun x wr => ∃ k : Nat, k ≤ xs.length ∧ x = .int .i64 ((xs.length : Int) - 1 - (k : Int)) ∧ wr.cell? ⟨Bn, 0, none⟩ = some (.slice A xs.length cap) ∧ OwnI wr lo hi (.slice A xs.length cap) xs ∧ J (bwL xs k) wr) (fun x _ => (intOf x + 1).toNat)
  case atStart => exact ⟨0, Nat.zero_le _, by simp, hBn, hL, h0⟩
  case round =>
    obtain ⟨k, hk, rfl, hbc, ho, hJs⟩ := hrel
    by_cases hlt : k < xs.length
    · obtain ⟨q, hq⟩ : ∃ q : Nat, q = xs.length - 1 - k := ⟨_, rfl⟩
      obtain ⟨g, p, e1, -, -, hc, -⟩ := ho.cell (j := q) (by omega)
      simp only [Value.slice.injEq] at e1
      obtain ⟨rfl, -, rfl⟩ := e1
      have HQ := Lib.hid (show (xs.length : Int) - 1 - (k : Int) = (q : Int) by omega)
      have HSU := Lib.hid (bwL_succ xs k)
      rw [← hq] at HSU
      have hki : (q : Int) < (xs.length : Int) := by omega
      have hq0 : (0 : Int) ≤ (q : Int) := by omega
      have hqk : k + q + 1 = xs.length := by omega
      rw [HQ.out] at HSU ⊢
      have hY2 := hY (bwL xs k) ((q : Int), xs.getD q 0) wr hJs (by rw [bwL_len]; omega)
      generalize xs.getD q 0 = y at *
      have vQ : IntKind.i64.wrap ((q : Int) - 1) = (q : Int) - 1 := IntWalk.i64_in _ (by omega)
      have HQK := Lib.hid hqk
      clear hq hqk
      obtain ⟨fn, tmps, assign, body, hy, hR⟩ := hY2
      simp only [bwV] at hy
      gi_wp2
      refine hR.mono ?_
      rintro e W3 (⟨rfl, hJ3, hk3⟩ | ⟨rfl, hJx3⟩)
      · have ho3 := ho.keep hk3.1 hhi
        have hb3 : W3.cell? ⟨Bn, 0, none⟩ = some (.slice (some ⟨g, 0, none⟩) xs.length cap) := by rw [← hbc]; simp [World.cell?, hk3.2]
        gi_wp2
        go_roundw
        case rel => exact ⟨k + 1, by omega, by have := HQK.out; congr 1; omega, hb3, ho3, by rw [HSU.out]; exact hJ3⟩
        case measure => simp [intOf]
      · gi_wp2
        refine bodyPost_ret (results_none rfl _ _ _) rfl ?_
        exact ⟨⟨_, rfl⟩, .inr ⟨_, by rw [← HSU.out]; exact bwL_pre xs hlt, hJx3⟩⟩
    · obtain rfl : k = xs.length := by omega
      have e : (xs.length : Int) - 1 - (xs.length : Int) = -1 := by omega
      rw [e]
      gi_wp2
      go_end0
      exact ⟨⟨_, rfl⟩, .inl ⟨_, rfl, hJs⟩⟩

theorem backward_stops (F : Fence) (n : Nat) (h6 : F.fn 61) (hro : F.round = none) (hn : 1 ≤ n) (Bn n₀ lo hi : Nat) (A : Option Addr) (cap : Nat) (xs : List Int) (hhi : hi ≤ n₀) (hlx : xs.length ≤ 1099511627776) (w : World) (hBn : Bn < w.heap.size) (hn₀ : n₀ ≤ w.heap.size)
    (hc : w.cell? ⟨Bn, 0, none⟩ = some (.slice A xs.length cap)) (hL : OwnI w lo hi (.slice A xs.length cap) xs) :
    SeqStopsK F n Try.prog 61 #[.pointer (some ⟨Bn, 0, none⟩)] bwV (KpB n₀ Bn) (fun ys => ys = bwL xs xs.length) (fun pre => pre <+: bwL xs xs.length) xs.length w := fun l J Jx W hW _ _ hY h0 =>
  backward1I F n h6 hro hn l Bn n₀ lo hi A cap xs hhi hlx J Jx hY W ((hW.cell (p := ⟨Bn, 0, none⟩) hBn).trans hc) (hL.keep hW (by omega)) h0

theorem hasValueAt (n : Nat) (x : Int) (w : World) : Calls Try.prog 52 #[.int .i64 (n : Int), .int .i64 x] w fun e w' => e = .returned (.bool (hvB n x)) ∧ w = w' := by
  have HW2 := Lib.hid (isWithin x 2 w (by omega) (by omega))
  have HW1 := Lib.hid (isWithin x 1 w (by omega) (by omega))
  by_cases h1 : n ≤ 1
  · have HP := Lib.hid (show hvB n x = true from if_pos h1)
    have h1i : (n : Int) ≤ 1 := by omega
    have d1 : decide ((n : Int) ≤ 1) = true := decide_eq_true h1i
    go_enter Try.func52, Try.ntmps52
    go_wp2
    go_ret
    exact ⟨ret_bool HP.out.symm, rfl⟩
  · have h1i : ¬ (n : Int) ≤ 1 := by omega
    have d1 : decide ((n : Int) ≤ 1) = false := decide_eq_false h1i
    by_cases h2 : n ≤ 30
    · have HP := Lib.hid (show hvB n x = (decide (-2 ≤ x) && decide (x ≤ 2)) by unfold hvB; rw [if_neg h1, if_pos h2])
      have h2i : (n : Int) ≤ 30 := by omega
      have d2 : decide ((n : Int) ≤ 30) = true := decide_eq_true h2i
      generalize (decide (-2 ≤ x) && decide (x ≤ 2)) = z at *
      go_enter Try.func52, Try.ntmps52
      go_wp2_with fail
      (with_reducible refine HW2.out.mono ?_)
      rintro e w' ⟨rfl, rfl⟩
      go_wp2
      go_ret
      exact ⟨ret_bool HP.out.symm, rfl⟩
    · have HP := Lib.hid (show hvB n x = (decide (-1 ≤ x) && decide (x ≤ 1)) by unfold hvB; rw [if_neg h1, if_neg h2])
      have h2i : ¬ (n : Int) ≤ 30 := by omega
      have d2 : decide ((n : Int) ≤ 30) = false := decide_eq_false h2i
      generalize (decide (-1 ≤ x) && decide (x ≤ 1)) = z at *
      go_enter Try.func52, Try.ntmps52
      go_wp2_with fail
      (with_reducible refine HW1.out.mono ?_)
      rintro e w' ⟨rfl, rfl⟩
      go_wp2
      go_ret
      exact ⟨ret_bool HP.out.symm, rfl⟩

set_option maxRecDepth 100000 in
set_option maxHeartbeats 3200000 in
theorem valueAtIn (n : Nat) (hn : 6 ≤ n) (A : Option Addr) (xs : List Int) (x : Int) (cap lo hi : Nat) (w : World) (hv : OwnI w lo hi (.slice A xs.length cap) xs) (hhi : hi ≤ w.heap.size) (hcap : xs.length ≤ cap) (hl : xs.length ≤ 1099511627776) (hp : plyB xs = true) (hh : hvB xs.length x = true) :
    CallsIn Fence.wide n Try.prog 37 #[.slice A xs.length cap, .int .i64 x] w fun e W' => e = .returned (.tuple #[.int .i64 (vaL x (bwL xs xs.length)), .bool true]) ∧ Below w.heap.size w W' := by
  have h1 : 1 ≤ n := by omega
  have hB0 : Below w.heap.size w (w.alloc (.cells #[.int .i64 x] 3)) := (Below.refl _ w).alloc (Nat.le_refl _) _
  have hV0 := hv.keep hB0 hhi
  have hIP := isPolynomialI A xs cap lo hi (w.alloc (.cells #[.int .i64 x] 3)) hV0 (by simp; omega) hcap hl
  rw [hp] at hIP
  have hHV := fun W => hasValueAt xs.length x W
  rw [hh] at hHV
  refine callsIn_of_wp_marks Try.func37 rfl trivial ?_ rfl
  simp only [Try.ntmps37, List.size_toArray, List.length_cons, List.length_nil, Nat.reduceAdd, Nat.reduceSub, Array.replicate_succ, Array.replicate_zero, List.push_toArray, List.append_toArray, List.nil_append, List.cons_append]
  have hcx := cell_one w (.int .i64 x) 3
  gi_wp2_with (first | (refine ⟨trivial, ?_⟩; gi_at_call 46; refine (callsIn_wide.2 hIP).mono ?_; rintro e w1 ⟨rfl, hb1⟩; have hcx1 := (hb1.cell (p := ⟨w.heap.size, 0, none⟩) (by simp)).trans hcx) | (refine ⟨trivial, ?_⟩; gi_at_call 52; refine (callsIn_wide.2 (hHV _)).mono ?_; rintro e w' ⟨rfl, rfl⟩) | (refine ⟨trivial, ?_⟩; gi_at_call 53; refine (backwardI Fence.wide (n - 1) trivial rfl _ _ _ _).mono ?_; rintro e w' ⟨rfl, rfl⟩))
  have zW : (w.alloc (.cells #[.int .i64 x] 3)).heap.size = w.heap.size + 1 := by simp
  have z1 := hb1.size
  rw [zW] at z1
  have hB1 : Below w.heap.size w w1 := hB0.trans (hb1.mono (by omega))
  have bX1 : Boxed w1 w.heap.size 3 (.int .i64 x) := boxBelow' (Boxed.new w 3 (.int .i64 x)) hb1
  have bV := (Boxed.new w1 3 (.int .i64 0)).alloc (.cells #[.slice A xs.length cap] 22)
  have bX := (bX1.alloc (.cells #[.int .i64 0] 3)).alloc (.cells #[.slice A xs.length cap] 22)
  have bA := Boxed.new (w1.alloc (.cells #[.int .i64 0] 3)) 22 (.slice A xs.length cap)
  simp only [World.size_alloc] at bA
  have hB4 := (hB1.alloc (by omega) (.cells #[.int .i64 0] 3)).alloc (by simp; omega) (.cells #[.slice A xs.length cap] 22)
  have hsz : ((w1.alloc (.cells #[.int .i64 0] 3)).alloc (.cells #[.slice A xs.length cap] 22)).heap.size = w1.heap.size + 2 := by simp
  obtain ⟨W0, hW0⟩ : ∃ W0, (w1.alloc (.cells #[.int .i64 0] 3)).alloc (.cells #[.slice A xs.length cap] 22) = W0 := ⟨_, rfl⟩
  rw [hW0] at bV bX bA hB4 hsz ⊢
  clear hW0 hIP hB0 hcx hcx1 bX1
  refine wpIn_rangeFunc_ownG rfl h1 (gf := 61) (lb := #[.pointer (some ⟨w1.heap.size + 1, 0, none⟩)]) rfl trivial (enters_of Try.func61 (by kernel_rfl) rfl)
    (backward_stops Fence.wide (n - 1) trivial rfl (by omega) (w1.heap.size + 1) w.heap.size lo hi A cap xs hhi hl W0 (by omega) (by omega) bA.cell (hv.keep hB4 hhi)) KpB.t (KpB.b (by omega) (by omega)) (Below.refl _ _) (fun _ => rfl)
    (fun pre W => (Boxed W w1.heap.size 3 (.int .i64 (vaL x pre)) ∧ Boxed W w.heap.size 3 (.int .i64 x)) ∧ Below w.heap.size w W)
    (fun _ _ _ => False)
    (OwnFrom.and (OwnFrom.and (Own.from (boxed_own _ _ _) _) (Own.from (boxed_own _ _ _) _)) (ownFrom_below (Nat.le_refl _) (by omega)))
    (fun _ _ _ _ _ hs _ _ => hs)
    ⟨⟨bV, bX⟩, hB4⟩
    (fun p => { tmps := #[.slice A xs.length cap, .int .i64 x, undef, .pointer (some ⟨w.heap.size, 0, none⟩), .int .i64 0, .bool false, .pointer (some ⟨w1.heap.size, 0, none⟩), undef, .int .i64 p.2, .slice A xs.length cap, .bool true, .bool false, .bool false, .slice A xs.length cap, .int .i64 (xs.length : Int), .int .i64 x, .bool true, .bool false, .bool false, .slice A xs.length cap, .func (.func 61) #[] #[.pointer (some ⟨w1.heap.size + 1, 0, none⟩)], .int .i64 p.1, .int .i64 p.2, undef, undef, undef, undef, undef, undef], defers := [] }) ?assign ?body ?done ?stop
  case assign =>
    intro l p W K hK
    simp only [bwV]
    gi_wp2
    exact hK
  case body =>
    rintro l pre p W ⟨⟨bV1, bX1⟩, hBB⟩ hlt
    have cV := bV1.cell
    have fV := bV1.frozen
    have cX := bX1.cell
    have HSN := Lib.hid (show vaL x (pre ++ [p]) = wrap64 (wrap64 (vaL x pre * x) + p.2) from vaL_snoc x pre p)
    generalize vaL x pre = V at *
    gi_wp2
    have hS := hBB.setCell (p := ⟨w1.heap.size, 0, none⟩) (show w.heap.size ≤ w1.heap.size by omega) (.int .i64 (wrap64 (wrap64 (V * x) + p.2)))
    exact ⟨(KeepsOthers.setCell W ⟨w1.heap.size, 0, none⟩ (.int .i64 (wrap64 (wrap64 (V * x) + p.2)))).from _, ⟨(Below.refl _ W).setCell (p := ⟨w1.heap.size, 0, none⟩) (show w.heap.size ≤ w1.heap.size by omega) _, Below.heap_setCell W ⟨w1.heap.size, 0, none⟩ _ _ (by show w1.heap.size + 1 ≠ w1.heap.size; omega)⟩, ⟨by rw [HSN.out]; exact bV1.set _, bX1.other (by omega) _⟩, hS⟩
  case done =>
    rintro D ys W hD rfl ⟨⟨bV1, bX1⟩, hBB⟩ hK
    have cV := bV1.cell
    gi_wp2
    refine ⟨by simp, .inl ⟨_, _, rfl, run_takeDeferred hK, ?_⟩⟩
    exact ⟨_, results_tmp2 rfl _ _ _, rfl, hBB.trans (belowK_b (w := w) (Nat.le_refl _) W D _ _ (by omega) hK rfl rfl)⟩
  case stop =>
    rintro D c pre W _ _ h _
    exact h.elim

set_option maxRecDepth 100000 in
set_option maxHeartbeats 1600000 in
theorem valueAt_no1 (A : Option Addr) (xs : List Int) (x : Int) (cap lo hi : Nat) (w : World) (hv : OwnI w lo hi (.slice A xs.length cap) xs) (hhi : hi ≤ w.heap.size) (hcap : xs.length ≤ cap) (hl : xs.length ≤ 1099511627776) (hp : plyB xs = false) :
    Calls Try.prog 37 #[.slice A xs.length cap, .int .i64 x] w fun e W' => e = .returned (.tuple #[.int .i64 0, .bool false]) ∧ Below w.heap.size w W' := by
  have hB0 : Below w.heap.size w (w.alloc (.cells #[.int .i64 x] 3)) := (Below.refl _ w).alloc (Nat.le_refl _) _
  have hIP := isPolynomialI A xs cap lo hi (w.alloc (.cells #[.int .i64 x] 3)) (hv.keep hB0 hhi) (by simp; omega) hcap hl
  rw [hp] at hIP
  refine (callsIn_wide (n := 6)).1 ?_
  refine callsIn_of_wp_marks Try.func37 rfl trivial ?_ rfl
  simp only [Try.ntmps37, List.size_toArray, List.length_cons, List.length_nil, Nat.reduceAdd, Nat.reduceSub, Array.replicate_succ, Array.replicate_zero, List.push_toArray, List.append_toArray, List.nil_append, List.cons_append]
  gi_wp2_with (refine ⟨trivial, ?_⟩; gi_at_call 46; refine (callsIn_wide.2 hIP).mono ?_; rintro e w1 ⟨rfl, hb1⟩)
  first | exact ⟨_, results_tmp2 rfl _ _ _, rfl, hB0.trans (hb1.mono (by simp))⟩ | (refine ⟨trivial, ?_⟩; gi_wp2; exact ⟨_, results_tmp2 rfl _ _ _, rfl, hB0.trans (hb1.mono (by simp))⟩)
set_option maxRecDepth 100000 in
set_option maxHeartbeats 1600000 in
theorem valueAt_no2 (A : Option Addr) (xs : List Int) (x : Int) (cap lo hi : Nat) (w : World) (hv : OwnI w lo hi (.slice A xs.length cap) xs) (hhi : hi ≤ w.heap.size) (hcap : xs.length ≤ cap) (hl : xs.length ≤ 1099511627776) (hp : plyB xs = true) (hh : hvB xs.length x = false) :
    Calls Try.prog 37 #[.slice A xs.length cap, .int .i64 x] w fun e W' => e = .returned (.tuple #[.int .i64 0, .bool false]) ∧ Below w.heap.size w W' := by
  have hB0 : Below w.heap.size w (w.alloc (.cells #[.int .i64 x] 3)) := (Below.refl _ w).alloc (Nat.le_refl _) _
  have hIP := isPolynomialI A xs cap lo hi (w.alloc (.cells #[.int .i64 x] 3)) (hv.keep hB0 hhi) (by simp; omega) hcap hl
  rw [hp] at hIP
  have hHV := fun W => hasValueAt xs.length x W
  rw [hh] at hHV
  have hcx := cell_one w (.int .i64 x) 3
  refine (callsIn_wide (n := 6)).1 ?_
  refine callsIn_of_wp_marks Try.func37 rfl trivial ?_ rfl
  simp only [Try.ntmps37, List.size_toArray, List.length_cons, List.length_nil, Nat.reduceAdd, Nat.reduceSub, Array.replicate_succ, Array.replicate_zero, List.push_toArray, List.append_toArray, List.nil_append, List.cons_append]
  gi_wp2_with (first | (refine ⟨trivial, ?_⟩; gi_at_call 46; refine (callsIn_wide.2 hIP).mono ?_; rintro e w1 ⟨rfl, hb1⟩; have hcx1 := (hb1.cell (p := ⟨w.heap.size, 0, none⟩) (by simp)).trans hcx) | (refine ⟨trivial, ?_⟩; gi_at_call 52; refine (callsIn_wide.2 (hHV _)).mono ?_; rintro e w' ⟨rfl, rfl⟩))
  first | exact ⟨_, results_tmp2 rfl _ _ _, rfl, hB0.trans (hb1.mono (by simp))⟩ | (refine ⟨trivial, ?_⟩; gi_wp2; exact ⟨_, results_tmp2 rfl _ _ _, rfl, hB0.trans (hb1.mono (by simp))⟩)

theorem valueAtI (A : Option Addr) (xs : List Int) (x : Int) (cap lo hi : Nat) (w : World) (hv : OwnI w lo hi (.slice A xs.length cap) xs) (hhi : hi ≤ w.heap.size) (hcap : xs.length ≤ cap) (hl : xs.length ≤ 1099511627776) :
    Calls Try.prog 37 #[.slice A xs.length cap, .int .i64 x] w fun e W' => e = .returned (.tuple #[.int .i64 (vaP xs x), .bool (vaOk xs x)]) ∧ Below w.heap.size w W' := by
  unfold vaP
  rcases hp : plyB xs with _ | _
  · rw [show vaOk xs x = false by unfold vaOk; rw [hp]; rfl]
    exact valueAt_no1 A xs x cap lo hi w hv hhi hcap hl hp
  · rcases hh : hvB xs.length x with _ | _
    · rw [show vaOk xs x = false by unfold vaOk; rw [hp, hh]; rfl]
      exact valueAt_no2 A xs x cap lo hi w hv hhi hcap hl hp hh
    · rw [show vaOk xs x = true by unfold vaOk; rw [hp, hh]; rfl]
      exact (callsIn_wide (n := 6)).1 (valueAtIn 6 (Nat.le_refl _) A xs x cap lo hi w hv hhi hcap hl hp hh)

theorem ret_va {a b : Int} {x y : Bool} (h : a = b) (h' : x = y) : Ending.returned (.tuple #[.int .i64 a, .bool x]) = .returned (.tuple #[.int .i64 b, .bool y]) := by rw [h, h']
theorem va_one {xs : List Int} {x : Int} (hp : plyB xs = true) (h1 : xs.length = 1) (hO : vaOk xs x = true) : vaP xs x = xs.getD 0 0 := by
  unfold vaP
  rw [if_pos hO, h1, bwL_succ, vaL_snoc, h1]
  show wrap64 (wrap64 (0 * x) + xs.getD 0 0) = xs.getD 0 0
  have hb : inB 1000000000 xs = true := by
    unfold plyB at hp
    rw [Bool.and_eq_true, Bool.and_eq_true] at hp
    exact hp.1.2
  have := (inB_iff _ _).1 hb 0 (by omega)
  rw [Int.zero_mul, show wrap64 0 = 0 from IntWalk.wrap64_in _ (by omega), Int.zero_add]
  exact IntWalk.wrap64_in _ (by omega)

end Go.Proofs.Ytpelicepgeoopaa
