/- Merged by program out of: Impl9S Impl9T Spec9N Fact9R NonX UpTo Impl23A Impl24A Spec3B Spec3C Spec3D PlainN. -/
import Derived.BigQuiet
import Derived.BigRegion
import Derived.Lib.RepeatB
import Derived.Test.YtgaggpdlpcldeaaKA
import Derived.Test.YtgaggpdlpcldeaaKB
import Derived.Test.YtgaggpdlpcldeaaKC
import Derived.Test.YtgaggpdlpcldeaaKD
section
namespace Go.Proofs.Ytgaggpdlpcldeaa
open Go.ChangeShapes Go.WideShapes Go.ChangeAt Go.RowKit Go.Shelf
attribute [local go_sem] Oper.semAt_some
set_option linter.unusedVariables false

/-- **arcsOf HANDS BACK A VALUE THAT STOPS.** -/
theorem arcs_stops (F : Fence) (n : Nat) (h6 : F.fn 65) (hro : F.round = none) (hn : 1 ≤ n) (Bn n₀ lo hi : Nat) (A : Option Addr) (cap : Nat) (xs : List Int) (w : World) (hhi : hi ≤ n₀) (hlx : xs.length ≤ 1099511627776) (hBn : Bn < w.heap.size) (hn₀ : n₀ ≤ w.heap.size)
    (hc : w.cell? ⟨Bn, 0, none⟩ = some (.slice A xs.length cap)) (hL : OwnI w lo hi (.slice A xs.length cap) xs) :
    SeqStopsK F n Try.prog 65 #[.pointer (some ⟨Bn, 0, none⟩)] arcV (Below n₀) (fun ys => ys = arcL xs xs.length) (fun pre => pre <+: arcL xs xs.length) xs.length w := fun l J Jx W hW _ _ hY h0 =>
  arcs1_in F n h6 hro hn l Bn n₀ lo hi A cap xs hhi hlx J Jx hY W ((hW.cell (p := ⟨Bn, 0, none⟩) hBn).trans hc) (hL.keep hW (by omega)) h0

/-- Block B holds an arc. -/
def BxA (W : World) (B : Nat) (p : Int × Int) : Prop := W.heap[B]? = some (.cells #[.int .i64 p.1, .int .i64 p.2] 66 (0, 0))
theorem BxA.lt {W : World} {B : Nat} {p : Int × Int} (h : BxA W B p) : B < W.heap.size := (Array.getElem?_eq_some_iff.1 h).1
theorem BxA.new (W : World) (p : Int × Int) : BxA (W.alloc (.cells #[.int .i64 p.1, .int .i64 p.2] 66)) W.heap.size p := World.alloc_heap_new W _
theorem BxA.kept {W W' : World} {row : Option Nat} {B : Nat} {p : Int × Int} (h : BxA W B p) (hg : W.grownBy W' row) (hne : some B ≠ row) : BxA W' B p := (hg.block B h.lt hne).trans h
theorem BxA.alloc {W : World} {B : Nat} {p : Int × Int} (h : BxA W B p) (o : Obj) : BxA (W.alloc o) B p := h.kept (World.grownBy_alloc W o none) (by simp)
theorem BxA.other {W : World} {B B' : Nat} {p : Int × Int} (h : BxA W B p) (hne : B ≠ B') (u : Value) : BxA (W.setCell ⟨B', 0, none⟩ u) B p := h.kept (grownBy_setCell' W B' u) (fun e => hne (by cases e; rfl))
theorem BxA.c0 {W : World} {B : Nat} {p : Int × Int} (h : BxA W B p) : W.cell? ⟨B, 0, none⟩ = some (.int .i64 p.1) := by simp [World.cell?, show W.heap[B]? = _ from h]
theorem BxA.c1 {W : World} {B : Nat} {p : Int × Int} (h : BxA W B p) : W.cell? ⟨B, 1, none⟩ = some (.int .i64 p.2) := by simp [World.cell?, show W.heap[B]? = _ from h]
theorem BxA.own {β : Type} (B : Nat) (p : Int × Int) : Own (fun (_ : β) W => BxA W B p) := fun s X Y row hs hg hrow =>
  hs.kept hg (fun e' => by obtain ⟨o, ho, hc⟩ := hrow B e'.symm; rw [show X.heap[B]? = _ from hs] at ho; cases ho; cases hc)

/-- How many arcs of a list stand so to one. -/
def cntI (R : Int × Int → Int × Int → Bool) (c : Int × Int) (l : List (Int × Int)) : Nat := (l.filter fun d => decide (c.1 < d.1) && R c d).length
def cntO (R : Int × Int → Int × Int → Bool) (ys : List (Int × Int)) (l : List (Int × Int)) : Nat := (l.map fun c => cntI R c ys).sum
theorem cntI_snoc (R : Int × Int → Int × Int → Bool) (c d : Int × Int) (l : List (Int × Int)) : cntI R c (l ++ [d]) = cntI R c l + if (decide (c.1 < d.1) && R c d) = true then 1 else 0 := by
  unfold cntI
  rw [List.filter_append, List.length_append]
  congr 1
  split
  · rename_i h; rw [List.filter_cons_of_pos (p := fun d => decide (c.1 < d.1) && R c d) h]; rfl
  · rename_i h; rw [List.filter_cons_of_neg (p := fun d => decide (c.1 < d.1) && R c d) h]; rfl
theorem cntO_snoc (R : Int × Int → Int × Int → Bool) (ys l : List (Int × Int)) (c : Int × Int) : cntO R ys (l ++ [c]) = cntO R ys l + cntI R c ys := by
  unfold cntO
  rw [List.map_append, List.sum_append]; simp
theorem cntI_le (R : Int × Int → Int × Int → Bool) (c : Int × Int) (l : List (Int × Int)) : cntI R c l ≤ l.length := List.length_filter_le ..
theorem cntO_le (R : Int × Int → Int × Int → Bool) (ys : List (Int × Int)) (k : Nat) (hy : ys.length ≤ k) : ∀ l : List (Int × Int), cntO R ys l ≤ l.length * k := by
  intro l
  induction l with
  | nil => simp [cntO]
  | cons c l ih =>
    have := cntI_le R c ys
    unfold cntO at ih ⊢
    rw [List.map_cons, List.sum_cons, List.length_cons, Nat.succ_mul]; omega
theorem boxBelow {W W' : World} {B : Nat} {t : TypeId} {v : Value} (h : Boxed W B t v) (hb : Below W.heap.size W W') : Boxed W' B t v := (hb.block B h.lt).trans h
theorem keepsBelow (B : Nat) {W W' : World} (hb : Below W.heap.size W W') : KeepsFrom B W W' := ⟨hb.size, fun k o _ hk _ => (hb.block k (Array.getElem?_eq_some_iff.1 hk).1).trans hk⟩
def xR (c d : Int × Int) : Bool := crossB c.1 c.2 d.1 d.2

set_option maxRecDepth 100000 in
set_option maxHeartbeats 6400000 in
theorem countArcs_x (n : Nat) (hn : 6 ≤ n) (A : Option Addr) (xs : List Int) (cap lo hi : Nat) (w : World) (hv : OwnI w lo hi (.slice A xs.length cap) xs) (hhi : hi ≤ w.heap.size) (hm : matchP xs = true) :
    CallsIn Fence.wide n Try.prog 50 #[.slice A xs.length cap, .func (.func 51) #[] #[]] w fun e W' => e = .returned (.int .i64 (cntO xR (arcL xs xs.length) (arcL xs xs.length) : Nat)) ∧ Below w.heap.size w W' := by
  have h1 : 1 ≤ n := by omega
  have h16 := (match_yes hm).1
  have hB0 : Below w.heap.size w ((w.alloc (.cells #[.slice A xs.length cap] 22)).alloc (.cells #[.func (.func 51) #[] #[]] 63)) := ((Below.refl _ w).alloc (Nat.le_refl _) _).alloc (by simp) _
  have hIM := isMatchingI (.slice A xs.length cap) xs lo hi _ (hv.keep hB0 hhi) (by omega)
  rw [hm] at hIM
  refine callsIn_of_wp_marks Try.func50 rfl trivial ?_ rfl
  simp only [Try.ntmps50, List.size_toArray, List.length_cons, List.length_nil, Nat.reduceAdd, Nat.reduceSub, Array.replicate_succ, Array.replicate_zero, List.push_toArray, List.append_toArray, List.nil_append, List.cons_append]
  gi_wp2_with (first | (refine ⟨trivial, ?_⟩; gi_at_call 58; refine (callsIn_wide.2 hIM).mono ?_; rintro e w' ⟨rfl, rfl⟩) | (refine ⟨trivial, ?_⟩; gi_at_call 59; refine (arcsOf_in Fence.wide (n - 1) trivial rfl _ _ _ _ rfl _).mono ?_; rintro e w' ⟨rfl, rfl⟩))
  have bM := ((Boxed.new w 22 (.slice A xs.length cap)).alloc (.cells #[.func (.func 51) #[] #[]] 63)).alloc (.cells #[.int .i64 0] 3) |>.alloc (.cells #[.slice A xs.length cap] 22)
  have bR := ((Boxed.new (w.alloc (.cells #[.slice A xs.length cap] 22)) 63 (.func (.func 51) #[] #[])).alloc (.cells #[.int .i64 0] 3)).alloc (.cells #[.slice A xs.length cap] 22)
  have bC := (Boxed.new ((w.alloc (.cells #[.slice A xs.length cap] 22)).alloc (.cells #[.func (.func 51) #[] #[]] 63)) 3 (.int .i64 0)).alloc (.cells #[.slice A xs.length cap] 22)
  have bA := Boxed.new (((w.alloc (.cells #[.slice A xs.length cap] 22)).alloc (.cells #[.func (.func 51) #[] #[]] 63)).alloc (.cells #[.int .i64 0] 3)) 22 (.slice A xs.length cap)
  simp only [World.size_alloc] at bR bC bA
  have hB4 := (hB0.alloc (by simp; omega) (.cells #[.int .i64 0] 3)).alloc (by simp; omega) (.cells #[.slice A xs.length cap] 22)
  have hsz : ((((w.alloc (.cells #[.slice A xs.length cap] 22)).alloc (.cells #[.func (.func 51) #[] #[]] 63)).alloc (.cells #[.int .i64 0] 3)).alloc (.cells #[.slice A xs.length cap] 22)).heap.size = w.heap.size + 4 := by simp
  obtain ⟨W0, hW0⟩ : ∃ W0, (((w.alloc (.cells #[.slice A xs.length cap] 22)).alloc (.cells #[.func (.func 51) #[] #[]] 63)).alloc (.cells #[.int .i64 0] 3)).alloc (.cells #[.slice A xs.length cap] 22) = W0 := ⟨_, rfl⟩
  rw [hW0] at bM bR bC bA hB4 hsz ⊢
  clear hW0 hIM hB0
  have hal := arcL_le xs xs.length
  refine wpIn_rangeFunc_ownH rfl h1 (gf := 65) (lb := #[.pointer (some ⟨w.heap.size + 1 + 1 + 1, 0, none⟩)]) rfl trivial (enters_of Try.func65 (by kernel_rfl) rfl)
    (arcs_stops Fence.wide (n - 1) trivial rfl (by omega) (w.heap.size + 1 + 1 + 1) w.heap.size lo hi A cap xs W0 hhi (by omega) (by omega) (by omega) bA.cell (hv.keep hB4 hhi)) belowK_t (belowK_b (by omega)) (Below.refl _ _) (fun _ => rfl)
    (fun pre W => (Boxed W (w.heap.size + 1 + 1) 3 (.int .i64 (cntO xR (arcL xs xs.length) pre : Nat)) ∧ (Boxed W w.heap.size 22 (.slice A xs.length cap) ∧ Boxed W (w.heap.size + 1) 63 (.func (.func 51) #[] #[]))) ∧ Below w.heap.size w W)
    (fun _ _ _ => False)
    (OwnFrom.and (OwnFrom.and (Own.from (boxed_own _ _ _) _) (OwnFrom.and (Own.from (boxed_own _ _ _) _) (Own.from (boxed_own _ _ _) _))) (ownFrom_below (Nat.le_refl _) (by omega)))
    (fun _ _ _ _ _ hs _ _ => hs)
    ⟨⟨bC, bM, bR⟩, hB4⟩
    (fun x a' W => ∃ Bx, w.heap.size + 1 + 1 < Bx ∧ BxA W Bx x ∧ a' = { tmps := #[.slice A xs.length cap, .func (.func 51) #[] #[], .pointer (some ⟨w.heap.size, 0, none⟩), .pointer (some ⟨w.heap.size + 1, 0, none⟩), .int .i64 0, .pointer (some ⟨w.heap.size + 1 + 1, 0, none⟩), .pointer (some ⟨Bx, 0, none⟩), undef, .slice A xs.length cap, .bool true, .bool false, .slice A xs.length cap, .func (.func 65) #[] #[.pointer (some ⟨w.heap.size + 1 + 1 + 1, 0, none⟩)], .agg #[.int .i64 x.1, .int .i64 x.2], undef, undef, undef, undef, undef, undef, undef, undef, undef, undef, undef, undef, undef, undef, undef, undef, undef], defers := [] })
    (fun x a' _ X Y row hs hg hr => by obtain ⟨Bx, h1, h2, h3⟩ := hs; exact ⟨Bx, h1, BxA.own Bx x () X Y row h2 hg (fun r e => (hr r e).2), h3⟩)
    ?assign ?body ?done ?stop
  case assign =>
    rintro l pre x W K ⟨⟨bC1, bM1, bR1⟩, hB1⟩ hK
    simp only [arcV]
    gi_wp2
    exact hK _ _ ((KeepsOthers.alloc _ _).from _) ((Below.refl _ W).alloc hB1.size _) ⟨⟨bC1.alloc _, bM1.alloc _, bR1.alloc _⟩, hB1.alloc hB1.size _⟩ ⟨W.heap.size, bC1.lt, BxA.new W x, rfl⟩
  case body =>
    rintro l pre x a' W hl ⟨r, hr⟩ ⟨⟨bC1, bM1, bR1⟩, hB1⟩ ⟨Bx, hBx, bX, rfl⟩ hlt
    have cM := bM1.cell
    have h1' : 1 ≤ n - 1 - 1 := by omega
    gi_wp2_with (refine ⟨trivial, ?_⟩; gi_at_call 59; refine (CallsIn.inRound l (arcsOf_in Fence.wide (n - 1 - 1 - 1) trivial rfl _ _ _ _ rfl _)).mono ?_; rintro e w' ⟨rfl, rfl⟩)
    have hsW := hB1.size
    have bN := Boxed.new W 22 (.slice A xs.length cap)
    have hr' : (W.alloc (.cells #[.slice A xs.length cap] 22)).heap[l]? = some (.loop r) := (Below.heap_alloc W _ l (Array.getElem?_eq_some_iff.1 hr).1).trans hr
    refine wpIn_rangeFunc_ownN (l₀ := l) (r₀ := r) rfl hr' h1' (gf := 65) (lb := #[.pointer (some ⟨W.heap.size, 0, none⟩)]) rfl trivial (enters_of Try.func65 (by kernel_rfl) rfl)
      ((arcs_stops Fence.wide (n - 1 - 1 - 1) trivial rfl (by omega) W.heap.size w.heap.size lo hi A cap xs _ hhi (by omega) (by simp) (by simp; omega) bN.cell (hv.keep (hB1.alloc hsW _) hhi)).inRound l) belowK_t (belowK_b (by simp; omega)) (Below.refl _ _) (fun _ => rfl)
      (fun pre' W' => ((Boxed W' (w.heap.size + 1 + 1) 3 (.int .i64 ((cntO xR (arcL xs xs.length) pre + cntI xR x pre' : Nat) : Int)) ∧ BxA W' Bx x) ∧ (Boxed W' w.heap.size 22 (.slice A xs.length cap) ∧ Boxed W' (w.heap.size + 1) 63 (.func (.func 51) #[] #[]))) ∧ (Below w.heap.size W W' ∧ KeepsFrom W0.heap.size W W'))
      (fun _ _ _ => False)
      (OwnFrom.and (OwnFrom.and (OwnFrom.and (Own.from (boxed_own _ _ _) _) (Own.from (BxA.own _ _) _)) (OwnFrom.and (Own.from (boxed_own _ _ _) _) (Own.from (boxed_own _ _ _) _))) (OwnFrom.and (ownFrom_below hsW (by simp; omega)) (ownFrom_keepsFrom (by simp))))
      (fun _ _ _ _ _ hs _ _ => hs)
      ⟨⟨⟨bC1.alloc _, bX.alloc _⟩, bM1.alloc _, bR1.alloc _⟩, (Below.refl _ W).alloc hsW _, (KeepsOthers.alloc _ _).from _⟩
      (fun y a'' W' => ∃ By, w.heap.size + 1 + 1 < By ∧ BxA W' By y ∧ a'' = { tmps := #[.slice A xs.length cap, .func (.func 51) #[] #[], .pointer (some ⟨w.heap.size, 0, none⟩), .pointer (some ⟨w.heap.size + 1, 0, none⟩), .int .i64 0, .pointer (some ⟨w.heap.size + 1 + 1, 0, none⟩), .pointer (some ⟨Bx, 0, none⟩), .pointer (some ⟨By, 0, none⟩), .slice A xs.length cap, .bool true, .bool false, .slice A xs.length cap, .func (.func 65) #[] #[.pointer (some ⟨w.heap.size + 1 + 1 + 1, 0, none⟩)], .agg #[.int .i64 x.1, .int .i64 x.2], .slice A xs.length cap, .func (.func 65) #[] #[.pointer (some ⟨W.heap.size, 0, none⟩)], .agg #[.int .i64 y.1, .int .i64 y.2], undef, undef, undef, undef, undef, undef, undef, undef, undef, undef, undef, undef, undef, undef], defers := [] })
      (fun x a' _ X Y row hs hg hr => by obtain ⟨Bx, h1, h2, h3⟩ := hs; exact ⟨Bx, h1, BxA.own Bx x () X Y row h2 hg (fun r e => (hr r e).2), h3⟩)
      ?assign2 ?body2 ?done2 ?stop2
    case assign2 =>
      rintro l2 pre' y W' K ⟨⟨⟨bC2, bX2⟩, bM2, bR2⟩, hBW, hKF⟩ hK
      have hsW2 := hBW.size
      simp only [arcV]
      gi_wp2
      exact hK _ _ ((KeepsOthers.alloc _ _).from _) ((Below.refl _ W').alloc (by omega) _) ⟨⟨⟨bC2.alloc _, bX2.alloc _⟩, bM2.alloc _, bR2.alloc _⟩, hBW.alloc (by omega) _, hKF.trans ((KeepsOthers.alloc _ _).from _)⟩ ⟨W'.heap.size, bC2.lt, BxA.new W' y, rfl⟩
    case body2 =>
      rintro l2 pre' y a'' W' _ _ ⟨⟨⟨bC2, bX2⟩, bM2, bR2⟩, hBW, hKF⟩ ⟨By, hBy, bY, rfl⟩ hlt2
      have hsW2 := hBW.size
      have cC := bC2.cell
      have fC := bC2.frozen
      have cX0 := bX2.c0
      have cX1 := bX2.c1
      have cY0 := bY.c0
      have cY1 := bY.c1
      have cR := bR2.cell
      have hcO := cntO_le xR (arcL xs xs.length) 16 (by omega) pre
      have hcI := cntI_le xR x pre'
      have hSN := cntI_snoc xR x y pre'
      have hpl : pre.length ≤ 16 := by omega
      have hpl2 : pre'.length ≤ 16 := by omega
      have HSN := Lib.hid hSN
      have hN : cntO xR (arcL xs xs.length) pre + cntI xR x pre' ≤ 300 := by omega
      clear hSN hcO hcI
      have HNE := Lib.hid (show ∀ b : Bool, cntI xR x (pre' ++ [y]) = cntI xR x pre' + (if b then 1 else 0) → cntO xR (arcL xs xs.length) pre + cntI xR x (pre' ++ [y]) = cntO xR (arcL xs xs.length) pre + cntI xR x pre' + (if b then 1 else 0) from fun b h => by rw [h]; omega)
      generalize cntO xR (arcL xs xs.length) pre + cntI xR x pre' = N at *
      by_cases hlt3 : x.1 < y.1
      · have d3 : decide (x.1 < y.1) = true := decide_eq_true hlt3
        rcases hx : xR x y with _ | _
        · have HE := Lib.hid (HNE.out false (by rw [HSN.out, d3, hx]; rfl))
          have hcr := crossesC x.1 x.2 y.1 y.2 W'
          rw [show crossB x.1 x.2 y.1 y.2 = false from hx] at hcr
          gi_wp2_with (refine ⟨trivial, fun _ => by omega, ?_⟩; refine (CallsIn.inRound l2 (CallsIn.inRound l (callsIn_wide.2 hcr))).mono ?_; rintro e w5 ⟨rfl, hb⟩; have bC5 := boxBelow bC2 hb; have cC5 := bC5.cell; have fC5 := bC5.frozen)
          have kf := fun B => keepsBelow B hb
          exact ⟨kf _, hb.mono (by omega), ⟨⟨by rw [HE.out]; exact bC5, (hb.block _ bX2.lt).trans bX2⟩, boxBelow bM2 hb, boxBelow bR2 hb⟩, hBW.trans (hb.mono (by omega)), hKF.trans (kf _)⟩
        · have HE := Lib.hid (HNE.out true (by rw [HSN.out, d3, hx]; rfl))
          have hcr := crossesC x.1 x.2 y.1 y.2 W'
          rw [show crossB x.1 x.2 y.1 y.2 = true from hx] at hcr
          gi_wp2_with (refine ⟨trivial, fun _ => by omega, ?_⟩; refine (CallsIn.inRound l2 (CallsIn.inRound l (callsIn_wide.2 hcr))).mono ?_; rintro e w5 ⟨rfl, hb⟩; have bC5 := boxBelow bC2 hb; have cC5 := bC5.cell; have fC5 := bC5.frozen)
          have kf := fun B => (keepsBelow B hb).trans ((KeepsOthers.setCell w5 ⟨w.heap.size + 1 + 1, 0, none⟩ (.int .i64 ((N : Int) + 1))).from _)
          have bX5 : BxA w5 Bx x := (hb.block _ bX2.lt).trans bX2
          have hS := (hb.mono (B' := w.heap.size) (by omega)).setCell (p := ⟨w.heap.size + 1 + 1, 0, none⟩) (by simp; omega) (.int .i64 ((N : Int) + 1))
          exact ⟨kf _, hS, ⟨⟨by rw [HE.out]; exact bC5.set _, bX5.other (by omega) _⟩, (boxBelow bM2 hb).other (by omega) _, (boxBelow bR2 hb).other (by omega) _⟩, hBW.trans hS, hKF.trans (kf _)⟩
      · have d3 : decide (x.1 < y.1) = false := decide_eq_false hlt3
        have HE := Lib.hid (HNE.out false (by rw [HSN.out, d3]; rfl))
        gi_wp2
        refine ⟨fun _ h => (by cases h), ?_⟩
        gi_wp2
        exact ⟨KeepsFrom.refl _ _, Below.refl _ _, ⟨⟨by rw [HE.out]; exact bC2, bX2⟩, bM2, bR2⟩, hBW, hKF⟩
    case done2 =>
      rintro ys' W' rfl ⟨⟨⟨bC2, bX2⟩, bM2, bR2⟩, hBW, hKF⟩
      gi_wp2
      exact ⟨hKF, hBW, ⟨⟨by rw [cntO_snoc]; exact bC2, bM2, bR2⟩, hB1.trans hBW⟩⟩
    case stop2 =>
      rintro c pre' W' _ h
      exact h.elim
  case done =>
    rintro D zs W hD rfl ⟨⟨bC1, bM1, bR1⟩, hB1⟩ hK
    have cC := bC1.cell
    gi_wp2
    refine ⟨by simp, .inl ⟨_, _, rfl, run_takeDeferred hK, ?_⟩⟩
    exact ⟨_, results_tmp rfl _ _ _, rfl, hB1.trans (belowK_b (w := w) (Nat.le_refl _) W D _ _ (by omega) hK rfl rfl)⟩
  case stop =>
    rintro D c pre W _ _ h _
    exact h.elim

set_option maxRecDepth 100000 in
set_option maxHeartbeats 1600000 in
theorem countArcs_x_no (A : Option Addr) (xs : List Int) (cap lo hi : Nat) (w : World) (hv : OwnI w lo hi (.slice A xs.length cap) xs) (hhi : hi ≤ w.heap.size) (hl : xs.length ≤ 1099511627776) (hm : matchP xs = false) :
    Calls Try.prog 50 #[.slice A xs.length cap, .func (.func 51) #[] #[]] w fun e W' => e = .returned (.int .i64 (-1)) ∧ Below w.heap.size w W' := by
  have hB0 : Below w.heap.size w ((w.alloc (.cells #[.slice A xs.length cap] 22)).alloc (.cells #[.func (.func 51) #[] #[]] 63)) := ((Below.refl _ w).alloc (Nat.le_refl _) _).alloc (by simp) _
  have hIM := isMatchingI (.slice A xs.length cap) xs lo hi _ (hv.keep hB0 hhi) hl
  rw [hm] at hIM
  refine (callsIn_wide (n := 6)).1 ?_
  refine callsIn_of_wp_marks Try.func50 rfl trivial ?_ rfl
  simp only [Try.ntmps50, List.size_toArray, List.length_cons, List.length_nil, Nat.reduceAdd, Nat.reduceSub, Array.replicate_succ, Array.replicate_zero, List.push_toArray, List.append_toArray, List.nil_append, List.cons_append]
  gi_wp2_with (refine ⟨trivial, ?_⟩; gi_at_call 58; refine (callsIn_wide.2 hIM).mono ?_; rintro e w' ⟨rfl, rfl⟩)
  first | exact ⟨_, results_tmp rfl _ _ _, rfl, hB0⟩ | exact ⟨rfl, _, results_tmp rfl _ _ _, rfl, hB0⟩ | exact ⟨_, ⟨results_tmp rfl _ _ _, rfl⟩, hB0⟩ | (trace_state; sorry)
def crA (xs : List Int) : Int := if matchP xs = true then (cntO xR (arcL xs xs.length) (arcL xs xs.length) : Int) else -1
set_option maxRecDepth 100000 in
set_option maxHeartbeats 1600000 in
theorem crossingsOfI (A : Option Addr) (xs : List Int) (cap lo hi : Nat) (w : World) (hv : OwnI w lo hi (.slice A xs.length cap) xs) (hhi : hi ≤ w.heap.size) (hl : xs.length ≤ 1099511627776) :
    Calls Try.prog 47 #[.slice A xs.length cap] w fun e W' => e = .returned (.int .i64 (crA xs)) ∧ Below w.heap.size w W' := by
  have HC := Lib.hid (show Calls Try.prog 50 #[.slice A xs.length cap, .func (.func 51) #[] #[]] w fun e W' => e = .returned (.int .i64 (crA xs)) ∧ Below w.heap.size w W' by
    unfold crA
    rcases hm : matchP xs with _ | _
    · exact countArcs_x_no A xs cap lo hi w hv hhi hl hm
    · exact (callsIn_wide (n := 6)).1 (countArcs_x 6 (Nat.le_refl _) A xs cap lo hi w hv hhi hm))
  clear hv
  go_enter Try.func47, Try.ntmps47
  go_wp2_with fail
  (with_reducible refine HC.out.mono ?_)
  rintro e w' ⟨rfl, hb⟩
  go_wp2
  go_ret
  exact ⟨rfl, hb⟩

end Go.Proofs.Ytgaggpdlpcldeaa
end

section
namespace Go.Proofs.Ytgaggpdlpcldeaa
open Go.ChangeShapes Go.WideShapes Go.ChangeAt Go.RowKit Go.Shelf
attribute [local go_sem] Oper.semAt_some
set_option linter.unusedVariables false

def nR (c d : Int × Int) : Bool := contB c.1 c.2 d.1 d.2

def nsA (xs : List Int) : Int := if matchP xs = true then (cntO nR (arcL xs xs.length) (arcL xs xs.length) : Int) else -1
end Go.Proofs.Ytgaggpdlpcldeaa
end

section
namespace Go.Proofs.Ytgaggpdlpcldeaa
open Go.ChangeShapes Go.WideShapes Go.ChangeAt Go.RowKit
set_option linter.unusedVariables false

/-- Pairs of arcs of which one stands in the other. -/
def nsR (xs : List Int) (a b : Nat) : Nat := if (b : Int) < xs.getD b 0 ∧ xs.getD b 0 < xs.getD a 0 then 1 else 0
def nsIn (xs : List Int) (a : Nat) : Nat → Nat
  | 0 => 0
  | k + 1 => nsIn xs a k + nsR xs a (a + 1 + k)
def nsOut (xs : List Int) : Nat → Nat
  | 0 => 0
  | a + 1 => nsOut xs a + nsIn xs a (xs.length - (a + 1))
theorem nsIn_le (xs : List Int) (a : Nat) : ∀ k, nsIn xs a k ≤ k := by
  intro k
  induction k with
  | zero => exact Nat.le_refl _
  | succ k ih => rw [nsIn]; have : nsR xs a (a + 1 + k) ≤ 1 := by unfold nsR; split <;> omega
                 omega
theorem nsOut_le (xs : List Int) : ∀ a, nsOut xs a ≤ a * xs.length := by
  intro a
  induction a with
  | zero => exact Nat.zero_le _
  | succ a ih => rw [nsOut, Nat.succ_mul]; have := nsIn_le xs a (xs.length - (a + 1)); omega
def nestP (xs : List Int) : Int := if matchP xs = true then (nsOut xs xs.length : Int) else -1

end Go.Proofs.Ytgaggpdlpcldeaa
end

section
namespace Go.Proofs.Ytgaggpdlpcldeaa
open Go.ChangeShapes Go.WideShapes Go.ChangeAt Go.RowKit
set_option linter.unusedVariables false

/-- The points a and b begin arcs that stand so to each other. -/
def ind (R : Int × Int → Int × Int → Bool) (xs : List Int) (a b : Nat) : Nat :=
  if (a : Int) < xs.getD a 0 ∧ (b : Int) < xs.getD b 0 ∧ a < b ∧ R ((a : Int), xs.getD a 0) ((b : Int), xs.getD b 0) = true then 1 else 0
def sumN (f : Nat → Nat) : Nat → Nat
  | 0 => 0
  | k + 1 => sumN f k + f k
theorem cnt_row (R : Int × Int → Int × Int → Bool) (xs : List Int) (a : Nat) (ha : (a : Int) < xs.getD a 0) : ∀ k, cntI R ((a : Int), xs.getD a 0) (arcL xs k) = sumN (ind R xs a) k := by
  intro k
  induction k with
  | zero => rfl
  | succ k ih =>
    rw [arcL, sumN]
    by_cases h : (k : Int) < xs.getD k 0
    · rw [if_pos h, cntI_snoc, ih]
      congr 1
      unfold ind
      by_cases h2 : a < k ∧ R ((a : Int), xs.getD a 0) ((k : Int), xs.getD k 0) = true
      · have hL : (decide ((((a : Int), xs.getD a 0) : Int × Int).1 < (((k : Int), xs.getD k 0) : Int × Int).1) && R ((a : Int), xs.getD a 0) ((k : Int), xs.getD k 0)) = true := by
          rw [Bool.and_eq_true, decide_eq_true_eq]
          exact ⟨by show (a : Int) < (k : Int); omega, h2.2⟩
        rw [if_pos hL, if_pos ⟨ha, h, h2.1, h2.2⟩]
      · have hL : ¬ (decide ((((a : Int), xs.getD a 0) : Int × Int).1 < (((k : Int), xs.getD k 0) : Int × Int).1) && R ((a : Int), xs.getD a 0) ((k : Int), xs.getD k 0)) = true := by
          intro hh
          rw [Bool.and_eq_true, decide_eq_true_eq] at hh
          have h3 : (a : Int) < (k : Int) := hh.1
          exact h2 ⟨by omega, hh.2⟩
        rw [if_neg hL, if_neg (fun hh => h2 ⟨hh.2.2.1, hh.2.2.2⟩)]
    · rw [if_neg h, ih]
      have : ind R xs a k = 0 := if_neg (fun hh => h hh.2.1)
      rw [this, Nat.add_zero]
theorem sumN_zero (f : Nat → Nat) (k : Nat) (h : ∀ i, i < k → f i = 0) : sumN f k = 0 := by
  induction k with
  | zero => rfl
  | succ k ih => rw [sumN, ih (fun i hi => h i (by omega)), h k (Nat.lt_succ_self k)]
theorem cnt_all (R : Int × Int → Int × Int → Bool) (xs : List Int) : ∀ k, cntO R (arcL xs xs.length) (arcL xs k) = sumN (fun a => sumN (ind R xs a) xs.length) k := by
  intro k
  induction k with
  | zero => rfl
  | succ k ih =>
    rw [arcL, sumN]
    by_cases h : (k : Int) < xs.getD k 0
    · rw [if_pos h, cntO_snoc, ih, cnt_row R xs k h]
    · rw [if_neg h, ih, sumN_zero (ind R xs k) xs.length (fun i _ => if_neg (fun hh => h hh.1)), Nat.add_zero]

theorem crR_ind (xs : List Int) {a b : Nat} (h : a < b) : crR xs a b = ind xR xs a b := by
  unfold crR ind xR crossB
  simp only [decide_eq_true_eq]
  generalize xs.getD a 0 = x
  generalize xs.getD b 0 = y
  split <;> split <;> omega
theorem crIn_sum (xs : List Int) (a : Nat) : ∀ k, crIn xs a k = sumN (ind xR xs a) (a + 1 + k) := by
  intro k
  induction k with
  | zero => exact (sumN_zero _ _ (fun i hi => if_neg (fun hh => by omega))).symm
  | succ k ih => rw [crIn, ih, crR_ind xs (show a < a + 1 + k by omega), show a + 1 + (k + 1) = a + 1 + k + 1 by omega, sumN]
theorem crOut_sum (xs : List Int) : ∀ k, k ≤ xs.length → crOut xs k = sumN (fun a => sumN (ind xR xs a) xs.length) k := by
  intro k
  induction k with
  | zero => intro _; rfl
  | succ k ih => intro hk; rw [crOut, sumN, ih (by omega), crIn_sum, show k + 1 + (xs.length - (k + 1)) = xs.length by omega]
theorem crA_eq (xs : List Int) : crA xs = crossP xs := by
  unfold crA crossP
  rw [cnt_all, crOut_sum xs xs.length (Nat.le_refl _)]

theorem nsR_ind (xs : List Int) {a b : Nat} (h : a < b) : nsR xs a b = ind nR xs a b := by
  unfold nsR ind nR contB
  simp only [decide_eq_true_eq]
  generalize xs.getD a 0 = x
  generalize xs.getD b 0 = y
  split <;> split <;> omega
theorem nsIn_sum (xs : List Int) (a : Nat) : ∀ k, nsIn xs a k = sumN (ind nR xs a) (a + 1 + k) := by
  intro k
  induction k with
  | zero => exact (sumN_zero _ _ (fun i hi => if_neg (fun hh => by omega))).symm
  | succ k ih => rw [nsIn, ih, nsR_ind xs (show a < a + 1 + k by omega), show a + 1 + (k + 1) = a + 1 + k + 1 by omega, sumN]
theorem nsOut_sum (xs : List Int) : ∀ k, k ≤ xs.length → nsOut xs k = sumN (fun a => sumN (ind nR xs a) xs.length) k := by
  intro k
  induction k with
  | zero => intro _; rfl
  | succ k ih => intro hk; rw [nsOut, sumN, ih (by omega), nsIn_sum, show k + 1 + (xs.length - (k + 1)) = xs.length by omega]
theorem nsA_eq (xs : List Int) : nsA xs = nestP xs := by
  unfold nsA nestP
  rw [cnt_all, nsOut_sum xs xs.length (Nat.le_refl _)]

end Go.Proofs.Ytgaggpdlpcldeaa
end

section
namespace Go.Proofs.Ytgaggpdlpcldeaa
open Go.ChangeShapes Go.WideShapes Go.ChangeAt Go.RowKit
set_option linter.unusedVariables false

theorem noncrossingI (A : Option Addr) (xs : List Int) (cap lo hi : Nat) (w : World) (hv : OwnI w lo hi (.slice A xs.length cap) xs) (hhi : hi ≤ w.heap.size) (hl : xs.length ≤ 1099511627776) :
    Calls Try.prog 42 #[.slice A xs.length cap] w fun e w' => e = .returned (.bool (crossP xs == 0)) ∧ Below w.heap.size w w' := by
  have H := Lib.hid (crossingsOfI A xs cap lo hi w hv hhi hl)
  rw [crA_eq] at H
  obtain ⟨z, hz⟩ : ∃ z, z = crossP xs := ⟨_, rfl⟩
  rw [← hz] at H ⊢
  clear hz hv
  go_enter Try.func42, Try.ntmps42
  go_wp2_with fail
  (with_reducible refine H.out.mono ?_)
  rintro e w' ⟨rfl, hb⟩
  go_wp2
  go_ret
  exact ⟨rfl, hb⟩

end Go.Proofs.Ytgaggpdlpcldeaa
end

section
namespace Go.Proofs.Ytgaggpdlpcldeaa
open Go.ChangeShapes Go.WideShapes Go.ChangeAt Go.RowKit
set_option linter.unusedVariables false

/-- A part of a row of ints, up to one of its places. -/
theorem run_upto (w : World) (a : Option Addr) (len cap n : Nat) (hn : n ≤ cap) : (Instr.slice 22 (.slice a len cap) none (some (.int .i64 (n : Int))) none).run Try.prog w = .ok (.slice a n cap) w := by
  obtain ⟨i0, hi, hz0, hz1, hz2⟩ := info_parts info3
  have he : Try.prog.elem 22 = 3 := by kernel_rfl
  have hcc : Try.prog.cellsOf 3 = 1 := by kernel_rfl
  have hu : Try.prog.underlying 22 = some (.slice (Try.prog.elem 22)) := by rw [he]; exact Try.underlying22
  rw [run_slice_h w _ _ len cap hu .i64 (n : Int) (by omega) (by omega), he, run_sizeOf w hi, hcc]
  cases a with
  | none => simp [sliced, Result.andThen]
  | some p => simp [sliced, Result.andThen, Addr.add]

end Go.Proofs.Ytgaggpdlpcldeaa
end

section
namespace Go.Proofs.Ytgaggpdlpcldeaa
open Go.ChangeShapes Go.WideShapes Go.ChangeAt Go.RowKit
set_option linter.unusedVariables false

end Go.Proofs.Ytgaggpdlpcldeaa
end

section
namespace Go.Proofs.Ytgaggpdlpcldeaa
open Go.ChangeShapes Go.WideShapes Go.ChangeAt Go.RowKit
set_option linter.unusedVariables false

set_option maxRecDepth 100000 in
set_option maxHeartbeats 3200000 in
theorem countLoopsI (A A' : Option Addr) (xs ys : List Int) (n cap cap' lo hi lo' hi' : Nat) (w : World) (g : Nat) (s0 : Nat → Bool) (hv : OwnI w lo hi (.slice A n cap) xs) (hu : OwnI w lo' hi' (.slice A' n cap') ys) (hhi : hi ≤ g) (hhu : hi' ≤ g)
    (hx : xs.length = n) (hy : ys.length = n) (hrx : InR xs n) (hry : InR ys n) (ht : TkB w g n s0) (h16 : n ≤ 16) :
    Calls Try.prog 43 #[.slice A n cap, .slice A' n cap', .slice (some ⟨g, 0, none⟩) n n] w fun e w' => e = .returned (.int .i64 ((ccO xs ys n s0 n).2 : Nat)) ∧ Below g w w' := by
  have HV := Lib.hid hv
  have HU := Lib.hid hu
  have HRX := Lib.hid hrx
  have HRY := Lib.hid hry
  have HT0 := Lib.hid ht
  have HX := Lib.hid hx
  have HY := Lib.hid hy
  have HCL := Lib.hid (fun i => ccO_le xs ys n s0 i)
  have HB0 := Lib.hid (Below.refl g w)
  clear hv hu hrx hry ht hx hy
  go_enter Try.func43, Try.ntmps43
  go_wp2
  go_loopw [7, 12] (fun x y wr => ∃ i : Nat, i ≤ n ∧ y = .int .i64 i ∧ x = .int .i64 ((ccO xs ys n s0 i).2 : Nat) ∧ TkB wr g n (ccO xs ys n s0 i).1 ∧ Below g w wr) (fun _ y _ => n - (intOf y).toNat)
  case atStart => exact ⟨0, Nat.zero_le _, rfl, rfl, HT0.out, HB0.out⟩
  case round =>
    obtain ⟨i, hi, rfl, rfl, htk, hb⟩ := hrel
    have HT := Lib.hid htk
    have HB4 := Lib.hid hb
    have hcl := HCL.out i
    clear htk hb HT0 HB0
    have HHIT := Lib.hid (fun h => ccO_hit (a := xs) (b := ys) (n := n) (s0 := s0) (i := i) h)
    have HGO := Lib.hid (fun h => ccO_go (a := xs) (b := ys) (n := n) (s0 := s0) (i := i) h)
    obtain ⟨S, hS⟩ : ∃ S, S = (ccO xs ys n s0 i).1 := ⟨_, rfl⟩
    obtain ⟨c, hc⟩ : ∃ c, c = (ccO xs ys n s0 i).2 := ⟨_, rfl⟩
    have HSC := Lib.hid (show ccO xs ys n s0 i = (S, c) by rw [hS, hc])
    rw [← hS] at HT HHIT HGO
    rw [← hc] at hcl HGO ⊢
    clear hS hc
    by_cases hlt : i < n
    · have hii : (i : Int) < (n : Int) := by omega
      obtain ⟨hc1, hf1⟩ := HT.out.cell (q := i) hlt
      rcases hs : S i with _ | _
      · have HG := Lib.hid (HGO.out hs)
        have HSI := Lib.hid hs
        rw [hs] at hc1
        clear hs
        go_wp2
        go_loopw [9] (fun y wr => ∃ (p k : Nat) (S' : Nat → Bool), p < n ∧ y = .int .i64 p ∧ TkB wr g n S' ∧ uns S' n < k ∧ ccW xs ys k S' p = ccW xs ys (n + 1) S i ∧ Below g w wr) (fun _ wr => unsM wr g n)
        case atStart => exact ⟨i, n + 1, S, hlt, rfl, HT.out, by have := uns_le S n; omega, rfl, HB4.out⟩
        case round =>
          obtain ⟨p, k, S', hp, rfl, htk, hk, hw, hb⟩ := hrel
          have HT2 := Lib.hid htk
          have HB5 := Lib.hid hb
          have HK := Lib.hid hk
          have HW := Lib.hid hw
          clear htk hb hk hw
          have hpi : (p : Int) < (n : Int) := by omega
          obtain ⟨hc2, hf2⟩ := HT2.out.cell (q := p) hp
          rcases hs2 : S' p with _ | _
          · rw [hs2] at hc2
            obtain ⟨hq1, hq2⟩ := HRX.out p hp
            obtain ⟨hr1, hr2⟩ := HRY.out (nx xs p) hq1
            have HB6 := Lib.hid (HB5.out.setCell (p := ⟨g, p, none⟩) (Nat.le_refl _) (.bool true))
            have HT3 := Lib.hid (HT2.out.upb hp)
            have HB7 := Lib.hid (HB6.out.setCell (p := ⟨g, nx xs p, none⟩) (Nat.le_refl _) (.bool true))
            have HT4 := Lib.hid (HT3.out.upb hq1)
            obtain ⟨g1, p1, e1, -, -, hcx1, -⟩ := (HV.out.keep HB5.out hhi).cell (j := p) (by rw [HX.out]; exact hp)
            obtain ⟨g1', p1', e1', -, -, hcx2, -⟩ := (HV.out.keep HB7.out hhi).cell (j := p) (by rw [HX.out]; exact hp)
            obtain ⟨g2, p2, e2, -, -, hcy, -⟩ := (HU.out.keep HB7.out hhu).cell (j := nx xs p) (by rw [HY.out]; exact hq1)
            simp only [Value.slice.injEq] at e1 e1' e2
            obtain ⟨rfl, -, -⟩ := e1
            obtain ⟨e3, -, -⟩ := e1'
            obtain rfl : g1 = g1' := by simpa using e3
            obtain ⟨rfl, -, -⟩ := e2
            rw [hq2] at hcx1 hcx2
            rw [hr2] at hcy
            obtain ⟨hc3, hf3⟩ := HT3.out.cell (q := nx xs p) hq1
            have HUW := Lib.hid (show unsM ((wr.setCell ⟨g, p, none⟩ (.bool true)).setCell ⟨g, nx xs p, none⟩ (.bool true)) g n < unsM wr g n by
              rw [unsM_eq HT2.out n (Nat.le_refl _), unsM_eq HT4.out n (Nat.le_refl _)]
              have := uns_upb hs2 n hp
              have := uns_mono (upb S' p) (nx xs p) n
              omega)
            have HUK := Lib.hid (show uns (upb (upb S' p) (nx xs p)) n < k - 1 by
              have := uns_upb hs2 n hp
              have := uns_mono (upb S' p) (nx xs p) n
              have := HK.out
              omega)
            have HW3 := Lib.hid (show ccW xs ys (k - 1) (upb (upb S' p) (nx xs p)) (nx ys (nx xs p)) = ccW xs ys (n + 1) S i by
              rw [← HW.out]
              have := HK.out
              obtain ⟨k', rfl⟩ : ∃ k', k = k' + 1 := ⟨k - 1, by omega⟩
              rw [ccW_go hs2]; rfl)
            clear hs2 e3
            generalize nx ys (nx xs p) = q3 at *
            generalize nx xs p = q2 at *
            generalize upb S' p q2 = bb at hc3
            have hq2i : (q2 : Int) < (n : Int) := by omega
            have hq3i : (q3 : Int) < (n : Int) := by omega
            go_wp2
            refine ⟨⟨q3, k - 1, _, hr1, rfl, HT4.out, HUK.out, HW3.out, HB7.out⟩, HUW.out⟩
          · rw [hs2] at hc2
            have HW2 := Lib.hid (HW.out.symm.trans (ccW_hit hs2))
            clear hs2
            go_wp2
            refine ⟨⟨i + 1, by omega, by simp, by rw [HG.out]; simp, by rw [HG.out]; show TkB _ _ _ (ccW xs ys (n + 1) S i); rw [HW2.out]; exact HT2.out, HB5.out⟩, by simp [intOf]; omega⟩
      · have HG := Lib.hid (HHIT.out hs)
        rw [hs] at hc1
        clear hs
        go_wp2
        refine ⟨⟨i + 1, by omega, by simp, by rw [HG.out, HSC.out], by rw [HG.out, HSC.out]; exact HT.out, HB4.out⟩, by simp [intOf]; omega⟩
    · obtain rfl : i = n := by omega
      go_wp2
      go_ret
      exact ⟨ret_int (by rw [HSC.out]), HB4.out⟩

set_option maxRecDepth 100000 in
set_option maxHeartbeats 3200000 in
theorem loopsOfI (A A' : Option Addr) (xs ys : List Int) (cap cap' lo hi lo' hi' : Nat) (w : World) (hv : OwnI w lo hi (.slice A xs.length cap) xs) (hu : OwnI w lo' hi' (.slice A' ys.length cap') ys) (hhi : hi ≤ w.heap.size) (hhu : hi' ≤ w.heap.size) (hl : xs.length ≤ 1099511627776) (hl' : ys.length ≤ 1099511627776) :
    Calls Try.prog 37 #[.slice A xs.length cap, .slice A' ys.length cap'] w fun e w' => e = .returned (.int .i64 (lpP xs ys)) ∧ Below w.heap.size w w' := by
  have HN := Lib.hid (noncrossingI A xs cap lo hi w hv hhi hl)
  have HN2 := Lib.hid (fun W (h : OwnI W lo' hi' (.slice A' ys.length cap') ys) (hh : hi' ≤ W.heap.size) => noncrossingI A' ys cap' lo' hi' W h hh hl')
  have HV := Lib.hid hv
  have HU := Lib.hid hu
  clear hv hu
  rcases hx : (crossP xs == 0) with _ | _
  · have HP := Lib.hid (show lpP xs ys = -1 from if_neg (by unfold lpOk; rw [hx]; simp))
    rw [hx] at HN
    clear hx
    go_enter Try.func37, Try.ntmps37
    go_wp2_with fail
    (with_reducible refine HN.out.mono ?_)
    rintro e w' ⟨rfl, hb⟩
    go_wp2
    go_ret
    exact ⟨ret_int HP.out.symm, hb⟩
  rcases hy : (crossP ys == 0) with _ | _
  · have HP := Lib.hid (show lpP xs ys = -1 from if_neg (by unfold lpOk; rw [hy]; simp))
    rw [hx] at HN
    rw [hy] at HN2
    clear hx hy
    go_enter Try.func37, Try.ntmps37
    go_wp2_with fail
    (with_reducible refine HN.out.mono ?_)
    rintro e w1 ⟨rfl, hb⟩
    have HB := Lib.hid hb
    have HU1 := Lib.hid (HU.out.keep hb hhu)
    have z1 := hb.size
    clear hb
    go_wp2_with fail
    (with_reducible refine (HN2.out _ HU1.out (by omega)).mono ?_)
    rintro e w2 ⟨rfl, hb⟩
    have HB2 := Lib.hid (HB.out.trans (hb.mono HB.out.size))
    clear hb
    go_wp2
    go_ret
    exact ⟨ret_int HP.out.symm, HB2.out⟩
  by_cases hlen : xs.length = ys.length
  · have HP := Lib.hid (show lpP xs ys = (lpN xs ys : Int) from if_pos (by unfold lpOk; rw [hx, hy, decide_eq_true hlen]; rfl))
    have hmx := match_cross hx
    have hmy := match_cross hy
    have h16 := (match_yes hmx).1
    have HRX := Lib.hid (inR_match hmx)
    have HRY := Lib.hid (inR_match hmy)
    rw [hx] at HN
    rw [hy] at HN2
    clear hx hy hmx hmy
    obtain ⟨n, hn⟩ : ∃ n, n = xs.length := ⟨_, rfl⟩
    have HE := Lib.hid hn
    have HE2 := Lib.hid (hn.trans hlen)
    have hne : ((n : Int) != (n : Int)) = false := by simp
    have HPN := Lib.hid (show lpN xs ys = (ccO xs ys n (fun _ => false) n).2 by unfold lpN; rw [← hn])
    rw [← HE.out, ← HE2.out]
    rw [← HE.out] at HN HV HRX h16
    rw [← HE2.out] at HN2 HU HRY
    clear hn hlen hl hl'
    obtain ⟨i0, hi0, hz0, hz1, hz2⟩ := info_parts infoB
    go_enter Try.func37, Try.ntmps37
    go_wp2_with fail
    (with_reducible refine HN.out.mono ?_)
    rintro e w1 ⟨rfl, hb⟩
    have HB := Lib.hid hb
    have HU1 := Lib.hid (HU.out.keep hb hhu)
    have HV1 := Lib.hid (HV.out.keep hb hhi)
    have z1 := hb.size
    clear hb
    go_wp2_with fail
    (with_reducible refine (HN2.out _ HU1.out (by omega)).mono ?_)
    rintro e w2 ⟨rfl, hb⟩
    have HB2 := Lib.hid (HB.out.trans (hb.mono HB.out.size))
    have HU2 := Lib.hid (HU1.out.keep hb (by omega))
    have HV2 := Lib.hid (HV1.out.keep hb (by omega))
    have z2 := hb.size
    clear hb
    go_wp2_with (at_make; go_must (refine wpList_make_full _ rfl _ _ 52 rfl w2.heap.size 4 i0 (.bool false) 1 Try.underlying52 hi0 hz0 hz1 .i64 .i64 (n : Int) (n : Int) n rfl rfl (by omega) (by omega) (by rw [hz2]; omega) (by unfold maxLen; omega) (Nat.le_refl _) ?_); intro w3 hown1 hgrow1)
    have HT0 := Lib.hid (TkB.made hown1)
    have HB3 := Lib.hid ((Below.refl w2.heap.size w2).grown hgrow1 (Nat.le_refl _) (fun k hk => by cases hk))
    have HU3 := Lib.hid (HU2.out.keep HB3.out (by omega))
    have HV3 := Lib.hid (HV2.out.keep HB3.out (by omega))
    clear hown1 hgrow1
    go_wp2_with fail
    (with_reducible refine (countLoopsI A A' xs ys n cap cap' lo hi lo' hi' _ w2.heap.size (fun _ => false) HV3.out HU3.out (by omega) (by omega) HE.out.symm HE2.out.symm HRX.out HRY.out HT0.out h16).mono ?_)
    rintro e w4 ⟨rfl, hb⟩
    have HB4 := Lib.hid (HB2.out.trans ((HB3.out.trans hb).mono (by omega)))
    clear hb
    go_wp2
    go_ret
    exact ⟨ret_int (by rw [HP.out, HPN.out]), HB4.out⟩
  · have HP := Lib.hid (show lpP xs ys = -1 from if_neg (by unfold lpOk; rw [decide_eq_false hlen]; simp))
    have hne : ((xs.length : Int) != (ys.length : Int)) = true := by simp; omega
    rw [hx] at HN
    rw [hy] at HN2
    clear hx hy
    go_enter Try.func37, Try.ntmps37
    go_wp2_with fail
    (with_reducible refine HN.out.mono ?_)
    rintro e w1 ⟨rfl, hb⟩
    have HB := Lib.hid hb
    have HU1 := Lib.hid (HU.out.keep hb hhu)
    have z1 := hb.size
    clear hb
    go_wp2_with fail
    (with_reducible refine (HN2.out _ HU1.out (by omega)).mono ?_)
    rintro e w2 ⟨rfl, hb⟩
    have HB2 := Lib.hid (HB.out.trans (hb.mono HB.out.size))
    clear hb
    go_wp2
    go_ret
    exact ⟨ret_int HP.out.symm, HB2.out⟩

theorem isMeanderI (A A' : Option Addr) (xs ys : List Int) (cap cap' lo hi lo' hi' : Nat) (w : World) (hv : OwnI w lo hi (.slice A xs.length cap) xs) (hu : OwnI w lo' hi' (.slice A' ys.length cap') ys) (hhi : hi ≤ w.heap.size) (hhu : hi' ≤ w.heap.size) (hl : xs.length ≤ 1099511627776) (hl' : ys.length ≤ 1099511627776) :
    Calls Try.prog 28 #[.slice A xs.length cap, .slice A' ys.length cap'] w fun e w' => e = .returned (.bool (lpP xs ys == 1)) ∧ Below w.heap.size w w' := by
  have H := Lib.hid (loopsOfI A A' xs ys cap cap' lo hi lo' hi' w hv hu hhi hhu hl hl')
  obtain ⟨z, hz⟩ : ∃ z, z = lpP xs ys := ⟨_, rfl⟩
  rw [← hz] at H ⊢
  clear hz hv hu
  go_enter Try.func28, Try.ntmps28
  go_wp2_with fail
  (with_reducible refine H.out.mono ?_)
  rintro e w' ⟨rfl, hb⟩
  go_wp2
  go_ret
  exact ⟨rfl, hb⟩

end Go.Proofs.Ytgaggpdlpcldeaa
end

section
namespace Go.Proofs.Ytgaggpdlpcldeaa
open Go.ChangeShapes Go.WideShapes Go.ChangeAt Go.RowKit
set_option linter.unusedVariables false

theorem RowI.grown {w w' : World} {g d : Nat} {f : Nat → Int} {row : Option Nat} (h : RowI w g d f) (hg : w.grownBy w' row) (hne : row ≠ some g) : RowI w' g d f :=
  h.keep (hg.block g h.lt (fun e => hne e.symm))
theorem RowI.alloc {w : World} {g d : Nat} {f : Nat → Int} (h : RowI w g d f) (o : Obj) : RowI (w.alloc o) g d f :=
  h.keep (by
    have := h.lt
    rw [show (w.alloc o).heap = w.heap.push o from rfl, Array.getElem?_push, if_neg (by omega)])
theorem OutR.grown {w w' : World} {base d : Nat} {v : Value} {gs : List Nat} (h : OutR w base d v gs) (hg : w.grownBy w' none) : OutR w' base d v gs :=
  h.keep fun o ho => by
    obtain ⟨cur, h1⟩ := h.own ho
    exact hg.block o (Array.getElem?_eq_some_iff.1 h1).1 (fun e => by cases e)
theorem OutR.alloc {w : World} {base d : Nat} {v : Value} {gs : List Nat} (h : OutR w base d v gs) (o : Obj) : OutR (w.alloc o) base d v gs := World.ownsRow.alloc h o
/-- The row i when the places from i up to k have been filled. -/
def fl (i k : Nat) : Nat → Int := fun q => if i ≤ q ∧ q < k then wy i q else 0
theorem fl_in (i k q : Nat) (h1 : i ≤ q) (h2 : q < k) : fl i k q = wy i q := if_pos ⟨h1, h2⟩
theorem fl_out (i k q : Nat) (h : ¬ (i ≤ q ∧ q < k)) : fl i k q = 0 := if_neg h
theorem fl_next (i k q : Nat) (h : q ≠ k) : fl i (k + 1) q = fl i k q := by
  by_cases e : i ≤ q ∧ q < k
  · rw [fl_in _ _ _ e.1 e.2, fl_in _ _ _ e.1 (by omega)]
  · rw [fl_out _ _ _ e, fl_out _ _ _ (by omega)]
theorem fl_all (i d q : Nat) (h : q ≤ d) : wy i q = fl i (d + 1) q := by
  by_cases e : i ≤ q
  · rw [fl_in _ _ _ e (by omega)]
  · rw [fl_out _ _ _ (by omega), wy_low _ _ (by omega)]
theorem snoc_old (gs : List Nat) (g j : Nat) (h : j < gs.length) : (gs ++ [g]).getD j 0 = gs.getD j 0 := by
  simp [List.getD, List.getElem?_append_left h]
theorem snoc_new (gs : List Nat) (g : Nat) : (gs ++ [g]).getD gs.length 0 = g := by simp [List.getD]

end Go.Proofs.Ytgaggpdlpcldeaa
end

section
namespace Go.Proofs.Ytgaggpdlpcldeaa
open Go.ChangeShapes Go.WideShapes Go.ChangeAt Go.RowKit
open Go.PlainAid (bt bt_nonneg bt_le get_bt)
set_option linter.unusedVariables false

def catP (n : Int) : Int := if 0 ≤ n ∧ n ≤ 15 then wy n.toNat n.toNat else -1
def ballP (u d : Int) : Int := if 0 ≤ u ∧ u ≤ d ∧ d ≤ 15 then wy u.toNat d.toNat else 0

/-- The rank that the letters add when up letters u and down letters d are to come. -/
def rkL : List UInt8 → Nat → Nat → Int
  | [], _, _ => 0
  | c :: l, up, down => if c.toNat = 117 then rkL l (up - 1) down else (if 0 < up then wy (up - 1) down else 0) + rkL l up (down - 1)
theorem rkL_nil (u d : Nat) : rkL [] u d = 0 := rfl
theorem rkL_up (c : UInt8) (l : List UInt8) (u d : Nat) (e : c.toNat = 117) : rkL (c :: l) u d = rkL l (u - 1) d := by rw [rkL, if_pos e]
theorem rkL_down (c : UInt8) (l : List UInt8) (u d : Nat) (e : c.toNat ≠ 117) : rkL (c :: l) u d = (if 0 < u then wy (u - 1) d else 0) + rkL l u (d - 1) := by rw [rkL, if_neg e]
def rankP (s : ByteArray) : Int := if dyck s = true then rkL s.data.toList (s.size / 2) (s.size / 2) else -1
/-- The letters to come: up letters u and down letters d when the height is h. -/
def ends (h u d : Nat) (l : List UInt8) : Prop := dyckFrom h l = true ∧ h + u = d ∧ l.length = u + d
theorem ends_count : ∀ (l : List UInt8) (h : Nat), dyckFrom h l = true → ∃ u d, h + u = d ∧ l.length = u + d := by
  intro l
  induction l with
  | nil => intro h hd; rw [df_nil] at hd; simp at hd; exact ⟨0, 0, by omega, rfl⟩
  | cons c l ih =>
    intro h hd
    rcases df_letter hd with ⟨e, hd'⟩ | ⟨e, h1, hd'⟩
    · obtain ⟨u, d, e1, e2⟩ := ih _ hd'
      exact ⟨u + 1, d, by omega, by rw [List.length_cons]; omega⟩
    · obtain ⟨u, d, e1, e2⟩ := ih _ hd'
      exact ⟨u, d + 1, by omega, by rw [List.length_cons]; omega⟩
theorem ends_up {h u d : Nat} {c : UInt8} {l : List UInt8} (he : ends h u d (c :: l)) (e : c.toNat = 117) : 1 ≤ u ∧ ends (h + 1) (u - 1) d l := by
  obtain ⟨h1, h2, h3⟩ := he
  rcases df_letter h1 with ⟨-, hd'⟩ | ⟨e', -, -⟩
  · obtain ⟨a, b, e1, e2⟩ := ends_count _ _ hd'
    rw [List.length_cons] at h3
    exact ⟨by omega, hd', by omega, by omega⟩
  · omega
theorem ends_down {h u d : Nat} {c : UInt8} {l : List UInt8} (he : ends h u d (c :: l)) (e : c.toNat ≠ 117) : 1 ≤ h ∧ 1 ≤ d ∧ ends (h - 1) u (d - 1) l := by
  obtain ⟨h1, h2, h3⟩ := he
  rcases df_letter h1 with ⟨e', -⟩ | ⟨-, hh, hd'⟩
  · omega
  · rw [List.length_cons] at h3
    exact ⟨hh, by omega, hd', by omega, by omega⟩
theorem ends_start {s : ByteArray} (h : dyck s = true) : ends 0 (s.size / 2) (s.size / 2) (rest s 0) := by
  have h16 := dyck_size h
  rw [dyck_short h16] at h
  obtain ⟨u, d, e1, e2⟩ := ends_count _ _ h
  have e3 : s.data.toList.length = s.size := by simp
  have e4 : (rest s 0).length = s.size := by rw [rest_zero]; exact e3
  exact ⟨h, by omega, by omega⟩

end Go.Proofs.Ytgaggpdlpcldeaa
end

section
namespace Go.Proofs.Ytgaggpdlpcldeaa
open Go.ChangeShapes Go.WideShapes Go.ChangeAt Go.RowKit
open Go.PlainAid (bt bt_nonneg bt_le get_bt)
set_option linter.unusedVariables false

def ways (u d : Nat) : Int := if 0 < u then wy (u - 1) d else 0
/-- The letters of rank k when up letters u and down letters d are to come. -/
def unrL : Nat → Nat → Nat → Int → List UInt8
  | 0, _, _, _ => []
  | f + 1, u, d, k => if d = 0 then [] else if k < ways u d then 117 :: unrL f (u - 1) d k else 100 :: unrL f u (d - 1) (k - ways u d)
theorem unrL_end (f u : Nat) (k : Int) : unrL f u 0 k = [] := by
  cases f with
  | zero => rfl
  | succ f => rw [unrL, if_pos rfl]
theorem unrL_up (f u d : Nat) (k : Int) (hd : d ≠ 0) (h : k < ways u d) : unrL (f + 1) u d k = 117 :: unrL f (u - 1) d k := by rw [unrL, if_neg hd, if_pos h]
theorem unrL_down (f u d : Nat) (k : Int) (hd : d ≠ 0) (h : ¬ k < ways u d) : unrL (f + 1) u d k = 100 :: unrL f u (d - 1) (k - ways u d) := by rw [unrL, if_neg hd, if_neg h]
def unrGood (n k : Int) : Prop := 0 ≤ n ∧ n ≤ 8 ∧ 0 ≤ k ∧ k < wy n.toNat n.toNat
instance (n k : Int) : Decidable (unrGood n k) := by unfold unrGood; infer_instance
def unrOk (n k : Int) : Bool := decide (unrGood n k)
def unrP (n k : Int) : ByteArray := if unrGood n k then ⟨(unrL (n.toNat + n.toNat) n.toNat n.toNat k).toArray⟩ else ⟨#[]⟩
theorem unr_no {n k : Int} (h : ¬ unrGood n k) : unrOk n k = false ∧ unrP n k = ⟨#[]⟩ := ⟨decide_eq_false h, if_neg h⟩
theorem unr_yes {n k : Int} (h : unrGood n k) : unrOk n k = true ∧ unrP n k = ⟨(unrL (n.toNat + n.toNat) n.toNat n.toNat k).toArray⟩ := ⟨decide_eq_true h, if_pos h⟩
theorem wy_small (q d : Nat) (hq : q ≤ 8) (hd : d ≤ 15) : 0 ≤ wy q d ∧ wy q d ≤ 4294967296 := by
  have h := wy_bd q d hd
  refine ⟨h.1, Int.le_trans h.2 ?_⟩
  have h1 : (16 : Nat) ^ q ≤ 16 ^ 8 := Nat.pow_le_pow_right (by decide) hq
  have h2 : (16 : Int) ^ q ≤ 16 ^ 8 := by exact_mod_cast h1
  exact Int.le_trans h2 (by decide)
/-- A rank that is too great for u goes on behind d. -/
theorem ways_rest (u d : Nat) (k : Int) (hd : 0 < d) (hud : u ≤ d) (h0 : 0 ≤ k) (hk : k < wy u d) (h : ¬ k < ways u d) : u ≤ d - 1 ∧ 0 ≤ k - ways u d ∧ k - ways u d < wy u (d - 1) := by
  obtain ⟨e, rfl⟩ : ∃ e, d = e + 1 := ⟨d - 1, by omega⟩
  cases u with
  | zero => rw [wy_zero] at hk; unfold ways at h ⊢; simp at h ⊢; rw [wy_zero]; omega
  | succ u =>
    have hw : ways (u + 1) (e + 1) = wy u (e + 1) := by unfold ways; rw [if_pos (by omega)]; rfl
    rw [hw] at h ⊢
    by_cases hue : u = e
    · subst hue; rw [wy_diag] at hk; omega
    · rw [wy_step _ _ (by omega)] at hk
      rw [show e + 1 - 1 = e by omega]
      omega

theorem rkL_bd : ∀ (l : List UInt8) (h u d : Nat), ends h u d l → u ≤ 8 → d ≤ 8 → 0 ≤ rkL l u d ∧ rkL l u d ≤ d * 4294967296 := by
  intro l
  induction l with
  | nil => intro h u d he hu hd; rw [rkL_nil]; omega
  | cons c l ih =>
    intro h u d he hu hd
    by_cases e : c.toNat = 117
    · obtain ⟨h1, h2⟩ := ends_up he e
      rw [rkL_up _ _ _ _ e]
      exact ih _ _ _ h2 (by omega) hd
    · obtain ⟨h1, h2, h3⟩ := ends_down he e
      have h4 := ih _ _ _ h3 hu (by omega)
      rw [rkL_down _ _ _ _ e]
      have h5 := wy_small (u - 1) d (by omega) (by omega)
      split <;> omega
theorem rankP_bd {s : ByteArray} (h : dyck s = true) : 0 ≤ rankP s ∧ rankP s ≤ 34359738368 := by
  have h16 := dyck_size h
  have h1 := rkL_bd _ _ _ _ (ends_start h) (by omega) (by omega)
  have h2 : rankP s = rkL (rest s 0) (s.size / 2) (s.size / 2) := if_pos h
  rw [h2]
  refine ⟨h1.1, Int.le_trans h1.2 ?_⟩
  omega
def nextOk (s : ByteArray) : Bool := if dyck s = true then unrOk ((s.size / 2 : Nat) : Int) (rankP s + 1) else false
def nextP (s : ByteArray) : ByteArray := if dyck s = true then unrP ((s.size / 2 : Nat) : Int) (rankP s + 1) else ⟨#[]⟩

end Go.Proofs.Ytgaggpdlpcldeaa
end

section
namespace Go.Proofs.Ytgaggpdlpcldeaa
open Go.RowKit
set_option linter.unusedVariables false

/-- The first word of up letters u and down letters d to come. -/
def frL (u d : Nat) : List UInt8 := Lib.repeatL [117] u ++ Lib.repeatL [100] d
theorem frL_up (u d : Nat) : frL (u + 1) d = 117 :: frL u d := rfl
theorem frL_none (d : Nat) : frL 0 (d + 1) = 100 :: frL 0 d := rfl
theorem frL_len (u d : Nat) : (frL u d).length = u + d := by unfold frL; rw [List.length_append, Lib.repeatL_length, Lib.repeatL_length]; simp
/-- The next word behind the letters l, where there is one. -/
def nxL : List UInt8 → Nat → Nat → Option (List UInt8)
  | [], _, _ => none
  | c :: l, u, d => if c.toNat = 117 then (match nxL l (u - 1) d with | some x => some (117 :: x) | none => if u < d then some (100 :: frL u (d - 1)) else none) else (match nxL l u (d - 1) with | some x => some (100 :: x) | none => none)
theorem nxL_up (c : UInt8) (l : List UInt8) (u d : Nat) (e : c.toNat = 117) : nxL (c :: l) u d = (match nxL l (u - 1) d with | some x => some (117 :: x) | none => if u < d then some (100 :: frL u (d - 1)) else none) := by rw [nxL, if_pos e]
theorem nxL_down (c : UInt8) (l : List UInt8) (u d : Nat) (e : c.toNat ≠ 117) : nxL (c :: l) u d = (match nxL l u (d - 1) with | some x => some (100 :: x) | none => none) := by rw [nxL, if_neg e]

theorem wy_pos : ∀ (u d : Nat), u ≤ d → 0 < wy u d := by
  intro u
  induction u with
  | zero => intro d _; rw [wy_zero]; decide
  | succ u ih =>
    intro d hd
    obtain ⟨e, rfl⟩ : ∃ e, d = e + 1 := ⟨d - 1, by omega⟩
    induction e with
    | zero =>
      obtain rfl : u = 0 := by omega
      rw [wy_diag]; exact ih _ (by omega)
    | succ e ihe =>
      by_cases h : u + 1 = e + 1 + 1
      · rw [h, show e + 1 + 1 = (e + 1) + 1 by omega]
        obtain rfl : u = e + 1 := by omega
        rw [wy_diag]; exact ih _ (by omega)
      · rw [wy_step _ _ (by omega)]
        have h1 := ih (e + 1 + 1) (by omega)
        have h2 := ihe (by omega)
        omega
/-- The words begin with u or with d. -/
theorem wy_split (u d : Nat) (hd : 0 < d) (hud : u ≤ d) : wy u d = ways u d + if u < d then wy u (d - 1) else 0 := by
  obtain ⟨e, rfl⟩ : ∃ e, d = e + 1 := ⟨d - 1, by omega⟩
  rw [show e + 1 - 1 = e by omega]
  cases u with
  | zero => rw [wy_zero, wy_zero]; unfold ways; simp
  | succ u =>
    have hw : ways (u + 1) (e + 1) = wy u (e + 1) := by unfold ways; rw [if_pos (by omega)]; rfl
    rw [hw]
    by_cases hue : u = e
    · subst hue; rw [wy_diag, if_neg (by omega)]; omega
    · rw [wy_step _ _ (by omega), if_pos (by omega)]
theorem ways_up (u d : Nat) (h : 0 < u) : ways u d = wy (u - 1) d := by unfold ways; rw [if_pos h]
theorem unr_first : ∀ (f u d : Nat), u + d = f → u ≤ d → unrL f u d 0 = frL u d := by
  intro f
  induction f with
  | zero =>
    intro u d h _
    obtain rfl : u = 0 := by omega
    obtain rfl : d = 0 := by omega
    rw [unrL_end]; rfl
  | succ f ih =>
    intro u d h hud
    cases u with
    | zero =>
      obtain ⟨e, rfl⟩ : ∃ e, d = e + 1 := ⟨d - 1, by omega⟩
      have h1 := unrL_down f 0 (e + 1) 0 (by omega) (by unfold ways; simp)
      rw [h1, show (0 : Int) - ways 0 (e + 1) = 0 by unfold ways; simp, show e + 1 - 1 = e by omega, ih 0 e (by omega) (by omega), frL_none]
    | succ u =>
      have hw := ways_up (u + 1) d (by omega)
      have hp := wy_pos u d (by omega)
      rw [show u + 1 - 1 = u by omega] at hw
      rw [unrL_up f (u + 1) d 0 (by omega) (by rw [hw]; exact hp), show u + 1 - 1 = u by omega, ih u d (by omega) (by omega), frL_up]
/-- What the next word is, by the ranks. -/
theorem nx_rank : ∀ (l : List UInt8) (h u d : Nat), ends h u d l → u ≤ 8 → d ≤ 8 → (nxL l u d = none → rkL l u d + 1 = wy u d) ∧ (∀ x, nxL l u d = some x → rkL l u d + 1 < wy u d ∧ unrL (u + d) u d (rkL l u d + 1) = x) := by
  intro l
  induction l with
  | nil =>
    intro h u d he hu8 hd8
    obtain ⟨-, h2, h3⟩ := he
    simp only [List.length_nil] at h3
    have hu0 : u = 0 := by omega
    have hd0 : d = 0 := by omega
    subst hu0 hd0
    exact ⟨fun _ => (by rw [rkL_nil, wy_zero]; rfl), fun x hx => (by rw [nxL] at hx; cases hx)⟩
  | cons c l ih =>
    intro h u d he hu8 hd8
    have hud : u ≤ d := by have := he.2.1; omega
    have hlen := he.2.2
    rw [List.length_cons] at hlen
    by_cases e : c.toNat = 117
    · obtain ⟨hu, he'⟩ := ends_up he e
      obtain ⟨i1, i2⟩ := ih _ _ _ he' (by omega) hd8
      rw [nxL_up _ _ _ _ e, rkL_up _ _ _ _ e]
      have hw := ways_up u d (by omega)
      have hsp := wy_split u d (by omega) hud
      rcases hx : nxL l (u - 1) d with _ | y
      · have hr := i1 hx
        refine ⟨fun hn => ?_, fun x hx' => ?_⟩
        · by_cases hlt : u < d
          · simp [hlt] at hn
          · rw [hsp, if_neg hlt, hw, hr]; omega
        · by_cases hlt : u < d
          · simp only [hlt, if_true, Option.some.injEq] at hx'
            subst hx'
            have hp := wy_pos u (d - 1) (by omega)
            refine ⟨by rw [hsp, if_pos hlt, hw, hr]; omega, ?_⟩
            rw [show u + d = (u + d - 1) + 1 by omega, hr, ← hw, unrL_down _ _ _ _ (by omega) (by omega), show ways u d - ways u d = 0 by omega, show u + d - 1 = u + (d - 1) by omega, unr_first _ _ _ rfl (by omega)]
          · simp [hlt] at hx'
      · obtain ⟨r1, r2⟩ := i2 y hx
        refine ⟨fun hn => by simp at hn, fun x hx' => ?_⟩
        simp only [Option.some.injEq] at hx'
        subst hx'
        have h0 : 0 ≤ (if u < d then wy u (d - 1) else 0) := by
          split
          · have := wy_pos u (d - 1) (by omega); omega
          · omega
        refine ⟨by rw [hsp, hw]; omega, ?_⟩
        rw [show u + d = (u - 1 + d) + 1 by omega, unrL_up _ _ _ _ (by omega) (by rw [hw]; exact r1), r2]
    · obtain ⟨hh, hd1, he'⟩ := ends_down he e
      have hlt : u < d := by have := he.2.1; omega
      obtain ⟨i1, i2⟩ := ih _ _ _ he' hu8 (by omega)
      have hsp := wy_split u d (by omega) hud
      rw [if_pos hlt] at hsp
      have hrk : rkL (c :: l) u d = ways u d + rkL l u (d - 1) := rkL_down c l u d e
      rw [nxL_down _ _ _ _ e, hrk]
      rcases hx : nxL l u (d - 1) with _ | y
      · have hr := i1 hx
        exact ⟨fun _ => (by rw [hsp, ← hr]; omega), fun x hx' => (by cases hx')⟩
      · obtain ⟨r1, r2⟩ := i2 y hx
        refine ⟨fun hn => (by cases hn), fun x hx' => ?_⟩
        simp only [Option.some.injEq] at hx'
        subst hx'
        have hr0 := (rkL_bd l _ _ _ he' hu8 (by omega)).1
        refine ⟨by rw [hsp]; omega, ?_⟩
        rw [show u + d = (u + (d - 1)) + 1 by omega, unrL_down _ _ _ _ (by omega) (by omega), show ways u d + rkL l u (d - 1) + 1 - ways u d = rkL l u (d - 1) + 1 by omega, r2]

end Go.Proofs.Ytgaggpdlpcldeaa
end
