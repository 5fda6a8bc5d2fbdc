/- The program's countArcs. -/
import Derived.Test.YtcckpodpgenapaaImpl9R
import Derived.Test.YtcckpodpgenapaaCross
namespace Go.Proofs.Ytcckpodpgenapaa
open Go.ChangeShapes Go.WideShapes Go.ChangeAt Go.RowKit Go.Shelf
attribute [local go_sem] Oper.semAt_some
set_option linter.unusedVariables false

/-- **arcsOf HANDS BACK A VALUE THAT STOPS.** -/
theorem arcs_stops (F : Fence) (n : Nat) (h6 : F.fn 76) (hro : F.round = none) (hn : 1 ≤ n) (Bn n₀ lo hi : Nat) (A : Option Addr) (cap : Nat) (xs : List Int) (w : World) (hhi : hi ≤ n₀) (hlx : xs.length ≤ 1099511627776) (hBn : Bn < w.heap.size) (hn₀ : n₀ ≤ w.heap.size)
    (hc : w.cell? ⟨Bn, 0, none⟩ = some (.slice A xs.length cap)) (hL : OwnI w lo hi (.slice A xs.length cap) xs) :
    SeqStopsK F n Try.prog 76 #[.pointer (some ⟨Bn, 0, none⟩)] arcV (Below n₀) (fun ys => ys = arcL xs xs.length) (fun pre => pre <+: arcL xs xs.length) xs.length w := fun l J Jx W hW _ _ hY h0 =>
  arcs1_in F n h6 hro hn l Bn n₀ lo hi A cap xs hhi hlx J Jx hY W ((hW.cell (p := ⟨Bn, 0, none⟩) hBn).trans hc) (hL.keep hW (by omega)) h0

/-- Block B holds an arc. -/
def BxA (W : World) (B : Nat) (p : Int × Int) : Prop := W.heap[B]? = some (.cells #[.int .i64 p.1, .int .i64 p.2] 75 (0, 0))
theorem BxA.lt {W : World} {B : Nat} {p : Int × Int} (h : BxA W B p) : B < W.heap.size := (Array.getElem?_eq_some_iff.1 h).1
theorem BxA.new (W : World) (p : Int × Int) : BxA (W.alloc (.cells #[.int .i64 p.1, .int .i64 p.2] 75)) W.heap.size p := World.alloc_heap_new W _
theorem BxA.kept {W W' : World} {row : Option Nat} {B : Nat} {p : Int × Int} (h : BxA W B p) (hg : W.grownBy W' row) (hne : some B ≠ row) : BxA W' B p := (hg.block B h.lt hne).trans h
theorem BxA.alloc {W : World} {B : Nat} {p : Int × Int} (h : BxA W B p) (o : Obj) : BxA (W.alloc o) B p := h.kept (World.grownBy_alloc W o none) (by simp)
theorem BxA.other {W : World} {B B' : Nat} {p : Int × Int} (h : BxA W B p) (hne : B ≠ B') (u : Value) : BxA (W.setCell ⟨B', 0, none⟩ u) B p := h.kept (grownBy_setCell' W B' u) (fun e => hne (by cases e; rfl))
theorem BxA.c0 {W : World} {B : Nat} {p : Int × Int} (h : BxA W B p) : W.cell? ⟨B, 0, none⟩ = some (.int .i64 p.1) := by simp [World.cell?, show W.heap[B]? = _ from h]
theorem BxA.c1 {W : World} {B : Nat} {p : Int × Int} (h : BxA W B p) : W.cell? ⟨B, 1, none⟩ = some (.int .i64 p.2) := by simp [World.cell?, show W.heap[B]? = _ from h]
theorem BxA.own {β : Type} (B : Nat) (p : Int × Int) : Own (fun (_ : β) W => BxA W B p) := fun s X Y row hs hg hrow =>
  hs.kept hg (fun e' => by obtain ⟨o, ho, hc⟩ := hrow B e'.symm; rw [show X.heap[B]? = _ from hs] at ho; cases ho; cases hc)

/-- How many arcs of a list stand so to one. -/
def cntI (R : Int × Int → Int × Int → Bool) (c : Int × Int) (l : List (Int × Int)) : Nat := (l.filter fun d => decide (c.1 < d.1) && R c d).length
def cntO (R : Int × Int → Int × Int → Bool) (ys : List (Int × Int)) (l : List (Int × Int)) : Nat := (l.map fun c => cntI R c ys).sum
theorem cntI_snoc (R : Int × Int → Int × Int → Bool) (c d : Int × Int) (l : List (Int × Int)) : cntI R c (l ++ [d]) = cntI R c l + if (decide (c.1 < d.1) && R c d) = true then 1 else 0 := by
  unfold cntI
  rw [List.filter_append, List.length_append]
  congr 1
  split
  · rename_i h; rw [List.filter_cons_of_pos (p := fun d => decide (c.1 < d.1) && R c d) h]; rfl
  · rename_i h; rw [List.filter_cons_of_neg (p := fun d => decide (c.1 < d.1) && R c d) h]; rfl
theorem cntO_snoc (R : Int × Int → Int × Int → Bool) (ys l : List (Int × Int)) (c : Int × Int) : cntO R ys (l ++ [c]) = cntO R ys l + cntI R c ys := by
  unfold cntO
  rw [List.map_append, List.sum_append]; simp
theorem cntI_le (R : Int × Int → Int × Int → Bool) (c : Int × Int) (l : List (Int × Int)) : cntI R c l ≤ l.length := List.length_filter_le ..
theorem cntO_le (R : Int × Int → Int × Int → Bool) (ys : List (Int × Int)) (k : Nat) (hy : ys.length ≤ k) : ∀ l : List (Int × Int), cntO R ys l ≤ l.length * k := by
  intro l
  induction l with
  | nil => simp [cntO]
  | cons c l ih =>
    have := cntI_le R c ys
    unfold cntO at ih ⊢
    rw [List.map_cons, List.sum_cons, List.length_cons, Nat.succ_mul]; omega
theorem boxBelow {W W' : World} {B : Nat} {t : TypeId} {v : Value} (h : Boxed W B t v) (hb : Below W.heap.size W W') : Boxed W' B t v := (hb.block B h.lt).trans h
theorem keepsBelow (B : Nat) {W W' : World} (hb : Below W.heap.size W W') : KeepsFrom B W W' := ⟨hb.size, fun k o _ hk _ => (hb.block k (Array.getElem?_eq_some_iff.1 hk).1).trans hk⟩
def xR (c d : Int × Int) : Bool := crossB c.1 c.2 d.1 d.2

set_option maxRecDepth 100000 in
set_option maxHeartbeats 6400000 in
theorem countArcs_x (n : Nat) (hn : 6 ≤ n) (A : Option Addr) (xs : List Int) (cap lo hi : Nat) (w : World) (hv : OwnI w lo hi (.slice A xs.length cap) xs) (hhi : hi ≤ w.heap.size) (hm : matchP xs = true) :
    CallsIn Fence.wide n Try.prog 70 #[.slice A xs.length cap, .func (.func 71) #[] #[]] w fun e W' => e = .returned (.int .i64 (cntO xR (arcL xs xs.length) (arcL xs xs.length) : Nat)) ∧ Below w.heap.size w W' := by
  have h1 : 1 ≤ n := by omega
  have h16 := (match_yes hm).1
  have hB0 : Below w.heap.size w ((w.alloc (.cells #[.slice A xs.length cap] 22)).alloc (.cells #[.func (.func 71) #[] #[]] 72)) := ((Below.refl _ w).alloc (Nat.le_refl _) _).alloc (by simp) _
  have hIM := isMatchingI (.slice A xs.length cap) xs lo hi _ (hv.keep hB0 hhi) (by omega)
  rw [hm] at hIM
  refine callsIn_of_wp_marks Try.func70 rfl trivial ?_ rfl
  simp only [Try.ntmps70, List.size_toArray, List.length_cons, List.length_nil, Nat.reduceAdd, Nat.reduceSub, Array.replicate_succ, Array.replicate_zero, List.push_toArray, List.append_toArray, List.nil_append, List.cons_append]
  gi_wp2_with (first | (refine ⟨trivial, ?_⟩; gi_at_call 69; refine (callsIn_wide.2 hIM).mono ?_; rintro e w' ⟨rfl, rfl⟩) | (refine ⟨trivial, ?_⟩; gi_at_call 74; refine (arcsOf_in Fence.wide (n - 1) trivial rfl _ _ _ _ rfl _).mono ?_; rintro e w' ⟨rfl, rfl⟩))
  have bM := ((Boxed.new w 22 (.slice A xs.length cap)).alloc (.cells #[.func (.func 71) #[] #[]] 72)).alloc (.cells #[.int .i64 0] 3) |>.alloc (.cells #[.slice A xs.length cap] 22)
  have bR := ((Boxed.new (w.alloc (.cells #[.slice A xs.length cap] 22)) 72 (.func (.func 71) #[] #[])).alloc (.cells #[.int .i64 0] 3)).alloc (.cells #[.slice A xs.length cap] 22)
  have bC := (Boxed.new ((w.alloc (.cells #[.slice A xs.length cap] 22)).alloc (.cells #[.func (.func 71) #[] #[]] 72)) 3 (.int .i64 0)).alloc (.cells #[.slice A xs.length cap] 22)
  have bA := Boxed.new (((w.alloc (.cells #[.slice A xs.length cap] 22)).alloc (.cells #[.func (.func 71) #[] #[]] 72)).alloc (.cells #[.int .i64 0] 3)) 22 (.slice A xs.length cap)
  simp only [World.size_alloc] at bR bC bA
  have hB4 := (hB0.alloc (by simp; omega) (.cells #[.int .i64 0] 3)).alloc (by simp; omega) (.cells #[.slice A xs.length cap] 22)
  have hsz : ((((w.alloc (.cells #[.slice A xs.length cap] 22)).alloc (.cells #[.func (.func 71) #[] #[]] 72)).alloc (.cells #[.int .i64 0] 3)).alloc (.cells #[.slice A xs.length cap] 22)).heap.size = w.heap.size + 4 := by simp
  obtain ⟨W0, hW0⟩ : ∃ W0, (((w.alloc (.cells #[.slice A xs.length cap] 22)).alloc (.cells #[.func (.func 71) #[] #[]] 72)).alloc (.cells #[.int .i64 0] 3)).alloc (.cells #[.slice A xs.length cap] 22) = W0 := ⟨_, rfl⟩
  rw [hW0] at bM bR bC bA hB4 hsz ⊢
  clear hW0 hIM hB0
  have hal := arcL_le xs xs.length
  refine wpIn_rangeFunc_ownH rfl h1 (gf := 76) (lb := #[.pointer (some ⟨w.heap.size + 1 + 1 + 1, 0, none⟩)]) rfl trivial (enters_of Try.func76 (by kernel_rfl) rfl)
    (arcs_stops Fence.wide (n - 1) trivial rfl (by omega) (w.heap.size + 1 + 1 + 1) w.heap.size lo hi A cap xs W0 hhi (by omega) (by omega) (by omega) bA.cell (hv.keep hB4 hhi)) belowK_t (belowK_b (by omega)) (Below.refl _ _) (fun _ => rfl)
    (fun pre W => (Boxed W (w.heap.size + 1 + 1) 3 (.int .i64 (cntO xR (arcL xs xs.length) pre : Nat)) ∧ (Boxed W w.heap.size 22 (.slice A xs.length cap) ∧ Boxed W (w.heap.size + 1) 72 (.func (.func 71) #[] #[]))) ∧ Below w.heap.size w W)
    (fun _ _ _ => False)
    (OwnFrom.and (OwnFrom.and (Own.from (boxed_own _ _ _) _) (OwnFrom.and (Own.from (boxed_own _ _ _) _) (Own.from (boxed_own _ _ _) _))) (ownFrom_below (Nat.le_refl _) (by omega)))
    (fun _ _ _ _ _ hs _ _ => hs)
    ⟨⟨bC, bM, bR⟩, hB4⟩
    (fun x a' W => ∃ Bx, w.heap.size + 1 + 1 < Bx ∧ BxA W Bx x ∧ a' = { tmps := #[.slice A xs.length cap, .func (.func 71) #[] #[], .pointer (some ⟨w.heap.size, 0, none⟩), .pointer (some ⟨w.heap.size + 1, 0, none⟩), .int .i64 0, .pointer (some ⟨w.heap.size + 1 + 1, 0, none⟩), .pointer (some ⟨Bx, 0, none⟩), undef, .slice A xs.length cap, .bool true, .bool false, .slice A xs.length cap, .func (.func 76) #[] #[.pointer (some ⟨w.heap.size + 1 + 1 + 1, 0, none⟩)], .agg #[.int .i64 x.1, .int .i64 x.2], undef, undef, undef, undef, undef, undef, undef, undef, undef, undef, undef, undef, undef, undef, undef, undef, undef], defers := [] })
    (fun x a' _ X Y row hs hg hr => by obtain ⟨Bx, h1, h2, h3⟩ := hs; exact ⟨Bx, h1, BxA.own Bx x () X Y row h2 hg (fun r e => (hr r e).2), h3⟩)
    ?assign ?body ?done ?stop
  case assign =>
    rintro l pre x W K ⟨⟨bC1, bM1, bR1⟩, hB1⟩ hK
    simp only [arcV]
    gi_wp2
    exact hK _ _ ((KeepsOthers.alloc _ _).from _) ((Below.refl _ W).alloc hB1.size _) ⟨⟨bC1.alloc _, bM1.alloc _, bR1.alloc _⟩, hB1.alloc hB1.size _⟩ ⟨W.heap.size, bC1.lt, BxA.new W x, rfl⟩
  case body =>
    rintro l pre x a' W hl ⟨r, hr⟩ ⟨⟨bC1, bM1, bR1⟩, hB1⟩ ⟨Bx, hBx, bX, rfl⟩ hlt
    have cM := bM1.cell
    have h1' : 1 ≤ n - 1 - 1 := by omega
    gi_wp2_with (refine ⟨trivial, ?_⟩; gi_at_call 74; refine (CallsIn.inRound l (arcsOf_in Fence.wide (n - 1 - 1 - 1) trivial rfl _ _ _ _ rfl _)).mono ?_; rintro e w' ⟨rfl, rfl⟩)
    have hsW := hB1.size
    have bN := Boxed.new W 22 (.slice A xs.length cap)
    have hr' : (W.alloc (.cells #[.slice A xs.length cap] 22)).heap[l]? = some (.loop r) := (Below.heap_alloc W _ l (Array.getElem?_eq_some_iff.1 hr).1).trans hr
    refine wpIn_rangeFunc_ownN (l₀ := l) (r₀ := r) rfl hr' h1' (gf := 76) (lb := #[.pointer (some ⟨W.heap.size, 0, none⟩)]) rfl trivial (enters_of Try.func76 (by kernel_rfl) rfl)
      ((arcs_stops Fence.wide (n - 1 - 1 - 1) trivial rfl (by omega) W.heap.size w.heap.size lo hi A cap xs _ hhi (by omega) (by simp) (by simp; omega) bN.cell (hv.keep (hB1.alloc hsW _) hhi)).inRound l) belowK_t (belowK_b (by simp; omega)) (Below.refl _ _) (fun _ => rfl)
      (fun pre' W' => ((Boxed W' (w.heap.size + 1 + 1) 3 (.int .i64 ((cntO xR (arcL xs xs.length) pre + cntI xR x pre' : Nat) : Int)) ∧ BxA W' Bx x) ∧ (Boxed W' w.heap.size 22 (.slice A xs.length cap) ∧ Boxed W' (w.heap.size + 1) 72 (.func (.func 71) #[] #[]))) ∧ (Below w.heap.size W W' ∧ KeepsFrom W0.heap.size W W'))
      (fun _ _ _ => False)
      (OwnFrom.and (OwnFrom.and (OwnFrom.and (Own.from (boxed_own _ _ _) _) (Own.from (BxA.own _ _) _)) (OwnFrom.and (Own.from (boxed_own _ _ _) _) (Own.from (boxed_own _ _ _) _))) (OwnFrom.and (ownFrom_below hsW (by simp; omega)) (ownFrom_keepsFrom (by simp))))
      (fun _ _ _ _ _ hs _ _ => hs)
      ⟨⟨⟨bC1.alloc _, bX.alloc _⟩, bM1.alloc _, bR1.alloc _⟩, (Below.refl _ W).alloc hsW _, (KeepsOthers.alloc _ _).from _⟩
      (fun y a'' W' => ∃ By, w.heap.size + 1 + 1 < By ∧ BxA W' By y ∧ a'' = { tmps := #[.slice A xs.length cap, .func (.func 71) #[] #[], .pointer (some ⟨w.heap.size, 0, none⟩), .pointer (some ⟨w.heap.size + 1, 0, none⟩), .int .i64 0, .pointer (some ⟨w.heap.size + 1 + 1, 0, none⟩), .pointer (some ⟨Bx, 0, none⟩), .pointer (some ⟨By, 0, none⟩), .slice A xs.length cap, .bool true, .bool false, .slice A xs.length cap, .func (.func 76) #[] #[.pointer (some ⟨w.heap.size + 1 + 1 + 1, 0, none⟩)], .agg #[.int .i64 x.1, .int .i64 x.2], .slice A xs.length cap, .func (.func 76) #[] #[.pointer (some ⟨W.heap.size, 0, none⟩)], .agg #[.int .i64 y.1, .int .i64 y.2], undef, undef, undef, undef, undef, undef, undef, undef, undef, undef, undef, undef, undef, undef], defers := [] })
      (fun x a' _ X Y row hs hg hr => by obtain ⟨Bx, h1, h2, h3⟩ := hs; exact ⟨Bx, h1, BxA.own Bx x () X Y row h2 hg (fun r e => (hr r e).2), h3⟩)
      ?assign2 ?body2 ?done2 ?stop2
    case assign2 =>
      rintro l2 pre' y W' K ⟨⟨⟨bC2, bX2⟩, bM2, bR2⟩, hBW, hKF⟩ hK
      have hsW2 := hBW.size
      simp only [arcV]
      gi_wp2
      exact hK _ _ ((KeepsOthers.alloc _ _).from _) ((Below.refl _ W').alloc (by omega) _) ⟨⟨⟨bC2.alloc _, bX2.alloc _⟩, bM2.alloc _, bR2.alloc _⟩, hBW.alloc (by omega) _, hKF.trans ((KeepsOthers.alloc _ _).from _)⟩ ⟨W'.heap.size, bC2.lt, BxA.new W' y, rfl⟩
    case body2 =>
      rintro l2 pre' y a'' W' _ _ ⟨⟨⟨bC2, bX2⟩, bM2, bR2⟩, hBW, hKF⟩ ⟨By, hBy, bY, rfl⟩ hlt2
      have hsW2 := hBW.size
      have cC := bC2.cell
      have fC := bC2.frozen
      have cX0 := bX2.c0
      have cX1 := bX2.c1
      have cY0 := bY.c0
      have cY1 := bY.c1
      have cR := bR2.cell
      have hcO := cntO_le xR (arcL xs xs.length) 16 (by omega) pre
      have hcI := cntI_le xR x pre'
      have hSN := cntI_snoc xR x y pre'
      have hpl : pre.length ≤ 16 := by omega
      have hpl2 : pre'.length ≤ 16 := by omega
      have HSN := Lib.hid hSN
      have hN : cntO xR (arcL xs xs.length) pre + cntI xR x pre' ≤ 300 := by omega
      clear hSN hcO hcI
      have HNE := Lib.hid (show ∀ b : Bool, cntI xR x (pre' ++ [y]) = cntI xR x pre' + (if b then 1 else 0) → cntO xR (arcL xs xs.length) pre + cntI xR x (pre' ++ [y]) = cntO xR (arcL xs xs.length) pre + cntI xR x pre' + (if b then 1 else 0) from fun b h => by rw [h]; omega)
      generalize cntO xR (arcL xs xs.length) pre + cntI xR x pre' = N at *
      by_cases hlt3 : x.1 < y.1
      · have d3 : decide (x.1 < y.1) = true := decide_eq_true hlt3
        rcases hx : xR x y with _ | _
        · have HE := Lib.hid (HNE.out false (by rw [HSN.out, d3, hx]; rfl))
          have hcr := crossesC x.1 x.2 y.1 y.2 W'
          rw [show crossB x.1 x.2 y.1 y.2 = false from hx] at hcr
          gi_wp2_with (refine ⟨trivial, fun _ => by omega, ?_⟩; refine (CallsIn.inRound l2 (CallsIn.inRound l (callsIn_wide.2 hcr))).mono ?_; rintro e w5 ⟨rfl, hb⟩; have bC5 := boxBelow bC2 hb; have cC5 := bC5.cell; have fC5 := bC5.frozen)
          have kf := fun B => keepsBelow B hb
          exact ⟨kf _, hb.mono (by omega), ⟨⟨by rw [HE.out]; exact bC5, (hb.block _ bX2.lt).trans bX2⟩, boxBelow bM2 hb, boxBelow bR2 hb⟩, hBW.trans (hb.mono (by omega)), hKF.trans (kf _)⟩
        · have HE := Lib.hid (HNE.out true (by rw [HSN.out, d3, hx]; rfl))
          have hcr := crossesC x.1 x.2 y.1 y.2 W'
          rw [show crossB x.1 x.2 y.1 y.2 = true from hx] at hcr
          gi_wp2_with (refine ⟨trivial, fun _ => by omega, ?_⟩; refine (CallsIn.inRound l2 (CallsIn.inRound l (callsIn_wide.2 hcr))).mono ?_; rintro e w5 ⟨rfl, hb⟩; have bC5 := boxBelow bC2 hb; have cC5 := bC5.cell; have fC5 := bC5.frozen)
          have kf := fun B => (keepsBelow B hb).trans ((KeepsOthers.setCell w5 ⟨w.heap.size + 1 + 1, 0, none⟩ (.int .i64 ((N : Int) + 1))).from _)
          have bX5 : BxA w5 Bx x := (hb.block _ bX2.lt).trans bX2
          have hS := (hb.mono (B' := w.heap.size) (by omega)).setCell (p := ⟨w.heap.size + 1 + 1, 0, none⟩) (by simp; omega) (.int .i64 ((N : Int) + 1))
          exact ⟨kf _, hS, ⟨⟨by rw [HE.out]; exact bC5.set _, bX5.other (by omega) _⟩, (boxBelow bM2 hb).other (by omega) _, (boxBelow bR2 hb).other (by omega) _⟩, hBW.trans hS, hKF.trans (kf _)⟩
      · have d3 : decide (x.1 < y.1) = false := decide_eq_false hlt3
        have HE := Lib.hid (HNE.out false (by rw [HSN.out, d3]; rfl))
        gi_wp2
        refine ⟨fun _ h => (by cases h), ?_⟩
        gi_wp2
        exact ⟨KeepsFrom.refl _ _, Below.refl _ _, ⟨⟨by rw [HE.out]; exact bC2, bX2⟩, bM2, bR2⟩, hBW, hKF⟩
    case done2 =>
      rintro ys' W' rfl ⟨⟨⟨bC2, bX2⟩, bM2, bR2⟩, hBW, hKF⟩
      gi_wp2
      exact ⟨hKF, hBW, ⟨⟨by rw [cntO_snoc]; exact bC2, bM2, bR2⟩, hB1.trans hBW⟩⟩
    case stop2 =>
      rintro c pre' W' _ h
      exact h.elim
  case done =>
    rintro D zs W hD rfl ⟨⟨bC1, bM1, bR1⟩, hB1⟩ hK
    have cC := bC1.cell
    gi_wp2
    refine ⟨by simp, .inl ⟨_, _, rfl, run_takeDeferred hK, ?_⟩⟩
    exact ⟨_, results_tmp rfl _ _ _, rfl, hB1.trans (belowK_b (w := w) (Nat.le_refl _) W D _ _ (by omega) hK rfl rfl)⟩
  case stop =>
    rintro D c pre W _ _ h _
    exact h.elim

set_option maxRecDepth 100000 in
set_option maxHeartbeats 1600000 in
theorem countArcs_x_no (A : Option Addr) (xs : List Int) (cap lo hi : Nat) (w : World) (hv : OwnI w lo hi (.slice A xs.length cap) xs) (hhi : hi ≤ w.heap.size) (hl : xs.length ≤ 1099511627776) (hm : matchP xs = false) :
    Calls Try.prog 70 #[.slice A xs.length cap, .func (.func 71) #[] #[]] w fun e W' => e = .returned (.int .i64 (-1)) ∧ Below w.heap.size w W' := by
  have hB0 : Below w.heap.size w ((w.alloc (.cells #[.slice A xs.length cap] 22)).alloc (.cells #[.func (.func 71) #[] #[]] 72)) := ((Below.refl _ w).alloc (Nat.le_refl _) _).alloc (by simp) _
  have hIM := isMatchingI (.slice A xs.length cap) xs lo hi _ (hv.keep hB0 hhi) hl
  rw [hm] at hIM
  refine (callsIn_wide (n := 6)).1 ?_
  refine callsIn_of_wp_marks Try.func70 rfl trivial ?_ rfl
  simp only [Try.ntmps70, List.size_toArray, List.length_cons, List.length_nil, Nat.reduceAdd, Nat.reduceSub, Array.replicate_succ, Array.replicate_zero, List.push_toArray, List.append_toArray, List.nil_append, List.cons_append]
  gi_wp2_with (refine ⟨trivial, ?_⟩; gi_at_call 69; refine (callsIn_wide.2 hIM).mono ?_; rintro e w' ⟨rfl, rfl⟩)
  first | exact ⟨_, results_tmp rfl _ _ _, rfl, hB0⟩ | exact ⟨rfl, _, results_tmp rfl _ _ _, rfl, hB0⟩ | exact ⟨_, ⟨results_tmp rfl _ _ _, rfl⟩, hB0⟩ | (trace_state; sorry)
def crA (xs : List Int) : Int := if matchP xs = true then (cntO xR (arcL xs xs.length) (arcL xs xs.length) : Int) else -1
set_option maxRecDepth 100000 in
set_option maxHeartbeats 1600000 in
theorem crossingsOfI (A : Option Addr) (xs : List Int) (cap lo hi : Nat) (w : World) (hv : OwnI w lo hi (.slice A xs.length cap) xs) (hhi : hi ≤ w.heap.size) (hl : xs.length ≤ 1099511627776) :
    Calls Try.prog 57 #[.slice A xs.length cap] w fun e W' => e = .returned (.int .i64 (crA xs)) ∧ Below w.heap.size w W' := by
  have HC := Lib.hid (show Calls Try.prog 70 #[.slice A xs.length cap, .func (.func 71) #[] #[]] w fun e W' => e = .returned (.int .i64 (crA xs)) ∧ Below w.heap.size w W' by
    unfold crA
    rcases hm : matchP xs with _ | _
    · exact countArcs_x_no A xs cap lo hi w hv hhi hl hm
    · exact (callsIn_wide (n := 6)).1 (countArcs_x 6 (Nat.le_refl _) A xs cap lo hi w hv hhi hm))
  clear hv
  go_enter Try.func57, Try.ntmps57
  go_wp2_with fail
  (with_reducible refine HC.out.mono ?_)
  rintro e w' ⟨rfl, hb⟩
  go_wp2
  go_ret
  exact ⟨rfl, hb⟩

end Go.Proofs.Ytcckpodpgenapaa
