/- The program's composition of series. -/
import Derived.Test.YtbikipacfmaiaaaOf30
import Derived.Deep.OwnRows
namespace Go.Proofs.Ytbikipacfmaiaaa
open Go.ChangeShapes Go.WideShapes Go.ChangeAt Go.RowKit Go.Shelf
attribute [local go_sem] Oper.semAt_some
set_option linter.unusedVariables false

theorem OwnI.farS {w : World} {lo hi g q : Nat} {v u : Value} {xs : List Int} (h : OwnI w lo hi v xs) (hg : g < lo) : OwnI (w.setCell ⟨g, q, none⟩ u) lo hi v xs := by
  obtain ⟨A, cap, e, h⟩ := h
  refine ⟨A, cap, e, ?_⟩
  rcases h with h | ⟨b, C, a1, a2, a3, a4, a5⟩
  · exact .inl h
  · exact .inr ⟨b, C, a1, a2, a3, (Below.heap_setCell _ _ _ b (by show b ≠ g; omega)).trans a4, a5⟩
theorem OwnI.thin {w : World} {lo hi lo' g n c : Nat} {xs : List Int} (h : OwnI w lo hi (.slice (some ⟨g, 0, none⟩) n c) xs) (hl : lo' ≤ g) : OwnI w lo' (g + 1) (.slice (some ⟨g, 0, none⟩) n c) xs := by
  obtain ⟨A, cap, e, h⟩ := h
  refine ⟨A, cap, e, ?_⟩
  rcases h with h | ⟨b, C, a1, a2, a3, a4, a5⟩
  · exact .inl h
  · simp only [Value.slice.injEq] at e
    obtain ⟨rfl, -, -⟩ := e
    simp only [Option.some.injEq, Addr.mk.injEq] at a3
    obtain ⟨rfl, -⟩ := a3
    exact .inr ⟨g, C, hl, Nat.lt_succ_self _, rfl, a4, a5⟩
theorem OwnI.put {W : World} {D lo hi : Nat} {o o' : Obj} {v : Value} {xs : List Int} (h : OwnI W lo hi v xs) (hD : W.heap[D]? = some o) (hc : o.isCells = false) : OwnI (W.putObj D o') lo hi v xs := by
  obtain ⟨A, cap, e, h⟩ := h
  refine ⟨A, cap, e, ?_⟩
  rcases h with h | ⟨b, C, a1, a2, a3, a4, a5⟩
  · exact .inl h
  · refine .inr ⟨b, C, a1, a2, a3, (World.putObj_heap_other (fun e => ?_)).trans a4, a5⟩
    first | subst e | (have e' := e.symm; subst e')
    rw [hD] at a4
    cases a4
    cases hc
theorem own_made (w : World) (N : Nat) : OwnI (w.alloc (.cells (madeCells #[.int .i64 0] N) 3)) w.heap.size (w.heap.size + 1) (.slice (some ⟨w.heap.size, 0, none⟩) N N) ((List.range N).map fun _ => 0) := by
  refine ⟨_, N, by rw [List.length_map, List.length_range], .inr ⟨w.heap.size, _, Nat.le_refl _, Nat.lt_succ_self _, rfl, World.alloc_heap_new w _, fun j hj => ?_⟩⟩
  rw [List.length_map, List.length_range] at hj
  rw [← Array.getElem?_toList, toList_madeCells_one]
  simp [hj, List.getD]

set_option maxRecDepth 100000 in
set_option maxHeartbeats 3200000 in
theorem ofIn (f : Nat) (hf : 6 ≤ f) (A A' : Option Addr) (xs o : List Int) (cap cap' lo hi lo' hi' : Nat) (w : World) (hv : OwnI w lo hi (.slice A xs.length cap) xs) (hu : OwnI w lo' hi' (.slice A' xs.length cap') o) (ho : o.length = xs.length) (hhi : hi ≤ w.heap.size) (hhu : hi' ≤ w.heap.size) (h1 : 1 ≤ xs.length) (h8 : xs.length ≤ 8) (hcap : xs.length ≤ cap')
    (ha : ∀ q, -3 ≤ xs.getD q 0 ∧ xs.getD q 0 ≤ 3) (hd : Dom o) :
    CallsIn Fence.wide f Try.prog 48 #[.slice A xs.length cap, .slice A' xs.length cap'] w fun e w' => ∃ g, w.heap.size ≤ g ∧ e = .returned (.slice (some ⟨g, 0, none⟩) xs.length xs.length) ∧ OwnI w' w.heap.size w'.heap.size (.slice (some ⟨g, 0, none⟩) xs.length xs.length) (ofL xs o xs.length xs.length) ∧ Below w.heap.size w w' := by
  obtain ⟨i0, hi0, hz0, hz1, hzb⟩ := info_parts info3
  have hmk : ∀ W : World, (Instr.makeSlice 38 (.int .i64 (xs.length : Int)) (.int .i64 (xs.length : Int))).run Try.prog W = .ok (.slice (some ⟨W.heap.size, 0, none⟩) xs.length xs.length) (W.alloc (.cells (madeCells #[.int .i64 0] xs.length) 3)) := fun W =>
    run_make_row (P := Try.prog) 38 3 i0 (.int .i64 0) Try.underlying38 hi0 hz0 hz1 rfl .i64 .i64 xs.length (by rw [hzb]; omega) (by omega) W
  refine callsIn_of_wp_marks Try.func48 rfl trivial ?_ rfl
  simp only [Try.ntmps48, List.size_toArray, List.length_cons, List.length_nil, Nat.reduceAdd, Nat.reduceSub, Array.replicate_succ, Array.replicate_zero, List.push_toArray, List.append_toArray, List.nil_append, List.cons_append]
  gi_wp2_with (refine ⟨trivial, fun _ => by omega, ?_⟩; refine (backwardS Fence.wide (f - 1) trivial rfl _ _ _ _).mono ?_; rintro e w' ⟨rfl, rfl⟩)
  have bB0 : Boxed (w.alloc (.cells #[.slice A' xs.length cap'] 38)) w.heap.size 38 (.slice A' xs.length cap') := Boxed.new w _ _
  have hB1 : Below w.heap.size w (w.alloc (.cells #[.slice A' xs.length cap'] 38)) := (Below.refl _ w).alloc (Nat.le_refl _) _
  have z1 : (w.alloc (.cells #[.slice A' xs.length cap'] 38)).heap.size = w.heap.size + 1 := by simp
  generalize w.alloc (.cells #[.slice A' xs.length cap'] 38) = w1 at *
  have hM := own_made w1 xs.length
  have hB2 := hB1.alloc (by omega) (.cells (madeCells #[.int .i64 0] xs.length) 3)
  have bB1 := bB0.alloc (.cells (madeCells #[.int .i64 0] xs.length) 3)
  have z2 : (w1.alloc (.cells (madeCells #[.int .i64 0] xs.length) 3)).heap.size = w.heap.size + 1 + 1 := by simp; omega
  rw [z1] at hM
  generalize w1.alloc (.cells (madeCells #[.int .i64 0] xs.length) 3) = w2 at *
  have bS2 := Boxed.new w2 38 (.slice (some ⟨w.heap.size + 1, 0, none⟩) xs.length xs.length)
  have hM2 := hM.keep ((Below.refl w2.heap.size w2).alloc (Nat.le_refl _) (.cells #[.slice (some ⟨w.heap.size + 1, 0, none⟩) xs.length xs.length] 38)) (by omega)
  have hB3 := hB2.alloc (by omega) (.cells #[.slice (some ⟨w.heap.size + 1, 0, none⟩) xs.length xs.length] 38)
  have bB2 := bB1.alloc (.cells #[.slice (some ⟨w.heap.size + 1, 0, none⟩) xs.length xs.length] 38)
  have z3 : (w2.alloc (.cells #[.slice (some ⟨w.heap.size + 1, 0, none⟩) xs.length xs.length] 38)).heap.size = w.heap.size + 1 + 1 + 1 := by simp; omega
  rw [z2] at bS2
  generalize w2.alloc (.cells #[.slice (some ⟨w.heap.size + 1, 0, none⟩) xs.length xs.length] 38) = w3 at *
  have bA := Boxed.new w3 38 (.slice A xs.length cap)
  have hM3 := hM2.keep ((Below.refl w3.heap.size w3).alloc (Nat.le_refl _) (.cells #[.slice A xs.length cap] 38)) (by omega)
  have hB4 := hB3.alloc (by omega) (.cells #[.slice A xs.length cap] 38)
  have bB := bB2.alloc (.cells #[.slice A xs.length cap] 38)
  have bS := bS2.alloc (.cells #[.slice A xs.length cap] 38)
  have z4 : (w3.alloc (.cells #[.slice A xs.length cap] 38)).heap.size = w.heap.size + 1 + 1 + 1 + 1 := by simp; omega
  rw [z3] at bA
  generalize w3.alloc (.cells #[.slice A xs.length cap] 38) = W0 at *
  have hn0 : (0 : Int) < (xs.length : Int) := by omega
  refine wpIn_rangeFunc_ownG rfl (by omega) (gf := 54) (lb := #[.pointer (some ⟨w.heap.size + 1 + 1 + 1, 0, none⟩)]) rfl trivial (enters_of Try.func54 (by kernel_rfl) rfl)
    (backwardS_stops Fence.wide (f - 1) trivial rfl (by omega) (w.heap.size + 1 + 1 + 1) w.heap.size lo hi A cap xs hhi (by omega) W0 (by omega) (by omega) bA.cell (hv.keep hB4 hhi)) KpB.t (KpB.b (by omega) (by omega)) (Below.refl _ _) (fun _ => rfl)
    (fun pre W => (OfS xs o xs.length w.heap.size (w.heap.size + 1 + 1) pre W ∧ (Boxed W w.heap.size 38 (.slice A' xs.length cap') ∧ Boxed W (w.heap.size + 1 + 1 + 1) 38 (.slice A xs.length cap))) ∧ Below w.heap.size w W)
    (fun _ _ _ => False)
    (OwnFrom.and (OwnFrom.and (OfS.own _ _ _ _ _ _) (OwnFrom.and (Own.from (boxed_own _ _ _) _) (Own.from (boxed_own _ _ _) _))) (ownFrom_below (Nat.le_refl _) (by omega)))
    (fun _ _ _ _ _ hs _ _ => hs)
    ⟨⟨⟨_, _, bS, hM3.thin (by omega), by omega, by omega, by rw [List.length_map, List.length_range], Dm.zero _, fun _ => rfl⟩, bB, bA⟩, hB4⟩
    (fun p => { tmps := #[.slice A xs.length cap, .slice A' xs.length cap', undef, .pointer (some ⟨w.heap.size, 0, none⟩), .slice none 0 0, .pointer (some ⟨w.heap.size + 1 + 1, 0, none⟩), undef, .int .i64 (xs.getD (xs.length - 1 - p) 0), .slice A xs.length cap, .int .i64 (xs.length : Int), .slice (some ⟨w.heap.size + 1, 0, none⟩) xs.length xs.length, .slice A xs.length cap, .func (.func 54) #[] #[.pointer (some ⟨w.heap.size + 1 + 1 + 1, 0, none⟩)], .int .i64 ((xs.length : Int) - 1 - (p : Int)), .int .i64 (xs.getD (xs.length - 1 - p) 0), undef, undef, undef, undef, undef, undef, undef, undef, undef, undef], defers := [] }) ?assign ?body ?done ?stop
  case assign =>
    intro l p W K hK
    simp only [bwE]
    gi_wp2
    exact hK
  case body =>
    rintro l pre p W ⟨⟨⟨g, L, bS1, hOL, hg1, hg2, hL, hDm, hEq⟩, bB1, bA1⟩, hBB⟩ hlt
    have cS := bS1.cell
    have cB := bB1.cell
    have hBz := hBB.size
    have hAz := bA1.lt
    have hSz := bS1.lt
    have HTM := timesI (some ⟨g, 0, none⟩) A' L o xs.length xs.length cap' w.heap.size (g + 1) lo' hi' W 1000165200000 hOL (hu.keep hBB hhu) hL ho (by omega) (by omega) (by omega) hcap (fun i j => by have := mul_in (hDm.inn (by omega) i) (dom_in hd j); omega) (by omega)
    have hDn := hDm.step hd h8 (by omega) (ha (xs.length - 1 - p))
    have HDN := Lib.hid hDn
    have hTL := tmL_len L o xs.length
    have hb0 := hDn.inn (by omega) 0
    rw [set0_at _ _ _ (by rw [hTL]; omega), if_pos rfl] at hb0
    have HEN := Lib.hid (show pre ++ [p] = List.range (pre ++ [p]).length → (tmL L o xs.length).set 0 ((tmL L o xs.length).getD 0 0 + xs.getD (xs.length - 1 - p) 0) = ofL xs o xs.length (pre ++ [p]).length from fun h => by
      rw [List.length_append, List.length_singleton, List.range_succ] at h
      obtain ⟨h1, h2⟩ := List.append_inj' h rfl
      simp only [List.cons.injEq, and_true] at h2
      rw [List.length_append, List.length_singleton, ofL, ← hEq h1, ← h2])
    generalize hT : tmL L o xs.length = T at *
    generalize xs.getD (xs.length - 1 - p) 0 = y at *
    obtain ⟨T0, hTe⟩ : ∃ T0, Hid (T.getD 0 0 = T0) := ⟨_, Lib.hid rfl⟩
    rw [hTe.out] at hb0 HDN HEN
    clear hDn
    have v1 : IntKind.i64.wrap (T0 + y) = T0 + y := IntWalk.i64_in _ (by omega)
    have hT0 : 0 < T.length := by omega
    gi_wp2_with (refine ⟨trivial, fun _ => by omega, ?_⟩; refine (CallsIn.inRound l (callsIn_wide.2 HTM)).mono ?_; rintro e w5 ⟨c5, g5, hc5, hg5, rfl, ho5, hb5⟩; have bS5 := boxBelow' bS1 hb5; have fS5 := bS5.frozen; have cS5 := bS5.cell; subst hc5; obtain ⟨g6, p6, e6, -, hg6, hc6, hf6⟩ := ho5.cell (j := 0) hT0; rw [hTe.out] at hc6; simp only [Value.slice.injEq, Option.some.injEq, Addr.mk.injEq] at e6; obtain ⟨⟨rfl, -⟩, -⟩ := e6; have hne5 : g5 ≠ w.heap.size + 1 + 1 := (by omega); have hc7 : (w5.setCell ⟨w.heap.size + 1 + 1, 0, none⟩ (.slice (some ⟨g5, 0, none⟩) xs.length xs.length)).cell? ⟨g5, 0, none⟩ = some (.int .i64 (T0)) := (by rw [← hc6]; simp only [World.cell?, Below.heap_setCell w5 ⟨w.heap.size + 1 + 1, 0, none⟩ (.slice (some ⟨g5, 0, none⟩) xs.length xs.length) g5 hne5]); have hf7 : (w5.setCell ⟨w.heap.size + 1 + 1, 0, none⟩ (.slice (some ⟨g5, 0, none⟩) xs.length xs.length)).frozen? ⟨g5, 0, none⟩ = false := (by rw [← hf6]; simp only [World.frozen?, Below.heap_setCell w5 ⟨w.heap.size + 1 + 1, 0, none⟩ (.slice (some ⟨g5, 0, none⟩) xs.length xs.length) g5 hne5]); have cS7 := (bS5.set (.slice (some ⟨g5, 0, none⟩) xs.length xs.length)).cell)
    have hS := (hb5.mono (B' := w.heap.size) (by omega)).setCell (p := ⟨w.heap.size + 1 + 1, 0, none⟩) (by show w.heap.size ≤ w.heap.size + 1 + 1; omega) (.slice (some ⟨g5, 0, none⟩) xs.length xs.length)
    have hS2 := hS.setCell (p := ⟨g5, 0, none⟩) (by show w.heap.size ≤ g5; omega) (.int .i64 (T0 + y))
    have hOW : OwnI ((w5.setCell ⟨w.heap.size + 1 + 1, 0, none⟩ (.slice (some ⟨g5, 0, none⟩) xs.length xs.length)).setCell ⟨g5, 0, none⟩ (.int .i64 (T0 + y))) W.heap.size w5.heap.size (.slice (some ⟨g5, 0, none⟩) xs.length xs.length) (T.set 0 (T0 + y)) :=
      (ho5.farS hSz).set (j := 0) hT0 (by rw [List.length_set]) (by rw [set0_at _ _ _ hT0, if_pos rfl]) (fun i hi hne => by rw [set0_at _ _ _ hT0, if_neg hne])
    refine ⟨(keepsBelow' _ hb5).trans (((KeepsOthers.setCell _ _ _).from _).trans ((KeepsOthers.setCell _ _ _).from _)), ⟨hS2, ?_⟩, ⟨⟨g5, _, (bS5.set _).other (by omega) _, hOW.thin (by omega), by omega, ?_, by rw [List.length_set]; exact hTL, by rw [List.length_append]; exact HDN.out, HEN.out⟩, ((boxBelow' bB1 hb5).other (by omega) _).other (by omega) _, ((boxBelow' bA1 hb5).other (by omega) _).other (by omega) _⟩, hBB.trans hS2⟩
    · rw [Below.heap_setCell _ _ _ _ (by show w.heap.size + 1 + 1 + 1 ≠ g5; omega), Below.heap_setCell _ _ _ _ (by show w.heap.size + 1 + 1 + 1 ≠ w.heap.size + 1 + 1; omega)]
      exact hb5.block _ hAz
    · simp; omega
  case done =>
    rintro D ys W hD rfl ⟨⟨⟨g, L, bS1, hOL, hg1, hg2, hL, hDm, hEq⟩, bB1, bA1⟩, hBB⟩ hK
    have cS := bS1.cell
    have hLL := hEq (by rw [List.length_range])
    rw [List.length_range] at hLL
    subst hLL
    gi_wp2
    refine ⟨by simp, .inl ⟨_, _, rfl, run_takeDeferred hK, ?_⟩⟩
    exact ⟨_, results_tmp rfl _ _ _, g, hg1, rfl, (hOL.put hK rfl).wide (Nat.le_refl _) (by simp; omega), hBB.trans (belowK_b (w := w) (Nat.le_refl _) W D _ _ (by omega) hK rfl rfl)⟩
  case stop =>
    rintro D c pre W _ _ h _
    exact h.elim

end Go.Proofs.Ytbikipacfmaiaaa
