/- The program's chords and polygons: isSide, chords, add, chordBetween. -/
import Derived.Test.YtkpnfonedfomaaaEq7
import Derived.Test.YtkpnfonedfomaaaCross
import Derived.Lib.MinMax
import Derived.Laws.ResultCell
import Derived.BigRegion
namespace Go.Proofs.Ytkpnfonedfomaaa
open Go.ChangeShapes Go.WideShapes Go.ChangeAt Go.RowKit
set_option linter.unusedVariables false

theorem results_cell1 {fn : Func} {p : Tmp} {ty : TypeId} (h : fn.results = #[.cell p ty]) (tmps : Array Value) (P : Program) (w : World) :
    (results fn tmps).run P w = ((asAddr (tmps.getD p undef)).run P w).andThen fun a w₁ => (loadVar ty a).run P w₁ := by
  simp only [results, h]
  simp [Sem.run_bind, Result.andThen]
theorem Pg.all {W : World} {b : Nat} {n m : Int} {f : Nat → Int} (h : Pg W b n m f) :
    W.cell? ⟨b, 0, none⟩ = some (.int .i64 n) ∧ W.cell? ⟨b, 1, none⟩ = some (.int .i64 m) ∧ W.cell? ⟨b, 2, none⟩ = some (.int .i64 (f 0)) ∧ W.cell? ⟨b, 3, none⟩ = some (.int .i64 (f 1)) ∧ W.cell? ⟨b, 4, none⟩ = some (.int .i64 (f 2)) ∧ W.cell? ⟨b, 5, none⟩ = some (.int .i64 (f 3)) ∧ W.cell? ⟨b, 6, none⟩ = some (.int .i64 (f 4)) ∧ W.cell? ⟨b, 7, none⟩ = some (.int .i64 (f 5)) ∧ W.cell? ⟨b, 8, none⟩ = some (.int .i64 (f 6)) ∧ W.cell? ⟨b, 9, none⟩ = some (.int .i64 (f 7)) ∧ W.cell? ⟨b, 10, none⟩ = some (.int .i64 (f 8)) ∧ W.cell? ⟨b, 11, none⟩ = some (.int .i64 (f 9)) ∧ W.cell? ⟨b, 12, none⟩ = some (.int .i64 (f 10)) ∧ W.cell? ⟨b, 13, none⟩ = some (.int .i64 (f 11)) ∧ W.cell? ⟨b, 14, none⟩ = some (.int .i64 (f 12)) ∧ W.cell? ⟨b, 15, none⟩ = some (.int .i64 (f 13)) :=
  ⟨h.c0, h.c1, h.cs 0 (by omega), h.cs 1 (by omega), h.cs 2 (by omega), h.cs 3 (by omega), h.cs 4 (by omega), h.cs 5 (by omega), h.cs 6 (by omega), h.cs 7 (by omega), h.cs 8 (by omega), h.cs 9 (by omega), h.cs 10 (by omega), h.cs 11 (by omega), h.cs 12 (by omega), h.cs 13 (by omega)⟩
theorem crossesI (x y : Ch) (w : World) : Calls Try.prog 64 #[.agg #[.int .i64 x.1, .int .i64 x.2], .agg #[.int .i64 y.1, .int .i64 y.2]] w fun e w' => e = .returned (.bool (crs x y)) ∧ Below w.heap.size w w' :=
  crossesC x.1 x.2 y.1 y.2 w

set_option maxRecDepth 100000 in
set_option maxHeartbeats 1600000 in
theorem isSideI (n m a b : Int) (f : Nat → Int) (w : World) (hn : 0 ≤ n ∧ n ≤ 100) (ha : -100 ≤ a ∧ a ≤ 100) (hb : -100 ≤ b ∧ b ≤ 100) :
    Calls Try.prog 59 #[pgV n m f, .agg #[.int .i64 a, .int .i64 b]] w fun e w' => e = .returned (.bool (sideB n (a, b))) ∧ Below w.heap.size w w' := by
  have HG := Lib.hid (((Below.refl w.heap.size w).alloc (Nat.le_refl _) (.cells (pgA n m f) 45)).alloc (by simp) (.cells #[.int .i64 a, .int .i64 b] 42))
  by_cases h : b - a = 1
  · have d1 : (b - a == 1) = true := by simp [h]
    have HR := Lib.hid (show sideB n (a, b) = true from decide_eq_true (.inl h))
    clear h
    go_enter Try.func59, Try.ntmps59
    go_wp2
    go_ret
    exact ⟨ret_bool HR.out.symm, HG.out⟩
  · have d1 : (b - a == 1) = false := by simp [h]
    have HR := Lib.hid (show (a == 0 && b == n - 1) = sideB n (a, b) from by
      unfold sideB
      rw [Bool.eq_iff_iff, Bool.and_eq_true, beq_iff_eq, beq_iff_eq, decide_eq_true_iff]
      constructor
      · exact .inr
      · intro h2; exact h2.resolve_left h)
    have he := fun W => eqlC a b 0 (n - 1) W
    clear h
    go_enter Try.func59, Try.ntmps59
    go_wp2
    go_ret
    exact ⟨ret_bool HR.out, HG.out⟩

theorem sliceArrI (k : Nat) (hk : k ≤ 7) (g : Nat) (W : World) : (Instr.sliceAt 43 (.pointer (some ⟨g, 2, none⟩)) none (some (.int .i64 k)) none).run Try.prog W = .ok (.slice (some ⟨g, 2, none⟩) k 7) W := by
  have ha : Try.prog.arrayLen 43 = 7 := by kernel_rfl
  have he : Try.prog.elem 43 = 42 := by kernel_rfl
  rw [run_sliceAt_array_h W 43 ⟨g, 2, none⟩ (by kernel_rfl) .i64 (k : Int) (by omega) (by rw [ha]; omega), he, Try.sizeOf42, ha]
  simp [slicedAt, Addr.add]
set_option maxRecDepth 100000 in
set_option maxHeartbeats 1600000 in
theorem chordsI (n : Int) (k : Nat) (f : Nat → Int) (w : World) (hk : k ≤ 7) :
    Calls Try.prog 48 #[pgV n k f] w fun e w' => e = .returned (.slice (some ⟨w.heap.size, 2, none⟩) k 7) ∧ w' = w.alloc (.cells (pgA n k f) 45) := by
  have hsl := sliceArrI k hk
  go_enter Try.func48, Try.ntmps48
  go_wp2
  go_ret
  exact ⟨rfl, rfl⟩

set_option maxRecDepth 100000 in
set_option maxHeartbeats 1600000 in
theorem chordBetweenI (a b : Int) (w : World) :
    Calls Try.prog 50 #[.int .i64 a, .int .i64 b] w fun e w' => e = .returned (.agg #[.int .i64 (min a b), .int .i64 (max a b)]) ∧ Below w.heap.size w w' := by
  have HB := Lib.hid ((Below.refl w.heap.size w).alloc (Nat.le_refl _) (.cells #[.int .i64 (min a b), .int .i64 (max a b)] 42))
  go_enter Try.func50, Try.ntmps50
  go_wp2
  refine bodyPost_ret (v := .agg #[.int .i64 (min a b), .int .i64 (max a b)]) ?_ rfl ⟨rfl, ?_⟩
  · rw [results_cell1 rfl]
    go_simp
  · exact HB.out

set_option maxRecDepth 100000 in
set_option maxHeartbeats 1600000 in
theorem addI (g : Nat) (n : Int) (cs : List Ch) (x : Ch) (w : World) (h : Pg w g n cs.length (flF cs)) (hl : cs.length < 7) :
    Calls Try.prog 49 #[.pointer (some ⟨g, 0, none⟩), .agg #[.int .i64 x.1, .int .i64 x.2]] w fun e w' => e = .returned (.tuple #[]) ∧ Pg w' g n ((cs ++ [x]).length : Nat) (flF (cs ++ [x])) ∧ Onl g w w' := by
  have hg := h.lt
  have h0 := h.c1
  have hc0 := h.cs (2 * cs.length) (by omega)
  have hc1 := h.cs (2 * cs.length + 1) (by omega)
  rw [← Nat.add_assoc] at hc1
  have hf0 := h.fz (2 + 2 * cs.length) (by omega)
  have hf1 := h.fz (2 + 2 * cs.length + 1) (by omega)
  have hf2 := h.fz 1 (by omega)
  have HADD := Lib.hid (h.add hl x)
  have hne : ¬ (2 + 2 * cs.length = 1) := by omega
  rw [← Nat.add_assoc] at HADD
  generalize x.1 = a at *
  generalize x.2 = b at *
  have hlt : (cs.length : Int) < 7 := by omega
  have e1 : cs.length * 2 = 2 * cs.length := by omega
  clear h
  go_enter Try.func49, Try.ntmps49
  go_wp2
  go_region
  go_wp2
  go_end0
  refine ⟨rfl, HADD.out.keep (((Below.refl _ _).alloc (Nat.le_refl _) _).drew) HADD.out.lt, ?_⟩
  have e0 : ∀ (W : World) (q : Nat) (v : Value), Onl g W (W.setCell ⟨g, q, none⟩ v) := fun W q v => ⟨fun B hB => (Below.refl B W).setCell (p := ⟨g, q, none⟩) hB _, fun k hk hne => Below.heap_setCell W ⟨g, q, none⟩ v k (by show k ≠ g; exact hne)⟩
  have e3 := ((e0 w (2 + 2 * cs.length) (.int .i64 a)).trans (e0 _ (2 + 2 * cs.length + 1) (.int .i64 b))).trans (e0 _ 1 (.int .i64 ((cs.length : Int) + 1)))
  exact e3.trans (Onl.of (((Below.refl _ _).alloc (Nat.le_refl _) _).drew) (by simp [World.setCell]; omega))

end Go.Proofs.Ytkpnfonedfomaaa
