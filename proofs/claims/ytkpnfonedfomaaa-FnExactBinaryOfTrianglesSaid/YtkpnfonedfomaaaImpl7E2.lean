/- The program's polygonOf (written by tools/mk7e.py): what all parts need. -/
import Derived.Test.YtkpnfonedfomaaaImpl7E
import Derived.Test.YtkpnfonedfomaaaMid7
import Derived.Test.YtkpnfonedfomaaaSpec7A
namespace Go.Proofs.Ytkpnfonedfomaaa
open Go.ChangeShapes Go.WideShapes Go.ChangeAt Go.RowKit
set_option linter.unusedVariables false
set_option linter.unusedSimpArgs false

def AnsPg (n : Int) (ls : List (List Int)) (w : World) (e : Ending) (w' : World) : Prop := ∃ v, e = .returned (.tuple #[v, .bool (triB n ls)]) ∧ PgIs n ls v ∧ Below w.heap.size w w'
theorem PgIs.no {n : Int} {ls : List (List Int)} (h : triB n ls = false) : PgIs n ls (pgV 0 0 fun _ => 0) := .inr ⟨h, rfl⟩
theorem PgIs.yes {n : Int} {ls : List (List Int)} (h : triB n ls = true) : PgIs n ls (pgV n ls.length (flF (csT ls))) := .inl ⟨h, rfl⟩
theorem fieldA (n m : Int) (f : Nat → Int) (W : World) : (Instr.field 45 (pgV n m f) 2).run Try.prog W = .ok (.agg (arA f)) W := by kernel_rfl
theorem resPg {fn : Func} {p u : Tmp} {b : Nat} {n m : Int} {f : Nat → Int} {v : Value} (tmps : Array Value) {W : World} (h : fn.results = #[.cell p 45, .tmp u]) (hp : tmps.getD p undef = .pointer (some ⟨b, 0, none⟩) ∧ tmps.getD u undef = v) (hl : (loadVar 45 ⟨b, 0, none⟩).run Try.prog W = .ok (pgV n m f) W) :
    (results fn tmps).run Try.prog W = .ok (.tuple #[pgV n m f, v]) W := by
  rw [results_cell_tmp h, hp.1, hp.2]
  simp only [asAddr, Sem.run_pure, Result.andThen_ok, hl]
theorem sP_call {w W w' : World} {n m : Int} {f : Nat → Int} (hb : Below W.heap.size W w') (h : Pg W (w.heap.size + 1) n m f ∧ Pg W w.heap.size 0 0 (fun _ => 0) ∧ Below w.heap.size w W) : Pg w' (w.heap.size + 1) n m f ∧ Pg w' w.heap.size 0 0 (fun _ => 0) ∧ Below w.heap.size w w' :=
  ⟨h.1.keep hb h.1.lt, h.2.1.keep hb h.2.1.lt, h.2.2.trans (hb.mono (Nat.le_of_lt h.2.1.lt))⟩
theorem sP_drew {w W : World} {n m : Int} {f : Nat → Int} (h : Pg W (w.heap.size + 1) n m f ∧ Pg W w.heap.size 0 0 (fun _ => 0) ∧ Below w.heap.size w W) : Pg W.drew (w.heap.size + 1) n m f ∧ Pg W.drew w.heap.size 0 0 (fun _ => 0) ∧ Below w.heap.size w W.drew := sP_call (Below.refl _ _).drew h
def SQ (w : World) (n m : Int) (f : Nat → Int) (W : World) : Prop := W.cell? ⟨w.heap.size + 1, 0, none⟩ = some (.int .i64 n) ∧ W.cell? ⟨w.heap.size + 1, 1, none⟩ = some (.int .i64 m) ∧ W.cell? ⟨w.heap.size + 1, 2, none⟩ = some (.int .i64 (f 0)) ∧ W.cell? ⟨w.heap.size + 1, 3, none⟩ = some (.int .i64 (f 1)) ∧ W.cell? ⟨w.heap.size + 1, 4, none⟩ = some (.int .i64 (f 2)) ∧ W.cell? ⟨w.heap.size + 1, 5, none⟩ = some (.int .i64 (f 3)) ∧ W.cell? ⟨w.heap.size + 1, 6, none⟩ = some (.int .i64 (f 4)) ∧ W.cell? ⟨w.heap.size + 1, 7, none⟩ = some (.int .i64 (f 5)) ∧ W.cell? ⟨w.heap.size + 1, 8, none⟩ = some (.int .i64 (f 6)) ∧ W.cell? ⟨w.heap.size + 1, 9, none⟩ = some (.int .i64 (f 7)) ∧ W.cell? ⟨w.heap.size + 1, 10, none⟩ = some (.int .i64 (f 8)) ∧ W.cell? ⟨w.heap.size + 1, 11, none⟩ = some (.int .i64 (f 9)) ∧ W.cell? ⟨w.heap.size + 1, 12, none⟩ = some (.int .i64 (f 10)) ∧ W.cell? ⟨w.heap.size + 1, 13, none⟩ = some (.int .i64 (f 11)) ∧ W.cell? ⟨w.heap.size + 1, 14, none⟩ = some (.int .i64 (f 12)) ∧ W.cell? ⟨w.heap.size + 1, 15, none⟩ = some (.int .i64 (f 13)) ∧ Pg W (w.heap.size + 1) n m f ∧ Pg W w.heap.size 0 0 (fun _ => 0) ∧ Below w.heap.size w W
theorem sQ_of {w W : World} {n m : Int} {f : Nat → Int} (h : Pg W (w.heap.size + 1) n m f ∧ Pg W w.heap.size 0 0 (fun _ => 0) ∧ Below w.heap.size w W) : SQ w n m f W := by
  obtain ⟨p0, p1, p2, p3, p4, p5, p6, p7, p8, p9, p10, p11, p12, p13, p14, p15⟩ := h.1.all
  exact ⟨p0, p1, p2, p3, p4, p5, p6, p7, p8, p9, p10, p11, p12, p13, p14, p15, h⟩
theorem sQ_call {w W w' : World} {n m : Int} {f : Nat → Int} (hb : Below W.heap.size W w') (h : SQ w n m f W) : SQ w n m f w' := by
  obtain ⟨-, -, -, -, -, -, -, -, -, -, -, -, -, -, -, -, h⟩ := h
  exact sQ_of (sP_call hb h)
theorem sQ_drew {w W : World} {n m : Int} {f : Nat → Int} (h : SQ w n m f W) : SQ w n m f W.drew := sQ_call (Below.refl _ _).drew h
theorem sQ_out {w W : World} {n m : Int} {f : Nat → Int} (h : SQ w n m f W) : Pg W (w.heap.size + 1) n m f ∧ Pg W w.heap.size 0 0 (fun _ => 0) ∧ Below w.heap.size w W := by
  obtain ⟨-, -, -, -, -, -, -, -, -, -, -, -, -, -, -, -, h⟩ := h
  exact h
theorem zero14 (j : Nat) : flF [] j = 0 := by unfold flF; split <;> rfl

end Go.Proofs.Ytkpnfonedfomaaa
