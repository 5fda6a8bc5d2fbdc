/- A polygon in a block: its corners, its number of diagonals, fourteen ends. -/
import Derived.Test.YtkpnfonedfomaaaFact7
import Derived.Test.YtkpnfonedfomaaaRow10
namespace Go.Proofs.Ytkpnfonedfomaaa
open Go.ChangeShapes Go.WideShapes Go.ChangeAt Go.RowKit
set_option linter.unusedVariables false

/-- The ends of diagonals, one behind the other. -/
def flF (cs : List Ch) (j : Nat) : Int := if j % 2 = 0 then (cs.getD (j / 2) (0, 0)).1 else (cs.getD (j / 2) (0, 0)).2
abbrev pgA (n m : Int) (f : Nat → Int) : Array Value := #[.int .i64 n, .int .i64 m, .int .i64 (f 0), .int .i64 (f 1), .int .i64 (f 2), .int .i64 (f 3), .int .i64 (f 4), .int .i64 (f 5), .int .i64 (f 6), .int .i64 (f 7), .int .i64 (f 8), .int .i64 (f 9), .int .i64 (f 10), .int .i64 (f 11), .int .i64 (f 12), .int .i64 (f 13)]
abbrev pgV (n m : Int) (f : Nat → Int) : Value := .agg (pgA n m f)
structure Pg (W : World) (b : Nat) (n m : Int) (f : Nat → Int) : Prop where
  lt : b < W.heap.size
  c0 : W.cell? ⟨b, 0, none⟩ = some (.int .i64 n)
  c1 : W.cell? ⟨b, 1, none⟩ = some (.int .i64 m)
  cs : ∀ j, j < 14 → W.cell? ⟨b, 2 + j, none⟩ = some (.int .i64 (f j))
  fz : ∀ j, j < 16 → W.frozen? ⟨b, j, none⟩ = false
theorem Pg.start (w : World) (n m : Int) (f : Nat → Int) (t : TypeId) : Pg (w.alloc (.cells (pgA n m f) t)) w.heap.size n m f := by
  refine ⟨by simp, ?_, ?_, fun j hj => ?_, fun j hj => by simp [World.frozen?, show ∀ o, (w.alloc o).heap = w.heap.push o from fun o => rfl]⟩
  · rw [World.cell?_alloc_at _ _ _ _ rfl]; rfl
  · rw [World.cell?_alloc_at _ _ _ _ rfl]; rfl
  · rw [World.cell?_alloc_at _ _ _ _ rfl]
    match j, hj with
    | 0, _ => rfl
    | 1, _ => rfl
    | 2, _ => rfl
    | 3, _ => rfl
    | 4, _ => rfl
    | 5, _ => rfl
    | 6, _ => rfl
    | 7, _ => rfl
    | 8, _ => rfl
    | 9, _ => rfl
    | 10, _ => rfl
    | 11, _ => rfl
    | 12, _ => rfl
    | 13, _ => rfl
theorem Pg.keep {W w' : World} {b B : Nat} {n m : Int} {f : Nat → Int} (h : Pg W b n m f) (hb : Below B W w') (hB : b < B) : Pg w' b n m f :=
  ⟨by have := hb.size; have := h.lt; omega, (hb.cell (p := ⟨b, 0, none⟩) hB).trans h.c0, (hb.cell (p := ⟨b, 1, none⟩) hB).trans h.c1, fun j hj => (hb.cell (p := ⟨b, 2 + j, none⟩) hB).trans (h.cs j hj), fun j hj => (hb.frozen (p := ⟨b, j, none⟩) hB).trans (h.fz j hj)⟩
theorem Pg.of {W : World} {b : Nat} {n m : Int} {f g : Nat → Int} (h : Pg W b n m f) (hg : ∀ j, j < 14 → g j = f j) : Pg W b n m g :=
  ⟨h.lt, h.c0, h.c1, fun j hj => by rw [hg j hj]; exact h.cs j hj, h.fz⟩
theorem Pg.set {W : World} {b k : Nat} {n m : Int} {f : Nat → Int} (h : Pg W b n m f) (hk : k < 14) (y : Int) : Pg (W.setCell ⟨b, 2 + k, none⟩ (.int .i64 y)) b n m (fun j => if j = k then y else f j) := by
  refine ⟨by simpa [World.setCell] using h.lt, ?_, ?_, fun j hj => ?_, fun j hj => by rw [World.frozen?_setCell]; exact h.fz j hj⟩
  · exact (World.cell?_setCell_other W _ _ _ (fun h => by have := congrArg Addr.off h; simp at this)).trans h.c0
  · exact (World.cell?_setCell_other W _ _ _ (fun h => by have := congrArg Addr.off h; simp at this; omega)).trans h.c1
  · by_cases e : j = k
    · subst e; rw [if_pos rfl]; exact World.cell?_setCell_same W _ _ (h.cs j hj)
    · rw [if_neg e]
      exact (World.cell?_setCell_other W _ _ _ (fun h => e (by have := congrArg Addr.off h; simp at this; omega))).trans (h.cs j hj)
theorem Pg.count {W : World} {b : Nat} {n m : Int} {f : Nat → Int} (h : Pg W b n m f) (y : Int) : Pg (W.setCell ⟨b, 1, none⟩ (.int .i64 y)) b n y f := by
  refine ⟨by simpa [World.setCell] using h.lt, ?_, World.cell?_setCell_same W _ _ h.c1, fun j hj => ?_, fun j hj => by rw [World.frozen?_setCell]; exact h.fz j hj⟩
  · exact (World.cell?_setCell_other W _ _ _ (fun h => by have := congrArg Addr.off h; simp at this)).trans h.c0
  · exact (World.cell?_setCell_other W _ _ _ (fun h => by have := congrArg Addr.off h; simp at this; omega)).trans (h.cs j hj)
theorem flF_add (cs : List Ch) (x : Ch) (j : Nat) : flF (cs ++ [x]) j = if j = 2 * cs.length + 1 then x.2 else (if j = 2 * cs.length then x.1 else flF cs j) := by
  have e : ∀ k, (cs ++ [x]).getD k (0, 0) = if k = cs.length then x else cs.getD k (0, 0) := fun k => by
    by_cases h1 : k < cs.length
    · rw [if_neg (by omega), List.getD_eq_getElem?_getD, List.getElem?_append_left h1, ← List.getD_eq_getElem?_getD]
    · by_cases h2 : k = cs.length
      · subst h2; rw [if_pos rfl]; simp [List.getD]
      · rw [if_neg h2, List.getD_eq_getElem?_getD, List.getD_eq_getElem?_getD, List.getElem?_eq_none (by simp; omega), List.getElem?_eq_none (by omega)]
  unfold flF
  rw [e]
  by_cases h1 : j = 2 * cs.length + 1
  · rw [if_pos h1, if_neg (by omega), if_pos (by omega)]
  · rw [if_neg h1]
    by_cases h2 : j = 2 * cs.length
    · rw [if_pos h2, if_pos (by omega), if_pos (by omega)]
    · rw [if_neg h2]
      by_cases h3 : j / 2 = cs.length
      · omega
      · rw [if_neg h3]
/-- A diagonal added. -/
theorem Pg.add {W : World} {b : Nat} {n : Int} {cs : List Ch} (h : Pg W b n cs.length (flF cs)) (hl : cs.length < 7) (x : Ch) :
    Pg (((W.setCell ⟨b, 2 + 2 * cs.length, none⟩ (.int .i64 x.1)).setCell ⟨b, 2 + (2 * cs.length + 1), none⟩ (.int .i64 x.2)).setCell ⟨b, 1, none⟩ (.int .i64 ((cs.length : Int) + 1))) b n ((cs ++ [x]).length : Nat) (flF (cs ++ [x])) := by
  have h2 := (((h.set (k := 2 * cs.length) (by omega) x.1).set (k := 2 * cs.length + 1) (by omega) x.2).count ((cs.length : Int) + 1)).of (g := flF (cs ++ [x])) (fun j hj => flF_add cs x j)
  rw [show (((cs ++ [x]).length : Nat) : Int) = (cs.length : Int) + 1 by simp]
  exact h2
/-- Of all that lay there only block g was turned. -/
structure Onl (g : Nat) (W w' : World) : Prop where
  below : ∀ B, B ≤ g → Below B W w'
  oth : ∀ k, k < W.heap.size → k ≠ g → w'.heap[k]? = W.heap[k]?
theorem Onl.trans {g : Nat} {W w1 w2 : World} (h : Onl g W w1) (h2 : Onl g w1 w2) : Onl g W w2 :=
  ⟨fun B hB => (h.below B hB).trans (h2.below B hB), fun k hk hg => (h2.oth k (by have := (h.below 0 (Nat.zero_le _)).size; omega) hg).trans (h.oth k hk hg)⟩
theorem Onl.of {g : Nat} {W w' : World} (h : Below W.heap.size W w') (hg : g ≤ W.heap.size) : Onl g W w' :=
  ⟨fun B hB => h.mono (by omega), fun k hk _ => h.block k hk⟩
theorem Pg.other {W w' : World} {b g : Nat} {n m : Int} {f : Nat → Int} (h : Pg W b n m f) (ho : Onl g W w') (hb : b ≠ g) : Pg w' b n m f := by
  have e := ho.oth b h.lt hb
  have hc : ∀ j, w'.cell? ⟨b, j, none⟩ = W.cell? ⟨b, j, none⟩ := fun j => World.cell?_of_block (a := ⟨b, j, none⟩) e
  have hf : ∀ j, w'.frozen? ⟨b, j, none⟩ = W.frozen? ⟨b, j, none⟩ := fun j => by simp only [World.frozen?, e]
  exact ⟨by have := (ho.below 0 (Nat.zero_le _)).size; have := h.lt; omega, (hc 0).trans h.c0, (hc 1).trans h.c1, fun j hj => (hc _).trans (h.cs j hj), fun j hj => (hf j).trans (h.fz j hj)⟩
theorem flF_inj {cs ds : List Ch} (hl : cs.length = ds.length) (h : ∀ j, j < 2 * cs.length → flF cs j = flF ds j) : cs = ds := by
  apply List.ext_getElem hl
  intro i h1 h2
  have a := h (2 * i) (by omega)
  have b := h (2 * i + 1) (by omega)
  unfold flF at a b
  rw [if_pos (by omega), if_pos (by omega), show 2 * i / 2 = i by omega] at a
  rw [if_neg (by omega), if_neg (by omega), show (2 * i + 1) / 2 = i by omega] at b
  rw [getD_elem cs h1, getD_elem ds h2] at a b
  exact Prod.ext a b

end Go.Proofs.Ytkpnfonedfomaaa
