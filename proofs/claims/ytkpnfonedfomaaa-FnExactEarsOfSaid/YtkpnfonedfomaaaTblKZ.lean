/- A table of ints carried on from world to world. -/
import Derived.Test.YtkpnfonedfomaaaTblMZ
namespace Go.Proofs.Ytkpnfonedfomaaa
open Go.ChangeShapes Go.WideShapes Go.ChangeAt Go.RowKit
set_option linter.unusedVariables false

theorem row_eq {w w' : World} {base sz n : Nat} {e : TypeId} {v : Value} {xs : List Value} (h : w.ownsRow base e sz v n xs) (he : ∀ b, v.ownBlock = some b → w'.heap[b]? = w.heap[b]?) : w'.ownsRow base e sz v n xs := by
  obtain ⟨h1, h2⟩ := h
  refine ⟨h1, ?_⟩
  rcases h2 with h2 | ⟨g, cap, cur, rfl, hb, hh, r⟩
  · exact .inl h2
  · exact .inr ⟨g, cap, cur, rfl, hb, (he g rfl).trans hh, r⟩
structure TbH (w : World) (base H : Nat) (v : Value) (vs : List Value) (ls : List (List Int)) : Prop where
  tb : Tb w base v vs ls
  up : ∀ b, v.ownBlock = some b → base ≤ b ∧ b < H
  ups : ∀ j b, j < ls.length → (vs.getD j nilV).ownBlock = some b → base ≤ b ∧ b < H
variable {w w' : World} {base H : Nat} {v : Value} {vs : List Value} {ls : List (List Int)}
theorem TbH.of (h : Tb w base v vs ls) : TbH w base w.heap.size v vs ls := ⟨h, h.own.lt, fun j b hj hb => h.lt hj hb⟩
theorem TbH.eqs (h : TbH w base H v vs ls) (he : ∀ b, base ≤ b → b < H → w'.heap[b]? = w.heap[b]?) : TbH w' base H v vs ls :=
  ⟨⟨h.tb.len, row_eq h.tb.own fun b hb => he b (h.up b hb).1 (h.up b hb).2, fun j hj => row_eq (h.tb.row j hj) fun b hb => he b (h.ups j b hj hb).1 (h.ups j b hj hb).2, h.tb.apart⟩, h.up, h.ups⟩
theorem TbH.keep {B : Nat} (h : TbH w base H v vs ls) (hb : Below B w w') (hB : H ≤ B) : TbH w' base H v vs ls := h.eqs fun b _ h2 => hb.block b (by omega)
theorem TbH.apart {lo hi : Nat} (h : TbH w base H v vs ls) (ha : Apart lo hi w w') (hd : H ≤ lo ∨ hi ≤ base) : TbH w' base H v vs ls := h.eqs fun b h1 h2 => ha.block b (by omega)
theorem OwnT.apart {lo hi lo' hi' : Nat} (h : OwnT w lo' hi' v ls) (ha : Apart lo hi w w') (hd : hi' ≤ lo ∨ hi ≤ lo') : OwnT w' lo' hi' v ls := by
  obtain ⟨A, cap, e, h⟩ := h
  refine ⟨A, cap, e, fun j hj => ?_⟩
  obtain ⟨o, rv, h1, h2, h3, h4, h5⟩ := h j hj
  exact ⟨o, rv, h1, h2, h3, (World.cell?_of_block (a := ⟨o, j, none⟩) (ha.block o (by omega))).trans h4, h5.apart ha hd⟩
theorem OwnT.bound {lo hi hi2 : Nat} (h : OwnT w lo hi v ls) (h2 : hi ≤ hi2) : OwnT w lo hi2 v ls := by
  obtain ⟨A, cap, e, h⟩ := h
  refine ⟨A, cap, e, fun j hj => ?_⟩
  obtain ⟨o, rv, g1, g2, g3, g4, g5⟩ := h j hj
  exact ⟨o, rv, g1, g2, by omega, g4, g5.wide (Nat.le_refl _) h2⟩
theorem TbH.toT (h : TbH w base H v vs ls) : OwnT w base H v ls := by
  obtain ⟨A, cap, e⟩ := h.tb.form
  refine ⟨A, cap, e, fun j hj => ?_⟩
  obtain ⟨o, c, e2, h1, h2, h3, -⟩ := h.tb.cell hj
  have hu := h.up o (by rw [e2]; rfl)
  rw [e] at e2
  simp only [Value.slice.injEq] at e2
  exact ⟨o, _, e2.1, h1, hu.2, h3, own_wide (row_own (h.tb.row j hj)) (fun b hb => h.ups j b hj hb)⟩

end Go.Proofs.Ytkpnfonedfomaaa
