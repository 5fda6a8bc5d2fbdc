/- Tables whose rows lie anywhere; a whole table behind another. -/
import Derived.Test.YtamepojgpeblpaaAll31
import Derived.Test.YtamepojgpeblpaaApp31
import Derived.Test.YtamepojgpeblpaaCopy31
import Derived.Deep.AppendLies
namespace Go.Proofs.Ytamepojgpeblpaa
open Go.ChangeShapes Go.WideShapes Go.ChangeAt Go.RowKit
set_option linter.unusedVariables false

theorem infoX : (Try.prog.info? 22).map (fun i => (i.zero, i.size, i.bytes)) = some (some (.slice none 0 0), 1, 24) := by kernel_rfl
abbrev nilX : Value := .slice none 0 0
/-- v is a table that the call owns; its rows are read only, and lie from lo on. -/
structure TbX (w : World) (base lo : Nat) (v : Value) (vs : List Value) (ls : List (List Int)) : Prop where
  len : vs.length = ls.length
  own : w.ownsRow base 22 1 v ls.length vs
  row : ∀ j, j < ls.length → OwnI w lo w.heap.size (vs.getD j nilX) (ls.getD j [])
theorem ownI_grown {w w' : World} {lo base n : Nat} {u v : Value} {l : List Int} {xs : List Value} (h : OwnI w lo w.heap.size u l) (hv : w.ownsRow base 22 1 v n xs) (hg : w.grownBy w' v.ownBlock) : OwnI w' lo w'.heap.size u l := by
  obtain ⟨A, cap, e, h⟩ := h
  refine ⟨A, cap, e, ?_⟩
  rcases h with h | ⟨g, C, h1, h2, h3, h4, h5⟩
  · exact .inl h
  · refine .inr ⟨g, C, h1, Nat.lt_of_lt_of_le h2 hg.size, h3, ?_, h5⟩
    refine (hg.block g h2 fun e2 => ?_).trans h4
    rcases hv.2 with ⟨e, -⟩ | ⟨o', cap', cur, e, hb, hh, -⟩
    · subst e; cases e2
    · subst e
      simp only [Value.ownBlock, Option.some.injEq] at e2
      subst e2
      rw [h4] at hh
      simp at hh
variable {w w' : World} {base lo : Nat} {v : Value} {vs : List Value} {ls : List (List Int)}
theorem TbX.below (h : TbX w base lo v vs ls) (hb : Below w.heap.size w w') : TbX w' base lo v vs ls := by
  refine ⟨h.len, ⟨h.own.1, ?_⟩, fun j hj => ((h.row j hj).keep hb (Nat.le_refl _)).wide (Nat.le_refl _) hb.size⟩
  rcases h.own.2 with e | ⟨o, cap, cur, e, h1, h2, h3⟩
  · exact .inl e
  · exact .inr ⟨o, cap, cur, e, h1, (hb.block o (Array.getElem?_eq_some_iff.1 h2).1).trans h2, h3⟩
theorem TbX.cell (h : TbX w base lo v vs ls) {j : Nat} (hj : j < ls.length) :
    ∃ o cap, v = .slice (some ⟨o, 0, none⟩) ls.length cap ∧ base ≤ o ∧ o < w.heap.size ∧ w.cell? ⟨o, j, none⟩ = some (vs.getD j nilX) := by
  obtain ⟨o, cap, e, h1, h2⟩ := h.own.form (by omega)
  have hown := h.own
  rw [e] at hown
  refine ⟨o, cap, e, h1, h2, ?_⟩
  rw [hown.cellAt j (by omega), List.getD_eq_getElem?_getD, List.getElem?_eq_getElem (by have := h.len; omega)]
  rfl
theorem TbX.form (h : TbX w base lo v vs ls) : ∃ A cap, v = .slice A ls.length cap := by
  rcases h.own.2 with ⟨e, h0⟩ | ⟨g, cap, cur, e, -⟩
  · exact ⟨none, 0, by rw [e, h0]⟩
  · exact ⟨_, cap, e⟩
theorem TbX.made (w : World) (base lo : Nat) (hb : base ≤ w.heap.size) : TbX (w.alloc (.cells #[] 22)) base lo (.slice (some ⟨w.heap.size, 0, none⟩) 0 0) [] [] :=
  ⟨rfl, World.ownsRow_made w #[] 0 hb (Nat.zero_le _) (by simp), fun j h => by simp at h⟩
theorem TbX.one {w : World} {base lo hi : Nat} {u : Value} {l : List Int} (hu : OwnI w lo hi u l) (hhi : hi ≤ w.heap.size) (hb : base ≤ w.heap.size) : TbX (w.alloc (.cells #[u] 22)) base lo (.slice (some ⟨w.heap.size, 0, none⟩) 1 1) [u] [l] := by
  refine ⟨rfl, ⟨by simp, .inr ⟨w.heap.size, 1, #[u], rfl, hb, heap_alloc_new w _, Nat.le_refl _, by decide, by simp, by simp⟩⟩, fun j hj => ?_⟩
  obtain rfl : j = 0 := by simp at hj; omega
  exact (hu.keep ((Below.refl w.heap.size w).alloc (Nat.le_refl _) _) hhi).wide (Nat.le_refl _) (by simp; omega)
theorem gx_l {α : Type} (l m : List α) (j : Nat) (d : α) (h : j < l.length) : (l ++ m).getD j d = l.getD j d := by
  rw [List.getD_eq_getElem?_getD, List.getElem?_append_left h, ← List.getD_eq_getElem?_getD]
theorem gx_r {α : Type} (l m : List α) (j : Nat) (d : α) (h : l.length ≤ j) : (l ++ m).getD j d = m.getD (j - l.length) d := by
  rw [List.getD_eq_getElem?_getD, List.getElem?_append_right h, ← List.getD_eq_getElem?_getD]

theorem wpAppTX {w : World} {ops : Array Oper} {rest : List Oper} {o : Oper} {a : Act} {Q : Exit → Act → World → Prop} (hgd : o.guard = none) (s x : Operand)
    (ho : o.op = .call { callee := .builtin .append, args := #[s, x], argTypes := #[36, 36] })
    (base lo : Nat) (v : Value) (vs : List Value) (ls : List (List Int)) (hs : a.eval s = v) (hown : TbX w base lo v vs ls) (B2 : Nat) (u : Value) (us : List Value) (ms : List (List Int)) (hx : a.eval x = u) (hu : TbX w B2 lo u us ms)
    (hn : ls.length ≤ 1048576) (hm : ms.length ≤ 1048576) (hbase : base ≤ w.heap.size)
    (h : ∀ v' w', TbX w' base lo v' (vs ++ us) (ls ++ ms) → w.grownBy w' v.ownBlock → (v'.ownBlock = v.ownBlock ∨ v'.ownBlock = some w.heap.size) → wpList Try.prog ops Q rest (a.put o.dst v') w') : wpList Try.prog ops Q (o :: rest) a w := by
  obtain ⟨i0, hi, hz0, hz1, hz2⟩ := info_parts infoX
  rcases hu.own.2 with ⟨e, h0⟩ | ⟨g, cap, cur, e, hb, hh, -⟩
  · subst e
    have e1 : ms = [] := List.eq_nil_of_length_eq_zero h0
    have e2 : us = [] := List.eq_nil_of_length_eq_zero (by rw [hu.len, e1]; rfl)
    subst e1 e2
    refine wpList_append_own_none hgd s x 36 ho base 22 i0 1 Try.underlying36 hi v ls.length _ hs hown.own hx ?_
    exact h v w (by rw [List.append_nil, List.append_nil]; exact hown) (World.grownBy.refl _ _) (.inl rfl)
  · have hul := hu.len
    subst e
    refine wpList_append_own_at _ hgd s x 36 ho base 22 i0 (.slice none 0 0) 1 24 Try.underlying36 hi hz0 hz1 hz2 rfl (by decide) v ls.length _ hs hown.own ⟨g, 0, none⟩ ms.length cap us hx (by omega) ?_ ?_ (by unfold maxLen; omega) (by omega) hbase ?_
    · intro j y hj
      have hjl : j < us.length := (List.getElem?_eq_some_iff.1 hj).1
      obtain ⟨o2, c2, e2, -, -, hc⟩ := hu.cell (j := j) (by omega)
      simp only [Value.slice.injEq, Option.some.injEq, Addr.mk.injEq] at e2
      obtain ⟨⟨rfl, -⟩, -⟩ := e2
      rw [List.getD_eq_getElem?_getD, hj] at hc
      rw [Addr.add_lit, Nat.zero_add]; exact hc
    · intro y hy
      obtain ⟨j, hj, rfl⟩ := List.mem_iff_getElem.1 hy
      obtain ⟨A, c, e2, -⟩ := hu.row j (by omega)
      rw [List.getD_eq_getElem?_getD, List.getElem?_eq_getElem hj] at e2
      simp only [Option.getD_some] at e2
      rw [e2]; rfl
    · intro v' w' h1 h2 _ h3
      refine h v' w' ⟨by rw [List.length_append, List.length_append, hown.len, hu.len], by rw [List.length_append]; exact h1, fun j hj => ?_⟩ h2 h3
      rw [List.length_append] at hj
      by_cases e : j < ls.length
      · rw [gx_l _ _ _ _ (by rw [hown.len]; exact e), gx_l _ _ _ _ e]
        exact ownI_grown (hown.row j e) hown.own h2
      · rw [gx_r _ _ _ _ (by rw [hown.len]; omega), gx_r _ _ _ _ (by omega), hown.len]
        exact ownI_grown (hu.row _ (by omega)) hown.own h2

end Go.Proofs.Ytamepojgpeblpaa
