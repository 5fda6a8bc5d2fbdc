/- A row of ints behind a row that the call owns: append(out, more...), whatever is in it. -/
import Derived.Test.YtamepojgpeblpaaTwo31
import Derived.Laws.AppendOwnNone
namespace Go.Proofs.Ytamepojgpeblpaa
open Go.ChangeShapes Go.WideShapes Go.ChangeAt Go.RowKit
set_option linter.unusedVariables false

theorem wpAppW {w : World} {ops : Array Oper} {rest : List Oper} {o : Oper} {a : Act} {Q : Exit → Act → World → Prop} (hgd : o.guard = none) (s x : Operand)
    (ho : o.op = .call { callee := .builtin .append, args := #[s, x], argTypes := #[22, 22] })
    (base : Nat) (v : Value) (l : List Int) (hs : a.eval s = v) (hown : RowN w base v l) (B2 : Nat) (u : Value) (m : List Int) (hx : a.eval x = u) (hu : RowN w B2 u m)
    (hn : l.length ≤ 1048576) (hm : m.length ≤ 1048576) (hbase : base ≤ w.heap.size)
    (h : ∀ v' w', RowN w' base v' (l ++ m) → w.grownBy w' v.ownBlock → (v'.ownBlock = v.ownBlock ∨ v'.ownBlock = some w.heap.size) → wpList Try.prog ops Q rest (a.put o.dst v') w') : wpList Try.prog ops Q (o :: rest) a w := by
  obtain ⟨i0, hi, hz0, hz1, hz2⟩ := info_parts info3
  obtain ⟨A, c, e, hA⟩ := hu.form
  subst e
  cases A with
  | none =>
    have h0 : m = [] := by
      by_cases e : 0 < m.length
      · obtain ⟨g, e2, -⟩ := hA e; cases e2
      · exact List.eq_nil_of_length_eq_zero (by omega)
    subst h0
    have hc : c = 0 := by
      rcases hu.2 with ⟨e, -⟩ | ⟨g, cap, cur, e, -⟩
      · simp only [Value.slice.injEq] at e; exact e.2.2
      · simp at e
    subst hc
    refine wpList_append_own_none hgd s x 22 ho base 3 i0 1 Try.underlying22 hi v l.length _ hs hown (by simpa using hx) ?_
    exact h v w (by rw [List.append_nil]; exact hown) (World.grownBy.refl _ _) (.inl rfl)
  | some ad =>
    have had : ∃ g, ad = ⟨g, 0, none⟩ := by
      rcases hu.2 with ⟨e, -⟩ | ⟨g, cap, cur, e, -⟩
      · simp at e
      · simp only [Value.slice.injEq, Option.some.injEq] at e; exact ⟨g, e.1⟩
    obtain ⟨g, rfl⟩ := had
    refine wpList_append_own_at _ hgd s x 22 ho base 3 i0 (.int .i64 0) 1 8 Try.underlying22 hi hz0 hz1 hz2 rfl (by decide) v l.length _ hs hown ⟨g, 0, none⟩ m.length c (m.map (Value.int .i64)) hx (by simp) ?_ ?_ (by unfold maxLen; omega) (by omega) hbase ?_
    · intro j y hj
      rw [List.getElem?_map] at hj
      cases hq : m[j]? with
      | none => rw [hq] at hj; cases hj
      | some z =>
        rw [hq] at hj
        have hjl : j < m.length := (List.getElem?_eq_some_iff.1 hq).1
        have h2 := (hu.cell hjl).1
        rw [List.getD_eq_getElem?_getD, hq] at h2
        simp only [Option.map_some, Option.some.injEq] at hj
        rw [← hj, Addr.add_lit, Nat.zero_add]; exact h2
    · intro y hy
      obtain ⟨z, -, rfl⟩ := List.mem_map.1 hy
      rfl
    · intro v' w' h1 h2 _ h3
      refine h v' w' ?_ h2 h3
      unfold RowN
      rw [List.length_append, List.map_append]
      exact h1

end Go.Proofs.Ytamepojgpeblpaa
