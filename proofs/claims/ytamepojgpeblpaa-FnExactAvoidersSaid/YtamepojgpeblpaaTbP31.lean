/- A whole row of the call's own behind a table; tables kept while another block changes. -/
import Derived.Test.YtamepojgpeblpaaTblKZ
import Derived.Test.YtamepojgpeblpaaNextO31
import Derived.Test.YtamepojgpeblpaaAvS31
namespace Go.Proofs.Ytamepojgpeblpaa
open Go.ChangeShapes Go.WideShapes Go.ChangeAt Go.RowKit
set_option linter.unusedVariables false

variable {w : World} {base : Nat} {v : Value} {vs : List Value} {ls : List (List Int)}
theorem Tb.pushR {w' : World} {v' u : Value} (h : Tb w base v vs ls) {l : List Int} (hu : w.ownsRow base 3 1 u l.length (l.map (Value.int .i64))) (hua : ∀ j, j < ls.length → u.ownBlock = none ∨ u.ownBlock ≠ (vs.getD j nilV).ownBlock)
    (hown : w'.ownsRow base 22 1 v' (ls.length + 1) (vs ++ [u])) (hg : w.grownBy w' v.ownBlock) : Tb w' base v' (vs ++ [u]) (ls ++ [l]) := by
  have hl := h.len
  have eV : ∀ j, j < ls.length → (vs ++ [u]).getD j nilV = vs.getD j nilV := fun j hj => getD_app_l _ _ _ _ (by omega)
  have eL : ∀ j, j < ls.length → (ls ++ [l]).getD j [] = ls.getD j [] := fun j hj => getD_app_l _ _ _ _ hj
  have eU : (vs ++ [u]).getD ls.length nilV = u := by rw [← hl]; exact getD_app_e _ _ _
  have eE : (ls ++ [l]).getD ls.length [] = l := getD_app_e _ _ _
  have e1 : (ls ++ [l]).length = ls.length + 1 := by simp
  refine ⟨by simp [hl], by rw [e1]; exact hown, fun j hj => ?_, fun j k hj hk hjk => ?_⟩
  · rw [e1] at hj
    by_cases e : j < ls.length
    · rw [eV j e, eL j e]
      exact (h.row j e).kept hg (sw (h.ne e))
    · obtain rfl : j = ls.length := by omega
      rw [eU, eE]
      exact hu.kept hg (sw (ty_ne h.own hu))
  · rw [e1] at hj hk
    by_cases e : j < ls.length
    · rw [eV j e]
      by_cases e2 : k < ls.length
      · rw [eV k e2]; exact h.apart j k e e2 hjk
      · obtain rfl : k = ls.length := by omega
        rw [eU]; exact sw (hua j e)
    · obtain rfl : j = ls.length := by omega
      rw [eU, eV k (by omega)]
      exact hua k (by omega)
/-- A row appended to a table. -/
theorem wpAppTbR {w : World} {ops : Array Oper} {rest : List Oper} {o : Oper} {a : Act} {Q : Exit → Act → World → Prop} (hgd : o.guard = none) (s x : Operand)
    (ho : o.op = .call { callee := .builtin .append, args := #[s, x], argTypes := #[36, 36] })
    (base : Nat) (v : Value) (vs : List Value) (ls : List (List Int)) (hs : a.eval s = v) (hown : Tb w base v vs ls)
    (b : Nat) (c : Nat) (u : Value) (hx : a.eval x = .slice (some ⟨b, 0, none⟩) 1 c) (hcell : w.cell? ⟨b, 0, none⟩ = some u) (hu1 : u.oneCell' = true)
    {l : List Int} (hu : w.ownsRow base 3 1 u l.length (l.map (Value.int .i64))) (hua : ∀ j, j < ls.length → u.ownBlock = none ∨ u.ownBlock ≠ (vs.getD j nilV).ownBlock)
    (hn : ls.length ≤ 1099511627776) (hbase : base ≤ w.heap.size)
    (h : ∀ v' w', Tb w' base v' (vs ++ [u]) (ls ++ [l]) → w.grownBy w' v.ownBlock → wpList Try.prog ops Q rest (a.put o.dst v') w') : wpList Try.prog ops Q (o :: rest) a w := by
  obtain ⟨i0, hi, hz0, hz1, hz2⟩ := info_parts infoRR
  refine wpList_append_own _ hgd s x 36 ho base 22 i0 (.slice none 0 0) 1 24 Try.underlying36 hi hz0 hz1 hz2 rfl (by decide) v ls.length _ hs hown.own ⟨b, 0, none⟩ 1 c [u] hx rfl ?_ ?_ (by unfold maxLen; omega) (by omega) hbase ?_
  · intro j u hj
    match j, hj with
    | 0, hj => simp at hj; subst hj; simpa [Addr.add] using hcell
  · intro u' hu'; simp at hu'; subst hu'; exact hu1
  · intro v' w' h1 h2 _
    exact h v' w' (hown.pushR hu hua h1 h2) h2


theorem row_onl {w w' : World} {g base n size : Nat} {e : TypeId} {v : Value} {xs : List Value} (h : w.ownsRow base e size v n xs) (ho : Onl g w w') (hg : g < base) : w'.ownsRow base e size v n xs := by
  refine ⟨h.1, ?_⟩
  rcases h.2 with e1 | ⟨o, cap, cur, e1, h1, h2, h3⟩
  · exact .inl e1
  · exact .inr ⟨o, cap, cur, e1, h1, (ho.block o (by omega)).trans h2, h3⟩
theorem Tb.onl {w' : World} {g : Nat} (h : Tb w base v vs ls) (ho : Onl g w w') (hg : g < base) : Tb w' base v vs ls :=
  ⟨h.len, row_onl h.own ho hg, fun j hj => row_onl (h.row j hj) ho hg, h.apart⟩
theorem row_bel {w w' : World} {base n size : Nat} {e : TypeId} {v : Value} {xs : List Value} (h : w.ownsRow base e size v n xs) (hb : Below w.heap.size w w') : w'.ownsRow base e size v n xs := by
  refine ⟨h.1, ?_⟩
  rcases h.2 with e1 | ⟨o, cap, cur, e1, h1, h2, h3⟩
  · exact .inl e1
  · exact .inr ⟨o, cap, cur, e1, h1, (hb.block o (Array.getElem?_eq_some_iff.1 h2).1).trans h2, h3⟩
theorem Tb.bel {w' : World} (h : Tb w base v vs ls) (hb : Below w.heap.size w w') : Tb w' base v vs ls :=
  ⟨h.len, row_bel h.own hb, fun j hj => row_bel (h.row j hj) hb, h.apart⟩
theorem Tb.lower {base' : Nat} (h : Tb w base v vs ls) (hb : base' ≤ base) : Tb w base' v vs ls :=
  ⟨h.len, own_lower h.own hb, fun j hj => own_lower (h.row j hj) hb, h.apart⟩

end Go.Proofs.Ytamepojgpeblpaa
