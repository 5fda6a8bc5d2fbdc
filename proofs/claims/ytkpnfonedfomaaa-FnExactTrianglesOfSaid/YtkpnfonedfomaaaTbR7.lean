/- Whole rows behind a table; tables kept; triples as rows. -/
import Derived.Test.YtkpnfonedfomaaaTblZ
import Derived.Below
namespace Go.Proofs.Ytkpnfonedfomaaa
open Go.ChangeShapes Go.WideShapes Go.ChangeAt Go.RowKit
set_option linter.unusedVariables false

variable {w : World} {base : Nat} {v : Value} {vs : List Value} {ls : List (List Int)}
theorem Tb.pushR {w' : World} {v' u : Value} (h : Tb w base v vs ls) {l : List Int} (hu : w.ownsRow base 3 1 u l.length (l.map (Value.int .i64))) (hua : ∀ j, j < ls.length → u.ownBlock = none ∨ u.ownBlock ≠ (vs.getD j nilV).ownBlock)
    (hown : w'.ownsRow base 35 1 v' (ls.length + 1) (vs ++ [u])) (hg : w.grownBy w' v.ownBlock) : Tb w' base v' (vs ++ [u]) (ls ++ [l]) := by
  have hl := h.len
  have eV : ∀ j, j < ls.length → (vs ++ [u]).getD j nilV = vs.getD j nilV := fun j hj => getD_app_l _ _ _ _ (by omega)
  have eL : ∀ j, j < ls.length → (ls ++ [l]).getD j [] = ls.getD j [] := fun j hj => getD_app_l _ _ _ _ hj
  have eU : (vs ++ [u]).getD ls.length nilV = u := by rw [← hl]; exact getD_app_e _ _ _
  have eE : (ls ++ [l]).getD ls.length [] = l := getD_app_e _ _ _
  have e1 : (ls ++ [l]).length = ls.length + 1 := by simp
  refine ⟨by simp [hl], by rw [e1]; exact hown, fun j hj => ?_, fun j k hj hk hjk => ?_⟩
  · rw [e1] at hj
    by_cases e : j < ls.length
    · rw [eV j e, eL j e]
      exact (h.row j e).kept hg (sw (h.ne e))
    · obtain rfl : j = ls.length := by omega
      rw [eU, eE]
      exact hu.kept hg (sw (ty_ne h.own hu))
  · rw [e1] at hj hk
    by_cases e : j < ls.length
    · rw [eV j e]
      by_cases e2 : k < ls.length
      · rw [eV k e2]; exact h.apart j k e e2 hjk
      · obtain rfl : k = ls.length := by omega
        rw [eU]; exact sw (hua j e)
    · obtain rfl : j = ls.length := by omega
      rw [eU, eV k (by omega)]
      exact hua k (by omega)
/-- A row appended to a table. -/
theorem wpAppTbR {w : World} {ops : Array Oper} {rest : List Oper} {o : Oper} {a : Act} {Q : Exit → Act → World → Prop} (hgd : o.guard = none) (s x : Operand)
    (ho : o.op = .call { callee := .builtin .append, args := #[s, x], argTypes := #[22, 22] })
    (base : Nat) (v : Value) (vs : List Value) (ls : List (List Int)) (hs : a.eval s = v) (hown : Tb w base v vs ls)
    (b : Nat) (c : Nat) (u : Value) (hx : a.eval x = .slice (some ⟨b, 0, none⟩) 1 c) (hcell : w.cell? ⟨b, 0, none⟩ = some u) (hu1 : u.oneCell' = true)
    {l : List Int} (hu : w.ownsRow base 3 1 u l.length (l.map (Value.int .i64))) (hua : ∀ j, j < ls.length → u.ownBlock = none ∨ u.ownBlock ≠ (vs.getD j nilV).ownBlock)
    (hn : ls.length ≤ 1099511627776) (hbase : base ≤ w.heap.size)
    (h : ∀ v' w', Tb w' base v' (vs ++ [u]) (ls ++ [l]) → w.grownBy w' v.ownBlock → wpList Try.prog ops Q rest (a.put o.dst v') w') : wpList Try.prog ops Q (o :: rest) a w := by
  obtain ⟨i0, hi, hz0, hz1, hz2⟩ := info_parts infoRR
  refine wpList_append_own _ hgd s x 22 ho base 35 i0 (.slice none 0 0) 1 24 Try.underlying22 hi hz0 hz1 hz2 rfl (by decide) v ls.length _ hs hown.own ⟨b, 0, none⟩ 1 c [u] hx rfl ?_ ?_ (by unfold maxLen; omega) (by omega) hbase ?_
  · intro j u hj
    match j, hj with
    | 0, hj => simp at hj; subst hj; simpa [Addr.add] using hcell
  · intro u' hu'; simp at hu'; subst hu'; exact hu1
  · intro v' w' h1 h2 _
    exact h v' w' (hown.pushR hu hua h1 h2) h2

theorem row_bel7t {w w' : World} {base n size : Nat} {e : TypeId} {v : Value} {xs : List Value} (h : w.ownsRow base e size v n xs) (hb : Below w.heap.size w w') : w'.ownsRow base e size v n xs := by
  refine ⟨h.1, ?_⟩
  rcases h.2 with e1 | ⟨o, cap, cur, e1, h1, h2, h3⟩
  · exact .inl e1
  · exact .inr ⟨o, cap, cur, e1, h1, (hb.block o (Array.getElem?_eq_some_iff.1 h2).1).trans h2, h3⟩
theorem Tb.bel {w' : World} (h : Tb w base v vs ls) (hb : Below w.heap.size w w') : Tb w' base v vs ls :=
  ⟨h.len, row_bel7t h.own hb, fun j hj => row_bel7t (h.row j hj) hb, h.apart⟩
theorem Tb.drewN7 (h : Tb w base v vs ls) (n : Nat) : Tb (w.drewN n) base v vs ls := h.drewN n
/-- A row of three numbers, made. -/
theorem row3 (w : World) (base : Nat) (a b c : Int) (hb : base ≤ w.heap.size) : (w.alloc (.cells #[.int .i64 a, .int .i64 b, .int .i64 c] 3)).ownsRow base 3 1 (.slice (some ⟨w.heap.size, 0, none⟩) 3 3) 3 (([a, b, c] : List Int).map (Value.int .i64)) := by
  refine ⟨by simp, .inr ⟨w.heap.size, 3, #[.int .i64 a, .int .i64 b, .int .i64 c], rfl, hb, heap_alloc_new w _, Nat.le_refl _, by unfold maxLen; omega, rfl, rfl⟩⟩
theorem own_low7 {w : World} {base base' n size : Nat} {e : TypeId} {v : Value} {xs : List Value} (h : w.ownsRow base e size v n xs) (hb : base' ≤ base) : w.ownsRow base' e size v n xs := by
  refine ⟨h.1, ?_⟩
  rcases h.2 with e1 | ⟨o, cap, cur, e1, h1, h2⟩
  · exact .inl e1
  · exact .inr ⟨o, cap, cur, e1, Nat.le_trans hb h1, h2⟩
theorem Tb.lower7 {base' : Nat} (h : Tb w base v vs ls) (hb : base' ≤ base) : Tb w base' v vs ls :=
  ⟨h.len, own_low7 h.own hb, fun j hj => own_low7 (h.row j hj) hb, h.apart⟩
theorem Tb.far (h : Tb w base v vs ls) {b : Nat} (hb : w.heap.size ≤ b) {n c : Nat} (j : Nat) (hj : j < ls.length) : (Value.slice (some ⟨b, 0, none⟩) n c).ownBlock = none ∨ (Value.slice (some ⟨b, 0, none⟩) n c).ownBlock ≠ (vs.getD j nilV).ownBlock :=
  .inr fun e => by
    have e2 : (vs.getD j nilV).ownBlock = some b := e.symm
    have := (h.lt hj e2).2
    omega

end Go.Proofs.Ytkpnfonedfomaaa
