/- Tables of ints that the call owns and whose rows grow: each row in a block of its own. -/
import Derived.Test.YtkpnfonedfomaaaTwo31
import Derived.Test.YtkpnfonedfomaaaMark2
import Derived.Test.YtkpnfonedfomaaaSpec2G
import Derived.OneCell
import Derived.Deep.AppendLies
namespace Go.Proofs.Ytkpnfonedfomaaa
open Go.ChangeShapes Go.WideShapes Go.ChangeAt Go.RowKit
set_option linter.unusedVariables false

abbrev nilV : Value := .slice none 0 0
theorem row_ty {w : World} {base sz n : Nat} {e : TypeId} {v : Value} {xs : List Value} (h : w.ownsRow base e sz v n xs) {o : Nat} (ho : v.ownBlock = some o) : ∃ cur, w.heap[o]? = some (.cells cur e (0, 0)) := by
  rcases h.2 with ⟨e, -⟩ | ⟨o', cap, cur, e, hb, hh, -⟩
  · subst e; cases ho
  · subst e
    simp only [Value.ownBlock, Option.some.injEq] at ho
    subst ho
    exact ⟨cur, hh⟩
/-- A table's own block is no row's block. -/
theorem ty_ne {w : World} {base base' n m : Nat} {v u : Value} {xs ys : List Value} (h : w.ownsRow base 35 1 v n xs) (hu : w.ownsRow base' 3 1 u m ys) : v.ownBlock = none ∨ v.ownBlock ≠ u.ownBlock := by
  rcases hv : v.ownBlock with _ | o
  · exact .inl rfl
  · refine .inr fun e => ?_
    obtain ⟨c1, h1⟩ := row_ty h hv
    obtain ⟨c2, h2⟩ := row_ty hu e.symm
    rw [h1] at h2
    simp at h2
theorem sw {a b : Option Nat} (h : a = none ∨ a ≠ b) : b = none ∨ b ≠ a := by
  rcases h with rfl | h
  · rcases b with _ | b
    · exact .inl rfl
    · exact .inr (by simp)
  · exact .inr (Ne.symm h)
theorem getD_set_me {α : Type} (l : List α) (k : Nat) (x d : α) (h : k < l.length) : (l.set k x).getD k d = x := by simp [List.getD, h]
theorem getD_set_ot {α : Type} (l : List α) (k j : Nat) (x d : α) (h : j ≠ k) : (l.set k x).getD j d = l.getD j d := by
  rw [List.getD_eq_getElem?_getD, List.getElem?_set_ne (by omega), ← List.getD_eq_getElem?_getD]
theorem getD_app_l {α : Type} (l m : List α) (j : Nat) (d : α) (h : j < l.length) : (l ++ m).getD j d = l.getD j d := by
  rw [List.getD_eq_getElem?_getD, List.getElem?_append_left h, ← List.getD_eq_getElem?_getD]
theorem getD_app_e {α : Type} (l : List α) (x d : α) : (l ++ [x]).getD l.length d = x := by simp [List.getD]

/-- v is a table of the rows ls, which are the slices vs. -/
structure Tb (w : World) (base : Nat) (v : Value) (vs : List Value) (ls : List (List Int)) : Prop where
  len : vs.length = ls.length
  own : w.ownsRow base 35 1 v ls.length vs
  row : ∀ j, j < ls.length → w.ownsRow base 3 1 (vs.getD j nilV) (ls.getD j []).length ((ls.getD j []).map (Value.int .i64))
  apart : ∀ j k, j < ls.length → k < ls.length → j ≠ k → (vs.getD j nilV).ownBlock = none ∨ (vs.getD j nilV).ownBlock ≠ (vs.getD k nilV).ownBlock

variable {w : World} {base : Nat} {v : Value} {vs : List Value} {ls : List (List Int)}
theorem Tb.nil (w : World) (base : Nat) : Tb w base (.slice none 0 0) [] [] :=
  ⟨rfl, World.ownsRow_nil _ _ _ _, fun j h => by simp at h, fun j k h => by simp at h⟩
theorem Tb.made (w : World) (base : Nat) (hb : base ≤ w.heap.size) : Tb (w.alloc (.cells #[] 35)) base (.slice (some ⟨w.heap.size, 0, none⟩) 0 0) [] [] :=
  ⟨rfl, World.ownsRow_made w #[] 0 hb (Nat.zero_le _) (by simp), fun j h => by simp at h, fun j k h => by simp at h⟩
theorem Tb.ne (h : Tb w base v vs ls) {j : Nat} (hj : j < ls.length) : v.ownBlock = none ∨ v.ownBlock ≠ (vs.getD j nilV).ownBlock := ty_ne h.own (h.row j hj)
theorem Tb.kept {w' : World} {row : Option Nat} (h : Tb w base v vs ls) (hg : w.grownBy w' row) (h1 : v.ownBlock = none ∨ v.ownBlock ≠ row) (h2 : ∀ j, j < ls.length → (vs.getD j nilV).ownBlock = none ∨ (vs.getD j nilV).ownBlock ≠ row) : Tb w' base v vs ls :=
  ⟨h.len, h.own.kept hg h1, fun j hj => (h.row j hj).kept hg (h2 j hj), h.apart⟩
theorem Tb.alloc (h : Tb w base v vs ls) (o : Obj) : Tb (w.alloc o) base v vs ls :=
  ⟨h.len, h.own.alloc o, fun j hj => (h.row j hj).alloc o, h.apart⟩
theorem Tb.drew (h : Tb w base v vs ls) : Tb w.drew base v vs ls := ⟨h.len, h.own, h.row, h.apart⟩
theorem Tb.drewN (h : Tb w base v vs ls) (n : Nat) : Tb (w.drewN n) base v vs ls := by
  induction n with
  | zero => exact h
  | succ n ih => exact ih.drew
theorem Tb.lt (h : Tb w base v vs ls) {j b : Nat} (hj : j < ls.length) (hb : (vs.getD j nilV).ownBlock = some b) : base ≤ b ∧ b < w.heap.size := (h.row j hj).lt b hb
theorem Tb.form (h : Tb w base v vs ls) : ∃ A cap, v = .slice A ls.length cap := by
  rcases h.own.2 with ⟨e, h0⟩ | ⟨g, cap, cur, e, -⟩
  · exact ⟨none, 0, by rw [e, h0]⟩
  · exact ⟨_, cap, e⟩
theorem Tb.cell (h : Tb w base v vs ls) {j : Nat} (hj : j < ls.length) :
    ∃ o cap, v = .slice (some ⟨o, 0, none⟩) ls.length cap ∧ base ≤ o ∧ o < w.heap.size ∧ w.cell? ⟨o, j, none⟩ = some (vs.getD j nilV) ∧ w.frozen? ⟨o, j, none⟩ = false := by
  obtain ⟨o, cap, e, h1, h2⟩ := h.own.form (by omega)
  have hown := h.own
  rw [e] at hown
  refine ⟨o, cap, e, h1, h2, ?_, hown.frozenAt j⟩
  rw [hown.cellAt j (by omega), List.getD_eq_getElem?_getD, List.getElem?_eq_getElem (by have := h.len; omega)]
  rfl
theorem Tb.push {w' : World} {v' u : Value} (h : Tb w base v vs ls) (hu : w.ownsRow base 3 1 u 0 (([] : List Int).map (Value.int .i64))) (hua : ∀ j, j < ls.length → u.ownBlock = none ∨ u.ownBlock ≠ (vs.getD j nilV).ownBlock)
    (hown : w'.ownsRow base 35 1 v' (ls.length + 1) (vs ++ [u])) (hg : w.grownBy w' v.ownBlock) : Tb w' base v' (vs ++ [u]) (ls ++ [[]]) := by
  have hl := h.len
  have eV : ∀ j, j < ls.length → (vs ++ [u]).getD j nilV = vs.getD j nilV := fun j hj => getD_app_l _ _ _ _ (by omega)
  have eL : ∀ j, j < ls.length → (ls ++ [[]]).getD j [] = ls.getD j [] := fun j hj => getD_app_l _ _ _ _ hj
  have eU : (vs ++ [u]).getD ls.length nilV = u := by rw [← hl]; exact getD_app_e _ _ _
  have eE : (ls ++ [[]]).getD ls.length [] = [] := getD_app_e _ _ _
  have e1 : (ls ++ [([] : List Int)]).length = ls.length + 1 := by simp
  refine ⟨by simp [hl], by rw [e1]; exact hown, fun j hj => ?_, fun j k hj hk hjk => ?_⟩
  · rw [e1] at hj
    by_cases e : j < ls.length
    · rw [eV j e, eL j e]
      exact (h.row j e).kept hg (sw (h.ne e))
    · obtain rfl : j = ls.length := by omega
      rw [eU, eE]
      exact hu.kept hg (sw (ty_ne h.own hu))
  · rw [e1] at hj hk
    by_cases e : j < ls.length
    · rw [eV j e]
      by_cases e2 : k < ls.length
      · rw [eV k e2]; exact h.apart j k e e2 hjk
      · obtain rfl : k = ls.length := by omega
        rw [eU]; exact sw (hua j e)
    · obtain rfl : j = ls.length := by omega
      rw [eU, eV k (by omega)]
      exact hua k (by omega)
theorem Tb.put {w1 : World} {v1 : Value} {o cap k : Nat} {y : Int} (h : Tb w base (.slice (some ⟨o, 0, none⟩) ls.length cap) vs ls) (hk : k < ls.length)
    (h1 : w1.ownsRow base 3 1 v1 ((ls.getD k []).length + 1) ((ls.getD k [] ++ [y]).map (Value.int .i64))) (hg : w.grownBy w1 (vs.getD k nilV).ownBlock)
    (hat : v1.ownBlock = (vs.getD k nilV).ownBlock ∨ v1.ownBlock = some w.heap.size) :
    Tb (w1.setCell ⟨o, k, none⟩ v1) base (.slice (some ⟨o, 0, none⟩) ls.length cap) (vs.set k v1) (ls.set k (ls.getD k [] ++ [y])) := by
  have hl := h.len
  have hown1 := h.own.kept hg (h.ne hk)
  have hno : ∀ {u : Value} {m : Nat} {ys : List Value}, w1.ownsRow base 3 1 u m ys → u.ownBlock ≠ some o := fun hu e => by
    rcases ty_ne hown1 hu with h | h
    · simp [Value.ownBlock] at h
    · exact h (by rw [e]; rfl)
  refine ⟨by simp [hl], by rw [List.length_set]; exact (hown1.stored k v1).1, fun j hj => ?_, fun j m hj hm hjm => ?_⟩
  · rw [List.length_set] at hj
    by_cases e : j = k
    · subst e
      rw [getD_set_me _ _ _ _ (by omega), getD_set_me _ _ _ _ (by omega), List.length_append, List.length_singleton]
      exact ownsRow_setCell_other h1 (hno h1) _
    · rw [getD_set_ot _ _ _ _ _ e, getD_set_ot _ _ _ _ _ e]
      have hr := (h.row j hj).kept hg (h.apart j k hj hk e)
      exact ownsRow_setCell_other hr (hno hr) _
  · rw [List.length_set] at hj hm
    have key : ∀ j, j < ls.length → j ≠ k → v1.ownBlock = none ∨ v1.ownBlock ≠ (vs.getD j nilV).ownBlock := fun j hj e => by
      rcases hat with h2 | h2
      · rw [h2]; exact h.apart k j hk hj (Ne.symm e)
      · refine .inr fun e2 => ?_
        have := (h.lt hj (e2.symm.trans h2)).2
        omega
    by_cases e : j = k
    · subst e
      rw [getD_set_me _ _ _ _ (by omega), getD_set_ot _ _ _ _ _ (Ne.symm hjm)]
      exact key m hm (Ne.symm hjm)
    · rw [getD_set_ot _ _ _ _ _ e]
      by_cases e2 : m = k
      · subst e2
        rw [getD_set_me _ _ _ _ (by omega)]
        exact sw (key j hj e)
      · rw [getD_set_ot _ _ _ _ _ e2]
        exact h.apart j m hj hm hjm

theorem Tb.free {w1 : World} {o cap k : Nat} (h : Tb w base (.slice (some ⟨o, 0, none⟩) ls.length cap) vs ls) (hk : k < ls.length) (hg : w.grownBy w1 (vs.getD k nilV).ownBlock) : w1.frozen? ⟨o, k, none⟩ = false :=
  (h.own.kept hg (h.ne hk)).frozenAt k
theorem Tb.read {w1 : World} {o cap k : Nat} (h : Tb w base (.slice (some ⟨o, 0, none⟩) ls.length cap) vs ls) (hk : k < ls.length) (hg : w.grownBy w1 (vs.getD k nilV).ownBlock) : w1.cell? ⟨o, k, none⟩ = some (vs.getD k nilV) := by
  rw [(h.own.kept hg (h.ne hk)).cellAt k (by omega), List.getD_eq_getElem?_getD, List.getElem?_eq_getElem (by have := h.len; omega)]; rfl
theorem infoRR : (Try.prog.info? 35).map (fun i => (i.zero, i.size, i.bytes)) = some (some (.slice none 0 0), 1, 24) := by kernel_rfl
/-- A new, empty row appended to a table. -/
theorem wpAppTb {w : World} {ops : Array Oper} {rest : List Oper} {o : Oper} {a : Act} {Q : Exit → Act → World → Prop} (hgd : o.guard = none) (s x : Operand)
    (ho : o.op = .call { callee := .builtin .append, args := #[s, x], argTypes := #[22, 22] })
    (base : Nat) (v : Value) (vs : List Value) (ls : List (List Int)) (hs : a.eval s = v) (hown : Tb w base v vs ls)
    (b : Nat) (c : Nat) (u : Value) (hx : a.eval x = .slice (some ⟨b, 0, none⟩) 1 c) (hcell : w.cell? ⟨b, 0, none⟩ = some u) (hu1 : u.oneCell' = true)
    (hu : w.ownsRow base 3 1 u 0 (([] : List Int).map (Value.int .i64))) (hua : ∀ j, j < ls.length → u.ownBlock = none ∨ u.ownBlock ≠ (vs.getD j nilV).ownBlock)
    (hn : ls.length ≤ 1099511627776) (hbase : base ≤ w.heap.size)
    (h : ∀ v' w', Tb w' base v' (vs ++ [u]) (ls ++ [[]]) → w.grownBy w' v.ownBlock → wpList Try.prog ops Q rest (a.put o.dst v') w') : wpList Try.prog ops Q (o :: rest) a w := by
  obtain ⟨i0, hi, hz0, hz1, hz2⟩ := info_parts infoRR
  refine wpList_append_own _ hgd s x 22 ho base 35 i0 (.slice none 0 0) 1 24 Try.underlying22 hi hz0 hz1 hz2 rfl (by decide) v ls.length _ hs hown.own ⟨b, 0, none⟩ 1 c [u] hx rfl ?_ ?_ (by unfold maxLen; omega) (by omega) hbase ?_
  · intro j u hj
    match j, hj with
    | 0, hj => simp at hj; subst hj; simpa [Addr.add] using hcell
  · intro u' hu'; simp at hu'; subst hu'; exact hu1
  · intro v' w' h1 h2 _
    exact h v' w' (hown.push hu hua h1 h2) h2

end Go.Proofs.Ytkpnfonedfomaaa
