/- Merged by program out of: AppAt Two31 TblZ TblLZ TblMZ Nil33 Clm33 Mk33 Res33 AppA Nil14 Copy31. -/
import Derived.OneCell
import Derived.Deep.AppendLies
import Derived.Deep.RegionLaw
import Derived.BigRegion
import Derived.Laws.ResultCell
import Derived.BigQuiet
import Derived.Deep.RegionHeld3
import Derived.Lib.SliceRun
import Derived.Test.YtgaggpdlpcldeaaKA
section
namespace Go.Proofs.Ytgaggpdlpcldeaa
open Go.ChangeShapes Go.WideShapes Go.ChangeAt Go.RowKit
set_option linter.unusedVariables false

theorem wpAppIntAt {w : World} {ops : Array Oper} {rest : List Oper} {o : Oper} {a : Act} {Q : Exit → Act → World → Prop} (hgd : o.guard = none) (s x : Operand)
    (ho : o.op = .call { callee := .builtin .append, args := #[s, x], argTypes := #[22, 22] })
    (base : Nat) (v : Value) (n : Nat) (xs : List Int) (hs : a.eval s = v) (hown : w.ownsRow base 3 1 v n (xs.map (Value.int .i64)))
    (b : Nat) (c : Nat) (y : Int) (hx : a.eval x = .slice (some ⟨b, 0, none⟩) 1 c) (hcell : w.cell? ⟨b, 0, none⟩ = some (.int .i64 y))
    (hn : n ≤ 1099511627776) (hbase : base ≤ w.heap.size)
    (h : ∀ v' w', w'.ownsRow base 3 1 v' (n + 1) ((xs ++ [y]).map (Value.int .i64)) → w.grownBy w' v.ownBlock → (v'.ownBlock = v.ownBlock ∨ v'.ownBlock = some w.heap.size) → wpList Try.prog ops Q rest (a.put o.dst v') w') : wpList Try.prog ops Q (o :: rest) a w := by
  obtain ⟨i0, hi, hz0, hz1, hz2⟩ := info_parts info3
  refine wpList_append_own_at _ hgd s x 22 ho base 3 i0 (.int .i64 0) 1 8 Try.underlying22 hi hz0 hz1 hz2 rfl (by decide) v n _ hs hown ⟨b, 0, none⟩ 1 c [.int .i64 y] hx rfl ?_ ?_ (by unfold maxLen; omega) (by omega) hbase ?_
  · intro j u hj
    match j, hj with
    | 0, hj => simp at hj; subst hj; simpa [Addr.add] using hcell
  · intro u hu; simp at hu; subst hu; rfl
  · intro v' w' h1 h2 _ h3
    exact h v' w' (by simpa using h1) h2 h3

end Go.Proofs.Ytgaggpdlpcldeaa
end

section
namespace Go.Proofs.Ytgaggpdlpcldeaa
open Go.ChangeShapes Go.WideShapes Go.ChangeAt Go.RowKit
set_option linter.unusedVariables false

/-- The two values lie in different blocks. -/
def Apt (u v : Value) : Prop := ∀ k, u.ownBlock = some k → v.ownBlock ≠ some k
theorem Apt.symm {u v : Value} (h : Apt u v) : Apt v u := fun k e e2 => h k e2 e
theorem Apt.cut {u : Value} {A : Option Addr} {n c n' c' : Nat} (h : Apt u (.slice A n c)) : Apt u (.slice A n' c') := by
  intro k e e2
  refine h k e ?_
  cases A with
  | none => simp [Value.ownBlock] at e2
  | some a => simpa [Value.ownBlock] using e2
theorem RowN.two {w w' : World} {B : Nat} {u v v' : Value} {l : List Int} (hu : RowN w B u l) (ha : Apt u v) (hg : w.grownBy w' v.ownBlock) (hat : v'.ownBlock = v.ownBlock ∨ v'.ownBlock = some w.heap.size) : RowN w' B u l ∧ Apt u v' := by
  refine ⟨hu.keep fun g _ hlt e => hg.block g hlt fun e2 => ha g e e2.symm, fun k e e2 => ?_⟩
  rcases hat with h | h
  · exact ha k e (h ▸ e2)
  · rw [h] at e2
    have := (World.ownsRow.lt hu k e).2
    simp only [Option.some.injEq] at e2
    omega
theorem RowN.allocN {w : World} {B : Nat} {u : Value} {l : List Int} (hu : RowN w B u l) (o : Obj) : RowN (w.alloc o) B u l := World.ownsRow.alloc hu o
theorem RowN.of_app {w : World} {B : Nat} {v : Value} {l : List Int} {y : Int} (h : w.ownsRow B 3 1 v (l.length + 1) ((l ++ [y]).map (Value.int .i64))) : RowN w B v (l ++ [y]) := by
  unfold RowN
  rw [List.length_append]
  exact h
theorem RowN.made (w : World) (B b : Nat) (hb : b = w.heap.size) (hB : B ≤ b) : RowN (w.alloc (.cells #[] 3)) B (.slice (some ⟨b, 0, none⟩) 0 0) [] := by
  subst hb
  exact World.ownsRow_made w #[] 0 hB (Nat.zero_le _) (by simp)
/-- The length of a slice. -/
def vLen : Value → Nat
  | .slice _ n _ => n
  | _ => 0

end Go.Proofs.Ytgaggpdlpcldeaa
end

section
namespace Go.Proofs.Ytgaggpdlpcldeaa
open Go.ChangeShapes Go.WideShapes Go.ChangeAt Go.RowKit
set_option linter.unusedVariables false

abbrev nilV : Value := .slice none 0 0
theorem row_ty {w : World} {base sz n : Nat} {e : TypeId} {v : Value} {xs : List Value} (h : w.ownsRow base e sz v n xs) {o : Nat} (ho : v.ownBlock = some o) : ∃ cur, w.heap[o]? = some (.cells cur e (0, 0)) := by
  rcases h.2 with ⟨e, -⟩ | ⟨o', cap, cur, e, hb, hh, -⟩
  · subst e; cases ho
  · subst e
    simp only [Value.ownBlock, Option.some.injEq] at ho
    subst ho
    exact ⟨cur, hh⟩
/-- A table's own block is no row's block. -/
theorem ty_ne {w : World} {base base' n m : Nat} {v u : Value} {xs ys : List Value} (h : w.ownsRow base 22 1 v n xs) (hu : w.ownsRow base' 3 1 u m ys) : v.ownBlock = none ∨ v.ownBlock ≠ u.ownBlock := by
  rcases hv : v.ownBlock with _ | o
  · exact .inl rfl
  · refine .inr fun e => ?_
    obtain ⟨c1, h1⟩ := row_ty h hv
    obtain ⟨c2, h2⟩ := row_ty hu e.symm
    rw [h1] at h2
    simp at h2
theorem sw {a b : Option Nat} (h : a = none ∨ a ≠ b) : b = none ∨ b ≠ a := by
  rcases h with rfl | h
  · rcases b with _ | b
    · exact .inl rfl
    · exact .inr (by simp)
  · exact .inr (Ne.symm h)
theorem getD_set_me {α : Type} (l : List α) (k : Nat) (x d : α) (h : k < l.length) : (l.set k x).getD k d = x := by simp [List.getD, h]
theorem getD_set_ot {α : Type} (l : List α) (k j : Nat) (x d : α) (h : j ≠ k) : (l.set k x).getD j d = l.getD j d := by
  rw [List.getD_eq_getElem?_getD, List.getElem?_set_ne (by omega), ← List.getD_eq_getElem?_getD]
theorem getD_app_l {α : Type} (l m : List α) (j : Nat) (d : α) (h : j < l.length) : (l ++ m).getD j d = l.getD j d := by
  rw [List.getD_eq_getElem?_getD, List.getElem?_append_left h, ← List.getD_eq_getElem?_getD]
theorem getD_app_e {α : Type} (l : List α) (x d : α) : (l ++ [x]).getD l.length d = x := by simp [List.getD]

/-- v is a table of the rows ls, which are the slices vs. -/
structure Tb (w : World) (base : Nat) (v : Value) (vs : List Value) (ls : List (List Int)) : Prop where
  len : vs.length = ls.length
  own : w.ownsRow base 22 1 v ls.length vs
  row : ∀ j, j < ls.length → w.ownsRow base 3 1 (vs.getD j nilV) (ls.getD j []).length ((ls.getD j []).map (Value.int .i64))
  apart : ∀ j k, j < ls.length → k < ls.length → j ≠ k → (vs.getD j nilV).ownBlock = none ∨ (vs.getD j nilV).ownBlock ≠ (vs.getD k nilV).ownBlock

variable {w : World} {base : Nat} {v : Value} {vs : List Value} {ls : List (List Int)}
theorem Tb.nil (w : World) (base : Nat) : Tb w base (.slice none 0 0) [] [] :=
  ⟨rfl, World.ownsRow_nil _ _ _ _, fun j h => by simp at h, fun j k h => by simp at h⟩
theorem Tb.made (w : World) (base : Nat) (hb : base ≤ w.heap.size) : Tb (w.alloc (.cells #[] 22)) base (.slice (some ⟨w.heap.size, 0, none⟩) 0 0) [] [] :=
  ⟨rfl, World.ownsRow_made w #[] 0 hb (Nat.zero_le _) (by simp), fun j h => by simp at h, fun j k h => by simp at h⟩
theorem Tb.ne (h : Tb w base v vs ls) {j : Nat} (hj : j < ls.length) : v.ownBlock = none ∨ v.ownBlock ≠ (vs.getD j nilV).ownBlock := ty_ne h.own (h.row j hj)
theorem Tb.kept {w' : World} {row : Option Nat} (h : Tb w base v vs ls) (hg : w.grownBy w' row) (h1 : v.ownBlock = none ∨ v.ownBlock ≠ row) (h2 : ∀ j, j < ls.length → (vs.getD j nilV).ownBlock = none ∨ (vs.getD j nilV).ownBlock ≠ row) : Tb w' base v vs ls :=
  ⟨h.len, h.own.kept hg h1, fun j hj => (h.row j hj).kept hg (h2 j hj), h.apart⟩
theorem Tb.alloc (h : Tb w base v vs ls) (o : Obj) : Tb (w.alloc o) base v vs ls :=
  ⟨h.len, h.own.alloc o, fun j hj => (h.row j hj).alloc o, h.apart⟩
theorem Tb.drew (h : Tb w base v vs ls) : Tb w.drew base v vs ls := ⟨h.len, h.own, h.row, h.apart⟩
theorem Tb.drewN (h : Tb w base v vs ls) (n : Nat) : Tb (w.drewN n) base v vs ls := by
  induction n with
  | zero => exact h
  | succ n ih => exact ih.drew
theorem Tb.lt (h : Tb w base v vs ls) {j b : Nat} (hj : j < ls.length) (hb : (vs.getD j nilV).ownBlock = some b) : base ≤ b ∧ b < w.heap.size := (h.row j hj).lt b hb
theorem Tb.form (h : Tb w base v vs ls) : ∃ A cap, v = .slice A ls.length cap := by
  rcases h.own.2 with ⟨e, h0⟩ | ⟨g, cap, cur, e, -⟩
  · exact ⟨none, 0, by rw [e, h0]⟩
  · exact ⟨_, cap, e⟩
theorem Tb.cell (h : Tb w base v vs ls) {j : Nat} (hj : j < ls.length) :
    ∃ o cap, v = .slice (some ⟨o, 0, none⟩) ls.length cap ∧ base ≤ o ∧ o < w.heap.size ∧ w.cell? ⟨o, j, none⟩ = some (vs.getD j nilV) ∧ w.frozen? ⟨o, j, none⟩ = false := by
  obtain ⟨o, cap, e, h1, h2⟩ := h.own.form (by omega)
  have hown := h.own
  rw [e] at hown
  refine ⟨o, cap, e, h1, h2, ?_, hown.frozenAt j⟩
  rw [hown.cellAt j (by omega), List.getD_eq_getElem?_getD, List.getElem?_eq_getElem (by have := h.len; omega)]
  rfl
theorem Tb.push {w' : World} {v' u : Value} (h : Tb w base v vs ls) (hu : w.ownsRow base 3 1 u 0 (([] : List Int).map (Value.int .i64))) (hua : ∀ j, j < ls.length → u.ownBlock = none ∨ u.ownBlock ≠ (vs.getD j nilV).ownBlock)
    (hown : w'.ownsRow base 22 1 v' (ls.length + 1) (vs ++ [u])) (hg : w.grownBy w' v.ownBlock) : Tb w' base v' (vs ++ [u]) (ls ++ [[]]) := by
  have hl := h.len
  have eV : ∀ j, j < ls.length → (vs ++ [u]).getD j nilV = vs.getD j nilV := fun j hj => getD_app_l _ _ _ _ (by omega)
  have eL : ∀ j, j < ls.length → (ls ++ [[]]).getD j [] = ls.getD j [] := fun j hj => getD_app_l _ _ _ _ hj
  have eU : (vs ++ [u]).getD ls.length nilV = u := by rw [← hl]; exact getD_app_e _ _ _
  have eE : (ls ++ [[]]).getD ls.length [] = [] := getD_app_e _ _ _
  have e1 : (ls ++ [([] : List Int)]).length = ls.length + 1 := by simp
  refine ⟨by simp [hl], by rw [e1]; exact hown, fun j hj => ?_, fun j k hj hk hjk => ?_⟩
  · rw [e1] at hj
    by_cases e : j < ls.length
    · rw [eV j e, eL j e]
      exact (h.row j e).kept hg (sw (h.ne e))
    · obtain rfl : j = ls.length := by omega
      rw [eU, eE]
      exact hu.kept hg (sw (ty_ne h.own hu))
  · rw [e1] at hj hk
    by_cases e : j < ls.length
    · rw [eV j e]
      by_cases e2 : k < ls.length
      · rw [eV k e2]; exact h.apart j k e e2 hjk
      · obtain rfl : k = ls.length := by omega
        rw [eU]; exact sw (hua j e)
    · obtain rfl : j = ls.length := by omega
      rw [eU, eV k (by omega)]
      exact hua k (by omega)
theorem Tb.put {w1 : World} {v1 : Value} {o cap k : Nat} {y : Int} (h : Tb w base (.slice (some ⟨o, 0, none⟩) ls.length cap) vs ls) (hk : k < ls.length)
    (h1 : w1.ownsRow base 3 1 v1 ((ls.getD k []).length + 1) ((ls.getD k [] ++ [y]).map (Value.int .i64))) (hg : w.grownBy w1 (vs.getD k nilV).ownBlock)
    (hat : v1.ownBlock = (vs.getD k nilV).ownBlock ∨ v1.ownBlock = some w.heap.size) :
    Tb (w1.setCell ⟨o, k, none⟩ v1) base (.slice (some ⟨o, 0, none⟩) ls.length cap) (vs.set k v1) (ls.set k (ls.getD k [] ++ [y])) := by
  have hl := h.len
  have hown1 := h.own.kept hg (h.ne hk)
  have hno : ∀ {u : Value} {m : Nat} {ys : List Value}, w1.ownsRow base 3 1 u m ys → u.ownBlock ≠ some o := fun hu e => by
    rcases ty_ne hown1 hu with h | h
    · simp [Value.ownBlock] at h
    · exact h (by rw [e]; rfl)
  refine ⟨by simp [hl], by rw [List.length_set]; exact (hown1.stored k v1).1, fun j hj => ?_, fun j m hj hm hjm => ?_⟩
  · rw [List.length_set] at hj
    by_cases e : j = k
    · subst e
      rw [getD_set_me _ _ _ _ (by omega), getD_set_me _ _ _ _ (by omega), List.length_append, List.length_singleton]
      exact ownsRow_setCell_other h1 (hno h1) _
    · rw [getD_set_ot _ _ _ _ _ e, getD_set_ot _ _ _ _ _ e]
      have hr := (h.row j hj).kept hg (h.apart j k hj hk e)
      exact ownsRow_setCell_other hr (hno hr) _
  · rw [List.length_set] at hj hm
    have key : ∀ j, j < ls.length → j ≠ k → v1.ownBlock = none ∨ v1.ownBlock ≠ (vs.getD j nilV).ownBlock := fun j hj e => by
      rcases hat with h2 | h2
      · rw [h2]; exact h.apart k j hk hj (Ne.symm e)
      · refine .inr fun e2 => ?_
        have := (h.lt hj (e2.symm.trans h2)).2
        omega
    by_cases e : j = k
    · subst e
      rw [getD_set_me _ _ _ _ (by omega), getD_set_ot _ _ _ _ _ (Ne.symm hjm)]
      exact key m hm (Ne.symm hjm)
    · rw [getD_set_ot _ _ _ _ _ e]
      by_cases e2 : m = k
      · subst e2
        rw [getD_set_me _ _ _ _ (by omega)]
        exact sw (key j hj e)
      · rw [getD_set_ot _ _ _ _ _ e2]
        exact h.apart j m hj hm hjm

theorem Tb.free {w1 : World} {o cap k : Nat} (h : Tb w base (.slice (some ⟨o, 0, none⟩) ls.length cap) vs ls) (hk : k < ls.length) (hg : w.grownBy w1 (vs.getD k nilV).ownBlock) : w1.frozen? ⟨o, k, none⟩ = false :=
  (h.own.kept hg (h.ne hk)).frozenAt k
theorem Tb.read {w1 : World} {o cap k : Nat} (h : Tb w base (.slice (some ⟨o, 0, none⟩) ls.length cap) vs ls) (hk : k < ls.length) (hg : w.grownBy w1 (vs.getD k nilV).ownBlock) : w1.cell? ⟨o, k, none⟩ = some (vs.getD k nilV) := by
  rw [(h.own.kept hg (h.ne hk)).cellAt k (by omega), List.getD_eq_getElem?_getD, List.getElem?_eq_getElem (by have := h.len; omega)]; rfl
theorem infoRR : (Try.prog.info? 22).map (fun i => (i.zero, i.size, i.bytes)) = some (some (.slice none 0 0), 1, 24) := by kernel_rfl
/-- A new, empty row appended to a table. -/
theorem wpAppTb {w : World} {ops : Array Oper} {rest : List Oper} {o : Oper} {a : Act} {Q : Exit → Act → World → Prop} (hgd : o.guard = none) (s x : Operand)
    (ho : o.op = .call { callee := .builtin .append, args := #[s, x], argTypes := #[24, 24] })
    (base : Nat) (v : Value) (vs : List Value) (ls : List (List Int)) (hs : a.eval s = v) (hown : Tb w base v vs ls)
    (b : Nat) (c : Nat) (u : Value) (hx : a.eval x = .slice (some ⟨b, 0, none⟩) 1 c) (hcell : w.cell? ⟨b, 0, none⟩ = some u) (hu1 : u.oneCell' = true)
    (hu : w.ownsRow base 3 1 u 0 (([] : List Int).map (Value.int .i64))) (hua : ∀ j, j < ls.length → u.ownBlock = none ∨ u.ownBlock ≠ (vs.getD j nilV).ownBlock)
    (hn : ls.length ≤ 1099511627776) (hbase : base ≤ w.heap.size)
    (h : ∀ v' w', Tb w' base v' (vs ++ [u]) (ls ++ [[]]) → w.grownBy w' v.ownBlock → wpList Try.prog ops Q rest (a.put o.dst v') w') : wpList Try.prog ops Q (o :: rest) a w := by
  obtain ⟨i0, hi, hz0, hz1, hz2⟩ := info_parts infoRR
  refine wpList_append_own _ hgd s x 24 ho base 22 i0 (.slice none 0 0) 1 24 Try.underlying24 hi hz0 hz1 hz2 rfl (by decide) v ls.length _ hs hown.own ⟨b, 0, none⟩ 1 c [u] hx rfl ?_ ?_ (by unfold maxLen; omega) (by omega) hbase ?_
  · intro j u hj
    match j, hj with
    | 0, hj => simp at hj; subst hj; simpa [Addr.add] using hcell
  · intro u' hu'; simp at hu'; subst hu'; exact hu1
  · intro v' w' h1 h2 _
    exact h v' w' (hown.push hu hua h1 h2) h2

end Go.Proofs.Ytgaggpdlpcldeaa
end

section
namespace Go.Proofs.Ytgaggpdlpcldeaa
open Go.ChangeShapes Go.WideShapes Go.ChangeAt Go.RowKit
set_option linter.unusedVariables false

/-- v is a table of the rows ls, all of whose blocks lie from lo on and below hi. -/
def OwnT (w : World) (lo hi : Nat) (v : Value) (ls : List (List Int)) : Prop :=
  ∃ A cap, v = .slice A ls.length cap ∧ ∀ j, j < ls.length → ∃ o rv, A = some ⟨o, 0, none⟩ ∧ lo ≤ o ∧ o < hi ∧ w.cell? ⟨o, j, none⟩ = some rv ∧ OwnI w lo hi rv (ls.getD j [])
theorem OwnT.of {w : World} {base : Nat} {v : Value} {vs : List Value} {ls : List (List Int)} (h : Tb w base v vs ls) : OwnT w base w.heap.size v ls := by
  obtain ⟨A, cap, e⟩ := h.form
  refine ⟨A, cap, e, fun j hj => ?_⟩
  obtain ⟨o, c, e2, h1, h2, h3, -⟩ := h.cell hj
  rw [e] at e2
  simp only [Value.slice.injEq] at e2
  exact ⟨o, _, e2.1, h1, h2, h3, OwnI.of_row (h.row j hj)⟩
theorem OwnT.keep {w w' : World} {lo hi B : Nat} {v : Value} {ls : List (List Int)} (h : OwnT w lo hi v ls) (hb : Below B w w') (hB : hi ≤ B) : OwnT w' lo hi v ls := by
  obtain ⟨A, cap, e, h⟩ := h
  refine ⟨A, cap, e, fun j hj => ?_⟩
  obtain ⟨o, rv, h1, h2, h3, h4, h5⟩ := h j hj
  exact ⟨o, rv, h1, h2, h3, (hb.cell (p := ⟨o, j, none⟩) (by show o < B; omega)).trans h4, h5.keep hb hB⟩
theorem OwnT.cell {w : World} {lo hi : Nat} {A : Option Addr} {n cap : Nat} {ls : List (List Int)} (h : OwnT w lo hi (.slice A n cap) ls) {j : Nat} (hj : j < ls.length) :
    ∃ o rv, A = some ⟨o, 0, none⟩ ∧ lo ≤ o ∧ o < hi ∧ w.cell? ⟨o, j, none⟩ = some rv ∧ OwnI w lo hi rv (ls.getD j []) := by
  obtain ⟨A', c', e, h⟩ := h
  simp only [Value.slice.injEq] at e
  obtain ⟨rfl, -, -⟩ := e
  exact h j hj

set_option maxRecDepth 100000 in
set_option maxHeartbeats 1600000 in
theorem eqSS_same (v u : Value) (lo hi lo' hi' : Nat) (ls : List (List Int)) (w : World) (hv : OwnT w lo hi v ls) (hu : OwnT w lo' hi' u ls) (h1 : hi ≤ w.heap.size) (h2 : hi' ≤ w.heap.size) (hl : ls.length ≤ 1099511627776) (hr : ∀ j, (ls.getD j []).length ≤ 1099511627776) :
    Calls Try.prog 16 #[v, u] w fun e w' => e = .returned (.bool true) ∧ Below w.heap.size w w' := by
  obtain ⟨A1, c1, rfl, k1⟩ := id hv
  obtain ⟨A2, c2, rfl, k2⟩ := id hu
  clear k1 k2
  have HV := Lib.hid hv
  have HU := Lib.hid hu
  have HR := Lib.hid hr
  clear hv hu hr
  go_enter Try.func16, Try.ntmps16
  go_wp2
  go_loopw [5] (fun x wr => ∃ j : Nat, j ≤ ls.length ∧ x = .int .i64 j ∧ Below w.heap.size w wr) (fun x _ => ls.length - (intOf x).toNat)
  case atStart => exact ⟨0, Nat.zero_le _, rfl, Below.refl _ _⟩
  case round =>
    obtain ⟨j, hj, rfl, hb⟩ := hrel
    have HB := Lib.hid hb
    have hB := hb.size
    clear hb
    by_cases hlt : j < ls.length
    · obtain ⟨o1, r1, rfl, -, -, hc1, ho1⟩ := (HV.out.keep HB.out h1).cell hlt
      obtain ⟨o2, r2, rfl, -, -, hc2, ho2⟩ := (HU.out.keep HB.out h2).cell hlt
      have hji : (j : Int) < (ls.length : Int) := by omega
      have HRJ := Lib.hid (HR.out j)
      generalize ls.getD j [] = l at *
      have HE := Lib.hid (eqI_same r1 r2 lo hi lo' hi' l wr.drew (ho1.keep (Below.refl wr.heap.size wr).drew (by omega)) (ho2.keep (Below.refl wr.heap.size wr).drew (by omega)) HRJ.out)
      have HE0 := Lib.hid (eqI_same r1 r2 lo hi lo' hi' l wr ho1 ho2 HRJ.out)
      clear ho1 ho2
      go_wp2_with fail
      go_region_law (go_simp; go_at_call 8; (first | (with_reducible refine HE.out.mono ?_) | (with_reducible refine HE0.out.mono ?_)); rintro e w3 ⟨rfl, hb3⟩; have HB3 := Lib.hid hb3; clear hb3)
      all_goals go_wp2
      all_goals exact ⟨⟨j + 1, by omega, by simp, HB.out.drew.trans (HB3.out.mono hB)⟩, by simp [intOf]; omega⟩
    · obtain rfl : j = ls.length := by omega
      go_wp2
      go_ret
      exact ⟨rfl, HB.out⟩

/-- The rows of a table, marked one after another from k on. -/
def mkT (k : Int) : List (List Int) → List (List Int)
  | [] => []
  | l :: ls => marks k l.length :: mkT (k + l.length) ls
def tot : List (List Int) → Nat
  | [] => 0
  | l :: ls => l.length + tot ls
theorem mkT_len (ls : List (List Int)) : ∀ k, (mkT k ls).length = ls.length := by
  induction ls with
  | nil => intro k; rfl
  | cons l ls ih => intro k; simp [mkT, ih]
theorem mkT_at (ls : List (List Int)) : ∀ k j, j < ls.length → (mkT k ls).getD j [] = marks (k + (tot (ls.take j) : Int)) (ls.getD j []).length := by
  induction ls with
  | nil => intro k j h; simp at h
  | cons l ls ih =>
    intro k j h
    cases j with
    | zero => simp [mkT, tot]
    | succ j =>
      have := ih (k + l.length) j (by simpa using h)
      simp only [mkT, List.getD_cons_succ, List.take_succ_cons, tot] at this ⊢
      rw [this]
      congr 1
      omega
theorem tot_take (ls : List (List Int)) : ∀ j, j < ls.length → tot (ls.take (j + 1)) = tot (ls.take j) + (ls.getD j []).length := by
  induction ls with
  | nil => intro j h; simp at h
  | cons l ls ih =>
    intro j h
    cases j with
    | zero => simp [tot]
    | succ j =>
      have := ih j (by simpa using h)
      simp only [List.getD_cons_succ, List.take_succ_cons, tot] at this ⊢
      omega
theorem tot_le (ls : List (List Int)) : ∀ j, tot (ls.take j) ≤ tot ls := by
  induction ls with
  | nil => intro j; simp [tot]
  | cons l ls ih =>
    intro j
    cases j with
    | zero => simp [tot]
    | succ j => have := ih j; simp only [List.take_succ_cons, tot]; omega

set_option maxRecDepth 100000 in
set_option maxHeartbeats 1600000 in
theorem heldSS (v : Value) (lo hi : Nat) (ls : List (List Int)) (k : Int) (w : World) (hv : OwnT w lo hi v (mkT k ls)) (h1 : hi ≤ w.heap.size) (hl : ls.length ≤ 1099511627776) (ht : tot ls ≤ 1099511627) (hk0 : 0 ≤ k) (hk : k ≤ 1099511627) :
    Calls Try.prog 21 #[v, .int .i64 k] w fun e w' => e = .returned (.int .i64 (k + tot ls)) ∧ Below w.heap.size w w' := by
  obtain ⟨A1, c1, e, k1⟩ := id hv
  clear k1
  rw [mkT_len] at e
  subst e
  have HV := Lib.hid hv
  clear hv
  go_enter Try.func21, Try.ntmps21
  go_wp2
  go_loopw [1, 5] (fun x y wr => ∃ j : Nat, j ≤ ls.length ∧ y = .int .i64 j ∧ x = .int .i64 (k + (tot (ls.take j) : Int)) ∧ Below w.heap.size w wr) (fun _ y _ => ls.length - (intOf y).toNat)
  case atStart => exact ⟨0, Nat.zero_le _, rfl, by simp [tot], Below.refl _ _⟩
  case round =>
    obtain ⟨j, hj, rfl, rfl, hb⟩ := hrel
    have HB := Lib.hid hb
    have hB := hb.size
    clear hb
    by_cases hlt : j < ls.length
    · obtain ⟨o1, r1, rfl, -, -, hc1, ho1⟩ := (HV.out.keep HB.out h1).cell (j := j) (by rw [mkT_len]; exact hlt)
      rw [mkT_at _ _ _ hlt] at ho1
      have hji : (j : Int) < (ls.length : Int) := by omega
      have HTJ := Lib.hid (tot_take ls j hlt)
      have h3 := tot_le ls j
      have h4 := tot_le ls (j + 1)
      rw [HTJ.out] at h4
      generalize tot (ls.take j) = t at *
      generalize ls.getD j [] = l at *
      have hn0 : ¬ (k + (t : Int) + (l.length : Int) < 0) := by omega
      have HE := Lib.hid (heldI r1 lo hi l.length (k + (t : Int)) wr ho1 (by omega) (by omega) (by omega))
      have HE1 := Lib.hid (heldI r1 lo hi l.length (k + (t : Int)) wr.drew (ho1.keep (Below.refl wr.heap.size wr).drew (by omega)) (by omega) (by omega) (by omega))
      clear ho1
      go_wp2_with fail
      (with_reducible refine HE.out.mono ?_)
      rintro e w' ⟨rfl, rfl⟩
      go_wp2
      exact ⟨⟨j + 1, by omega, by simp, by rw [HTJ.out]; congr 1; omega, HB.out⟩, by simp [intOf]; omega⟩
    · obtain rfl : j = ls.length := by omega
      go_wp2
      go_ret
      exact ⟨by rw [List.take_length]; rfl, HB.out⟩

end Go.Proofs.Ytgaggpdlpcldeaa
end

section
namespace Go.Proofs.Ytgaggpdlpcldeaa
open Go.ChangeShapes Go.WideShapes Go.ChangeAt Go.RowKit
set_option linter.unusedVariables false

def loB (u : Value) : Nat := match u.ownBlock with | none => 0 | some g => g
def hiB (u : Value) : Nat := match u.ownBlock with | none => 0 | some g => g + 1
theorem row_own {w : World} {base n : Nat} {u : Value} {xs : List Int} (h : w.ownsRow base 3 1 u n (xs.map (Value.int .i64))) : OwnI w (loB u) (hiB u) u xs := by
  obtain ⟨A, cap, rfl, h'⟩ := OwnI.of_row h
  refine ⟨A, cap, rfl, ?_⟩
  rcases h' with h0 | ⟨g, C, -, -, rfl, hh, hc⟩
  · exact .inl h0
  · exact .inr ⟨g, C, Nat.le_refl _, Nat.lt_succ_self _, rfl, hh, hc⟩
theorem apart_lohi {a b : Value} (h : a.ownBlock = none ∨ a.ownBlock ≠ b.ownBlock) : hiB a ≤ loB b ∨ hiB b ≤ loB a := by
  unfold hiB loB
  rcases ha : a.ownBlock with _ | x <;> rcases hb : b.ownBlock with _ | y <;> simp only []
  · omega
  · omega
  · omega
  · rw [ha, hb] at h
    have : x ≠ y := by
      rcases h with h | h
      · cases h
      · exact fun e => h (by rw [e])
    omega
theorem own_wide {w : World} {u : Value} {xs : List Int} {base H : Nat} (h : OwnI w (loB u) (hiB u) u xs) (hlt : ∀ b, u.ownBlock = some b → base ≤ b ∧ b < H) : OwnI w base H u xs := by
  obtain ⟨A, cap, e, h'⟩ := h
  refine ⟨A, cap, e, ?_⟩
  rcases h' with h0 | ⟨g, C, h1, h2, rfl, hh, hc⟩
  · exact .inl h0
  · have := hlt g (by rw [e]; rfl)
    exact .inr ⟨g, C, this.1, this.2, rfl, hh, hc⟩

theorem low_lohi {u : Value} {base : Nat} (h : ∀ b, u.ownBlock = some b → base ≤ b) (k : Nat) (hk : k < base) : k < loB u ∨ hiB u ≤ k := by
  unfold hiB loB
  rcases hu : u.ownBlock with _ | x <;> simp only []
  · omega
  · have := h x hu
    omega
def mkA (k : Int) (j : Nat) (ls : List (List Int)) (m : Nat) : List Int := if m < j then marks (k + (tot (ls.take m) : Int)) (ls.getD m []).length else ls.getD m []

set_option maxRecDepth 100000 in
set_option maxHeartbeats 1600000 in
theorem markSS (v : Value) (vs : List Value) (base : Nat) (ls : List (List Int)) (k : Int) (w : World) (hv : Tb w base v vs ls) (hbase : base ≤ w.heap.size) (hl : ls.length ≤ 1099511627776) (ht : tot ls ≤ 1099511627) (hk0 : 0 ≤ k) (hk : k ≤ 1099511627) :
    Calls Try.prog 18 #[v, .int .i64 k] w fun e w' => e = .returned (.int .i64 (k + tot ls)) ∧ OwnT w' base w.heap.size v (mkT k ls) ∧ Below base w w' := by
  have HV := Lib.hid hv
  obtain ⟨A, cap, rfl⟩ := hv.form
  have HR0 := Lib.hid (fun m (hm : m < ls.length) => row_own (HV.out.row m hm))
  have HC0 := Lib.hid (fun m (hm : m < ls.length) => HV.out.cell hm)
  clear hv
  go_enter Try.func18, Try.ntmps18
  go_wp2
  go_loopw [1, 5] (fun x y wr => ∃ j : Nat, j ≤ ls.length ∧ y = .int .i64 j ∧ x = .int .i64 (k + (tot (ls.take j) : Int)) ∧ Below base w wr ∧ (∀ m, m < ls.length → ∃ o, A = some ⟨o, 0, none⟩ ∧ base ≤ o ∧ o < w.heap.size ∧ wr.cell? ⟨o, m, none⟩ = some (vs.getD m nilV)) ∧ (∀ m, m < ls.length → OwnI wr (loB (vs.getD m nilV)) (hiB (vs.getD m nilV)) (vs.getD m nilV) (mkA k j ls m))) (fun _ y _ => ls.length - (intOf y).toNat)
  case atStart =>
    refine ⟨0, Nat.zero_le _, rfl, by simp [tot], Below.refl _ _, fun m hm => ?_, fun m hm => ?_⟩
    · obtain ⟨o, c, e, h1, h2, h3, -⟩ := HC0.out m hm
      simp only [Value.slice.injEq] at e
      exact ⟨o, e.1, h1, h2, h3⟩
    · rw [mkA, if_neg (Nat.not_lt_zero _)]; exact HR0.out m hm
  case round =>
    obtain ⟨j, hj, rfl, rfl, hb, hcs, hrs⟩ := hrel
    have HB := Lib.hid hb
    have HCS := Lib.hid hcs
    have HRS := Lib.hid hrs
    have hB := hb.size
    clear hb hcs hrs HR0 HC0
    by_cases hlt : j < ls.length
    · obtain ⟨o1, rfl, ho1, ho2, hc1⟩ := HCS.out j hlt
      have hrj := HRS.out j hlt
      rw [mkA, if_neg (Nat.lt_irrefl _)] at hrj
      have hji : (j : Int) < (ls.length : Int) := by omega
      have HTJ := Lib.hid (tot_take ls j hlt)
      have h3 := tot_le ls j
      have h4 := tot_le ls (j + 1)
      rw [HTJ.out] at h4
      have HAP := Lib.hid (fun m (hm : m < ls.length) (e : m ≠ j) => apart_lohi (HV.out.apart m j hm hlt e))
      have HAO := Lib.hid (apart_lohi (HV.out.ne hlt))
      have HMK := Lib.hid (show mkA k (j + 1) ls j = marks (k + (tot (ls.take j) : Int)) (ls.getD j []).length by rw [mkA, if_pos (Nat.lt_succ_self _)])
      generalize tot (ls.take j) = t at *
      generalize ls.getD j [] = l at *
      have HRJ := Lib.hid (show ∃ r, vs.getD j nilV = r from ⟨_, rfl⟩)
      obtain ⟨r, hr⟩ := HRJ.out
      have HLR := Lib.hid (fun b (hb : (vs.getD j nilV).ownBlock = some b) => (HV.out.lt hlt hb).1)
      rw [hr] at hc1 hrj HAP HAO HLR
      have HRV := Lib.hid hr
      clear hr HRJ
      have HE := Lib.hid (markO r (loB r) (hiB r) l (k + (t : Int)) wr hrj (by omega) (by omega) (by omega))
      clear hrj
      go_wp2_with fail
      (with_reducible refine HE.out.mono ?_)
      rintro e w' ⟨rfl, ho, ha⟩
      have HO := Lib.hid ho
      have HA := Lib.hid ha
      clear ho ha
      go_wp2
      refine ⟨⟨j + 1, by omega, by simp, by rw [HTJ.out]; congr 1; omega, ?_, fun m hm => ?_, fun m hm => ?_⟩, by simp [intOf]; omega⟩
      · exact HB.out.trans ⟨HA.out.os, HA.out.tape, HA.out.output, HA.out.size, fun q hq => HA.out.block q (low_lohi HLR.out q hq)⟩
      · obtain ⟨o, e, g1, g2, g3⟩ := HCS.out m hm
        simp only [Option.some.injEq, Addr.mk.injEq] at e
        obtain ⟨rfl, -⟩ := e
        refine ⟨_, rfl, g1, g2, (World.cell?_of_block (a := ⟨_, m, none⟩) (HA.out.block _ ?_)).trans g3⟩
        have h := HAO.out
        have e1 : ∀ x n c, hiB (.slice (some ⟨x, 0, none⟩) n c) = x + 1 := fun _ _ _ => rfl
        have e2 : ∀ x n c, loB (.slice (some ⟨x, 0, none⟩) n c) = x := fun _ _ _ => rfl
        rw [e1, e2] at h
        exact h.elim (fun h => .inl h) (fun h => .inr h)
      · by_cases e : m = j
        · subst e
          rw [HRV.out, HMK.out]; exact HO.out
        · have e2 : mkA k (j + 1) ls m = mkA k j ls m := by
            unfold mkA
            by_cases h : m < j
            · rw [if_pos h, if_pos (by omega)]
            · rw [if_neg h, if_neg (by omega)]
          rw [e2]
          exact (HRS.out m hm).apart HA.out (HAP.out m hm e)
    · obtain rfl : j = ls.length := by omega
      go_wp2
      go_ret
      refine ⟨by rw [List.take_length]; rfl, ⟨A, cap, by rw [mkT_len], fun m hm => ?_⟩, HB.out⟩
      rw [mkT_len] at hm
      obtain ⟨o, e, g1, g2, g3⟩ := HCS.out m hm
      have h := HRS.out m hm
      rw [mkA, if_pos hm] at h
      exact ⟨o, _, e, g1, g2, g3, by rw [mkT_at _ _ _ hm]; exact own_wide h (fun b hb => HV.out.lt hm hb)⟩

end Go.Proofs.Ytgaggpdlpcldeaa
end

section
namespace Go.Proofs.Ytgaggpdlpcldeaa
open Go.ChangeShapes Go.WideShapes Go.ChangeAt Go.RowKit
set_option linter.unusedVariables false

set_option maxRecDepth 100000 in
theorem eqStr0 (w : World) : Calls Try.prog 15 #[.slice none 0 0, .slice none 0 0] w fun e w' => e = .returned (.bool true) ∧ w = w' := by
  go_enter Try.func15, Try.ntmps15
  go_wp2
  refine wp_loop_rounds 1 ?_
  rw [rounds_succ]
  go_wp2
  go_ret
  exact ⟨rfl, rfl⟩
set_option maxRecDepth 100000 in
theorem eqTab0 (w : World) : Calls Try.prog 16 #[.slice none 0 0, .slice none 0 0] w fun e w' => e = .returned (.bool true) ∧ w = w' := by
  go_enter Try.func16, Try.ntmps16
  go_wp2
  refine wp_loop_rounds 1 ?_
  rw [rounds_succ]
  go_wp2
  go_ret
  exact ⟨rfl, rfl⟩
set_option maxRecDepth 100000 in
theorem markStr0 (k : Int) (w : World) : Calls Try.prog 17 #[.slice none 0 0, .int .i64 k] w fun e w' => e = .returned (.int .i64 k) ∧ w = w' := by
  go_enter Try.func17, Try.ntmps17
  go_wp2
  refine wp_loop_rounds 1 ?_
  rw [rounds_succ]
  go_wp2
  go_ret
  exact ⟨rfl, rfl⟩
set_option maxRecDepth 100000 in
theorem markTab0 (k : Int) (w : World) : Calls Try.prog 18 #[.slice none 0 0, .int .i64 k] w fun e w' => e = .returned (.int .i64 k) ∧ w = w' := by
  go_enter Try.func18, Try.ntmps18
  go_wp2
  refine wp_loop_rounds 1 ?_
  rw [rounds_succ]
  go_wp2
  go_ret
  exact ⟨rfl, rfl⟩
set_option maxRecDepth 100000 in
theorem heldStr0 (k : Int) (w : World) : Calls Try.prog 19 #[.slice none 0 0, .int .i64 k] w fun e w' => e = .returned (.int .i64 k) ∧ w = w' := by
  go_enter Try.func19, Try.ntmps19
  go_wp2
  refine wp_loop_rounds 1 ?_
  rw [rounds_succ]
  go_wp2
  go_ret
  exact ⟨rfl, rfl⟩
set_option maxRecDepth 100000 in
theorem heldTab0 (k : Int) (w : World) : Calls Try.prog 21 #[.slice none 0 0, .int .i64 k] w fun e w' => e = .returned (.int .i64 k) ∧ w = w' := by
  go_enter Try.func21, Try.ntmps21
  go_wp2
  refine wp_loop_rounds 1 ?_
  rw [rounds_succ]
  go_wp2
  go_ret
  exact ⟨rfl, rfl⟩

end Go.Proofs.Ytgaggpdlpcldeaa
end

section
namespace Go.Proofs.Ytgaggpdlpcldeaa
open Go.ChangeShapes Go.WideShapes Go.ChangeAt Go.RowKit
set_option linter.unusedVariables false

/-- A claim without texts and rows. -/
abbrev clV (k : Int) (f : ByteArray) (u v : Value) : Value := .agg #[.int .i64 k, .string f, .string ⟨#[]⟩, .slice none 0 0, u, v, .slice none 0 0]
abbrev clO (k : Int) (f : ByteArray) (u v : Value) : Obj := .cells #[.int .i64 k, .string f, .string ⟨#[]⟩, .slice none 0 0, u, v, .slice none 0 0] 26
/-- The seven cells of a claim in a block. -/
structure Cl (W : World) (b : Nat) (k : Int) (f : ByteArray) (u v : Value) : Prop where
  c0 : W.cell? ⟨b, 0, none⟩ = some (.int .i64 k)
  c1 : W.cell? ⟨b, 1, none⟩ = some (.string f)
  c2 : W.cell? ⟨b, 2, none⟩ = some (.string ⟨#[]⟩)
  c3 : W.cell? ⟨b, 3, none⟩ = some (.slice none 0 0)
  c4 : W.cell? ⟨b, 4, none⟩ = some u
  c5 : W.cell? ⟨b, 5, none⟩ = some v
  c6 : W.cell? ⟨b, 6, none⟩ = some (.slice none 0 0)
  lt : b < W.heap.size
theorem Cl.start (w : World) (k : Int) (f : ByteArray) (u v : Value) : Cl (w.alloc (clO k f u v)) w.heap.size k f u v := by
  refine ⟨?_, ?_, ?_, ?_, ?_, ?_, ?_, by simp⟩ <;> (rw [World.cell?_alloc_at _ _ _ _ rfl]; rfl)
theorem Cl.keep {W w' : World} {b B : Nat} {k : Int} {f : ByteArray} {u v : Value} (h : Cl W b k f u v) (hb : Below B W w') (hB : b < B) : Cl w' b k f u v := by
  have := hb.size
  have h7 := h.lt
  exact ⟨(hb.cell (p := ⟨b, 0, none⟩) hB).trans h.c0, (hb.cell (p := ⟨b, 1, none⟩) hB).trans h.c1, (hb.cell (p := ⟨b, 2, none⟩) hB).trans h.c2, (hb.cell (p := ⟨b, 3, none⟩) hB).trans h.c3, (hb.cell (p := ⟨b, 4, none⟩) hB).trans h.c4, (hb.cell (p := ⟨b, 5, none⟩) hB).trans h.c5, (hb.cell (p := ⟨b, 6, none⟩) hB).trans h.c6, by omega⟩
theorem Cl.apart {W w' : World} {b lo hi : Nat} {k : Int} {f : ByteArray} {u v : Value} (h : Cl W b k f u v) (ha : Apart lo hi W w') (hd : b < lo ∨ hi ≤ b) : Cl w' b k f u v := by
  have := ha.size
  have h7 := h.lt
  have hc : ∀ j, w'.cell? ⟨b, j, none⟩ = W.cell? ⟨b, j, none⟩ := fun j => World.cell?_of_block (a := ⟨b, j, none⟩) (ha.block b hd)
  exact ⟨(hc 0).trans h.c0, (hc 1).trans h.c1, (hc 2).trans h.c2, (hc 3).trans h.c3, (hc 4).trans h.c4, (hc 5).trans h.c5, (hc 6).trans h.c6, by omega⟩

set_option maxRecDepth 100000 in
set_option maxHeartbeats 1600000 in
theorem eqClaim_same (k : Int) (f : ByteArray) (v1 v2 u1 u2 : Value) (xs ys : List Int) (l1 h1 l2 h2 l3 h3 l4 h4 : Nat) (w : World) (o1 : OwnI w l1 h1 v1 xs) (o2 : OwnI w l2 h2 v2 ys) (o3 : OwnI w l3 h3 u1 xs) (o4 : OwnI w l4 h4 u2 ys)
    (m1 : h1 ≤ w.heap.size) (m2 : h2 ≤ w.heap.size) (m3 : h3 ≤ w.heap.size) (m4 : h4 ≤ w.heap.size) (hx : xs.length ≤ 1048576) (hy : ys.length ≤ 1048576) :
    Calls Try.prog 7 #[clV k f v1 v2, clV k f u1 u2] w fun e w' => e = .returned (.bool true) ∧ Below w.heap.size w w' := by
  have hk1 : (k != k) = false := by simp
  have hk2 : (k == k) = true := by simp
  have hf1 : (f.toList != f.toList) = false := by simp
  have hf2 : (f.toList == f.toList) = true := by simp
  have hz1 : ((⟨#[]⟩ : ByteArray).toList != (⟨#[]⟩ : ByteArray).toList) = false := by simp
  have hz2 : ((⟨#[]⟩ : ByteArray).toList == (⟨#[]⟩ : ByteArray).toList) = true := by simp
  have HA := Lib.hid (Cl.start w k f v1 v2)
  have HB := Lib.hid (Cl.start (w.alloc (clO k f v1 v2)) k f u1 u2)
  have g1 : Below w.heap.size w (w.alloc (clO k f v1 v2)) := (Below.refl _ w).alloc (Nat.le_refl _) _
  have g2 : Below (w.heap.size + 1) (w.alloc (clO k f v1 v2)) ((w.alloc (clO k f v1 v2)).alloc (clO k f u1 u2)) := (Below.refl _ _).alloc (by simp) _
  have HA2 := Lib.hid (HA.out.keep g2 (Nat.lt_succ_self _))
  have e1 : (w.alloc (clO k f v1 v2)).heap.size = w.heap.size + 1 := by simp
  rw [e1] at HB
  have HG := Lib.hid (g1.trans (g2.mono (by omega)))
  have O1 := Lib.hid (o1.keep HG.out m1)
  have O2 := Lib.hid (o2.keep HG.out m2)
  have O3 := Lib.hid (o3.keep HG.out m3)
  have O4 := Lib.hid (o4.keep HG.out m4)
  have s2 : ((w.alloc (clO k f v1 v2)).alloc (clO k f u1 u2)).heap.size = w.heap.size + 2 := by simp
  clear o1 o2 o3 o4 HA g1 g2
  obtain ⟨a0, a1, a2, a3, a4, a5, a6, al⟩ := HA2.out
  obtain ⟨b0, b1, b2, b3, b4, b5, b6, bl⟩ := HB.out
  clear al bl
  go_enter Try.func7, Try.ntmps7
  go_wp2_with fail
  (with_reducible refine (eqStr0 _).mono ?_)
  rintro e w1 ⟨rfl, hw⟩
  subst hw
  go_wp2_with fail
  (with_reducible refine (eqI_same _ _ _ _ _ _ xs _ O1.out O3.out (by omega)).mono ?_)
  rintro e w2 ⟨rfl, hb⟩
  rw [s2] at hb
  have z2 := hb.size
  rw [s2] at z2
  clear a0 a1 a2 a3 a4 a5 a6 b0 b1 b2 b3 b4 b5 b6
  have HA3 := Lib.hid (HA2.out.keep hb (by omega))
  have HB3 := Lib.hid (HB.out.keep hb (by omega))
  have O2_2 := Lib.hid (O2.out.keep hb (by omega))
  have O4_2 := Lib.hid (O4.out.keep hb (by omega))
  have HG2 := Lib.hid (HG.out.trans (hb.mono (by omega)))
  clear hb
  obtain ⟨a0, a1, a2, a3, a4, a5, a6, al⟩ := HA3.out
  obtain ⟨b0, b1, b2, b3, b4, b5, b6, bl⟩ := HB3.out
  clear al bl
  go_wp2_with fail
  (with_reducible refine (eqI_same _ _ _ _ _ _ ys _ O2_2.out O4_2.out (by omega)).mono ?_)
  rintro e w3 ⟨rfl, hb⟩
  clear a0 a1 a2 a3 a4 a5 a6 b0 b1 b2 b3 b4 b5 b6
  have HA4 := Lib.hid (HA3.out.keep hb (by omega))
  have HB4 := Lib.hid (HB3.out.keep hb (by omega))
  have HG3 := Lib.hid (HG2.out.trans (hb.mono (by omega)))
  clear hb
  obtain ⟨a0, a1, a2, a3, a4, a5, a6, al⟩ := HA4.out
  obtain ⟨b0, b1, b2, b3, b4, b5, b6, bl⟩ := HB4.out
  clear al bl
  go_wp2_with fail
  (with_reducible refine (eqTab0 _).mono ?_)
  rintro e w4 ⟨rfl, hw⟩
  subst hw
  go_wp2
  go_ret
  exact ⟨rfl, HG3.out⟩

end Go.Proofs.Ytgaggpdlpcldeaa
end

section
namespace Go.Proofs.Ytgaggpdlpcldeaa
open Go.ChangeShapes Go.WideShapes Go.ChangeAt Go.RowKit
set_option linter.unusedVariables false

theorem Apart.wide33 {lo hi lo' hi' : Nat} {w w' : World} (h : Apart lo hi w w') (h1 : lo' ≤ lo) (h2 : hi ≤ hi') : Apart lo' hi' w w' := ⟨h.os, h.tape, h.output, h.size, fun k hk => h.block k (by omega)⟩
theorem Apart.trans33 {lo hi : Nat} {w w' w'' : World} (h : Apart lo hi w w') (h' : Apart lo hi w' w'') : Apart lo hi w w'' := ⟨h'.os.trans h.os, h'.tape.trans h.tape, h'.output.trans h.output, Nat.le_trans h.size h'.size, fun k hk => (h'.block k hk).trans (h.block k hk)⟩

set_option maxRecDepth 100000 in
set_option maxHeartbeats 1600000 in
theorem markClaim (k : Int) (f : ByteArray) (u v : Value) (xs ys : List Int) (l1 h1 l2 h2 lo hi : Nat) (w : World) (o1 : OwnI w l1 h1 u xs) (o2 : OwnI w l2 h2 v ys) (hd : h1 ≤ l2 ∨ h2 ≤ l1)
    (m1 : lo ≤ l1) (m2 : lo ≤ l2) (m3 : h1 ≤ hi) (m4 : h2 ≤ hi) (m5 : hi ≤ w.heap.size) (hx : xs.length ≤ 1048576) (hy : ys.length ≤ 1048576) :
    Calls Try.prog 10 #[clV k f u v, .int .i64 1] w fun e w' => e = .returned (.int .i64 (1 + (xs.length : Int) + (ys.length : Int))) ∧ OwnI w' l1 h1 u (marks 1 xs.length) ∧ OwnI w' l2 h2 v (marks (1 + (xs.length : Int)) ys.length) ∧ ∃ w0, Below w.heap.size w w0 ∧ Apart lo hi w0 w' := by
  have HA := Lib.hid (Cl.start w k f u v)
  have HG := Lib.hid (show Below w.heap.size w (w.alloc (clO k f u v)) from (Below.refl _ w).alloc (Nat.le_refl _) _)
  have O1 := Lib.hid (o1.keep HG.out (by omega))
  have O2 := Lib.hid (o2.keep HG.out (by omega))
  have s1 : (w.alloc (clO k f u v)).heap.size = w.heap.size + 1 := by simp
  obtain ⟨a0, a1, a2, a3, a4, a5, a6, al⟩ := HA.out
  clear o1 o2 al
  go_enter Try.func10, Try.ntmps10
  go_wp2_with fail
  (with_reducible refine (markStr0 _ _).mono ?_)
  rintro e w1 ⟨rfl, hw⟩
  subst hw
  go_wp2_with fail
  (with_reducible refine (markO _ _ _ xs 1 _ O1.out (by omega) (by omega) (by omega)).mono ?_)
  rintro e w2 ⟨rfl, ho, hb⟩
  have M1 := Lib.hid ho
  have HA2 := Lib.hid (HA.out.apart hb (by omega))
  have O2_2 := Lib.hid (O2.out.apart hb (by omega))
  have HP := Lib.hid (hb.wide33 m1 m3)
  clear a0 a1 a2 a3 a4 a5 a6 hb ho
  obtain ⟨a0, a1, a2, a3, a4, a5, a6, al⟩ := HA2.out
  clear al
  go_wp2_with fail
  (with_reducible refine (markO _ _ _ ys _ _ O2_2.out (by omega) (by omega) (by omega)).mono ?_)
  rintro e w3 ⟨rfl, ho, hb⟩
  have M2 := Lib.hid ho
  have M1_3 := Lib.hid (M1.out.apart hb (by omega))
  have HA3 := Lib.hid (HA2.out.apart hb (by omega))
  have HP3 := Lib.hid (HP.out.trans33 (hb.wide33 m2 m4))
  clear a0 a1 a2 a3 a4 a5 a6 hb ho
  obtain ⟨a0, a1, a2, a3, a4, a5, a6, al⟩ := HA3.out
  clear al
  go_wp2_with fail
  (with_reducible refine (markTab0 _ _).mono ?_)
  rintro e w4 ⟨rfl, hw⟩
  subst hw
  go_wp2
  go_ret
  exact ⟨rfl, M1_3.out, M2.out, _, HG.out, HP3.out⟩

set_option maxRecDepth 100000 in
set_option maxHeartbeats 1600000 in
theorem heldClaim (k : Int) (f : ByteArray) (u v : Value) (n m : Nat) (l1 h1 l2 h2 : Nat) (w : World) (o1 : OwnI w l1 h1 u (marks 1 n)) (o2 : OwnI w l2 h2 v (marks (1 + (n : Int)) m))
    (m3 : h1 ≤ w.heap.size) (m4 : h2 ≤ w.heap.size) (hx : n ≤ 1048576) (hy : m ≤ 1048576) :
    Calls Try.prog 11 #[clV k f u v, .int .i64 1] w fun e w' => e = .returned (.int .i64 (1 + (n : Int) + (m : Int))) ∧ Below w.heap.size w w' := by
  have hn1 : ¬ 1 + (n : Int) < 0 := by omega
  have hn2 : ¬ 1 + (n : Int) + (m : Int) < 0 := by omega
  have HA := Lib.hid (Cl.start w k f u v)
  have HG := Lib.hid (show Below w.heap.size w (w.alloc (clO k f u v)) from (Below.refl _ w).alloc (Nat.le_refl _) _)
  have O1 := Lib.hid (o1.keep HG.out (by omega))
  have O2 := Lib.hid (o2.keep HG.out (by omega))
  obtain ⟨a0, a1, a2, a3, a4, a5, a6, al⟩ := HA.out
  clear o1 o2 al
  go_enter Try.func11, Try.ntmps11
  go_wp2_with fail
  (with_reducible refine (heldStr0 _ _).mono ?_)
  rintro e w1 ⟨rfl, hw⟩
  subst hw
  go_wp2_with fail
  (with_reducible refine (heldI _ _ _ n 1 _ O1.out (by omega) (by omega) (by omega)).mono ?_)
  rintro e w2 ⟨rfl, hw⟩
  subst hw
  go_wp2_with fail
  (with_reducible refine (heldI _ _ _ m _ _ O2.out (by omega) (by omega) (by omega)).mono ?_)
  rintro e w3 ⟨rfl, hw⟩
  subst hw
  go_wp2_with fail
  (with_reducible refine (heldTab0 _ _).mono ?_)
  rintro e w4 ⟨rfl, hw⟩
  subst hw
  go_wp2
  go_ret
  exact ⟨rfl, HG.out⟩

end Go.Proofs.Ytgaggpdlpcldeaa
end

section
namespace Go.Proofs.Ytgaggpdlpcldeaa
open Go.ChangeShapes Go.WideShapes Go.ChangeAt Go.RowKit
set_option linter.unusedVariables false

/-- A claim and a bool, whose two rows lie apart in fresh memory. -/
def AnsCl (k : Int) (f : ByteArray) (xs ys : List Int) (B : Bool) (w : World) (e : Ending) (w' : World) : Prop :=
  ∃ u v l1 h1 l2 h2, e = .returned (.tuple #[clV k f u v, .bool B]) ∧ OwnI w' l1 h1 u xs ∧ OwnI w' l2 h2 v ys ∧ (h1 ≤ l2 ∨ h2 ≤ l1) ∧ w.heap.size ≤ l1 ∧ w.heap.size ≤ l2 ∧ h1 ≤ w'.heap.size ∧ h2 ≤ w'.heap.size ∧ Below w.heap.size w w'
theorem own_none (w : World) (a b : Nat) : OwnI w a b (.slice none 0 0) [] := ⟨_, _, rfl, .inl rfl⟩
theorem OwnI.setOther {w : World} {lo hi b j : Nat} {v y : Value} {xs : List Int} (h : OwnI w lo hi v xs) (hb : b < lo) : OwnI (w.setCell ⟨b, j, none⟩ y) lo hi v xs := by
  obtain ⟨A, c, e, h⟩ := h
  refine ⟨A, c, e, h.elim .inl fun ⟨g, C, h1, h2, h3, h4, h5⟩ => .inr ⟨g, C, h1, h2, h3, ?_, h5⟩⟩
  exact (Below.heap_setCell w ⟨b, j, none⟩ y _ (show g ≠ b by omega)).trans h4
/-- The seven cells of the result at w's end. -/
structure Rz (w W : World) : Prop where
  cl : Cl W w.heap.size 0 ⟨#[]⟩ (.slice none 0 0) (.slice none 0 0)
  fr : ∀ j, j < 7 → W.frozen? ⟨w.heap.size, j, none⟩ = false
  bl : Below w.heap.size w W
  lt : w.heap.size < W.heap.size
theorem Rz.start (w : World) : Rz w (w.alloc (clO 0 ⟨#[]⟩ (.slice none 0 0) (.slice none 0 0))) := by
  refine ⟨Cl.start w _ _ _ _, fun j hj => ?_, (Below.refl _ w).alloc (Nat.le_refl _) _, by simp⟩
  have hg : (w.alloc (clO 0 ⟨#[]⟩ (.slice none 0 0) (.slice none 0 0))).heap[w.heap.size]? = some (clO 0 ⟨#[]⟩ (.slice none 0 0) (.slice none 0 0)) := Array.getElem?_push_size
  unfold World.frozen?; rw [hg]; rfl
theorem Rz.call {w W w' : World} {B : Nat} (h : Rz w W) (hb : Below B W w') (hB : w.heap.size < B) : Rz w w' := by
  have := hb.size
  have := h.lt
  exact ⟨h.cl.keep hb hB, fun j hj => (hb.frozen (p := ⟨w.heap.size, j, none⟩) hB).trans (h.fr j hj), h.bl.trans (hb.mono (by omega)), by omega⟩
theorem seven_below {w W : World} {x0 x1 x2 x3 x4 x5 x6 : Value} (h : Below w.heap.size w W) : Below w.heap.size w (((((((W.setCell ⟨w.heap.size, 0, none⟩ x0).setCell ⟨w.heap.size, 1, none⟩ x1).setCell ⟨w.heap.size, 2, none⟩ x2).setCell ⟨w.heap.size, 3, none⟩ x3).setCell ⟨w.heap.size, 4, none⟩ x4).setCell ⟨w.heap.size, 5, none⟩ x5).setCell ⟨w.heap.size, 6, none⟩ x6) :=
  ((((((h.setCell (p := ⟨w.heap.size, 0, none⟩) (Nat.le_refl _) _).setCell (p := ⟨w.heap.size, 1, none⟩) (Nat.le_refl _) _).setCell (p := ⟨w.heap.size, 2, none⟩) (Nat.le_refl _) _).setCell (p := ⟨w.heap.size, 3, none⟩) (Nat.le_refl _) _).setCell (p := ⟨w.heap.size, 4, none⟩) (Nat.le_refl _) _).setCell (p := ⟨w.heap.size, 5, none⟩) (Nat.le_refl _) _).setCell (p := ⟨w.heap.size, 6, none⟩) (Nat.le_refl _) _
theorem seven_own {W : World} {b lo hi : Nat} {v x0 x1 x2 x3 x4 x5 x6 : Value} {xs : List Int} (h : OwnI W lo hi v xs) (hb : b < lo) : OwnI (((((((W.setCell ⟨b, 0, none⟩ x0).setCell ⟨b, 1, none⟩ x1).setCell ⟨b, 2, none⟩ x2).setCell ⟨b, 3, none⟩ x3).setCell ⟨b, 4, none⟩ x4).setCell ⟨b, 5, none⟩ x5).setCell ⟨b, 6, none⟩ x6) lo hi v xs :=
  ((((((h.setOther hb).setOther hb).setOther hb).setOther hb).setOther hb).setOther hb).setOther hb
theorem seven_size (W : World) (b : Nat) (x0 x1 x2 x3 x4 x5 x6 : Value) : (((((((W.setCell ⟨b, 0, none⟩ x0).setCell ⟨b, 1, none⟩ x1).setCell ⟨b, 2, none⟩ x2).setCell ⟨b, 3, none⟩ x3).setCell ⟨b, 4, none⟩ x4).setCell ⟨b, 5, none⟩ x5).setCell ⟨b, 6, none⟩ x6).heap.size = W.heap.size := by simp [World.setCell]

end Go.Proofs.Ytgaggpdlpcldeaa
end

section
namespace Go.Proofs.Ytgaggpdlpcldeaa
open Go.ChangeShapes Go.WideShapes Go.ChangeAt Go.RowKit
set_option linter.unusedVariables false

theorem wpAppA {w : World} {ops : Array Oper} {rest : List Oper} {o : Oper} {a : Act} {Q : Exit → Act → World → Prop} (hgd : o.guard = none) (s x : Operand)
    (ho : o.op = .call { callee := .builtin .append, args := #[s, x], argTypes := #[22, 22] })
    (base : Nat) (v : Value) (n : Nat) (xs ys : List Int) (hs : a.eval s = v) (hown : w.ownsRow base 3 1 v n (xs.map (Value.int .i64)))
    (b off m c : Nat) (hx : a.eval x = .slice (some ⟨b, off, none⟩) m c) (hm : ys.length = m) (hy : ∀ j, j < m → w.cell? ⟨b, off + j, none⟩ = some (.int .i64 (ys.getD j 0)))
    (hn : n ≤ 1099511627776) (hm2 : m ≤ 1099511627776) (hbase : base ≤ w.heap.size)
    (h : ∀ v' w', w'.ownsRow base 3 1 v' (n + m) ((xs ++ ys).map (Value.int .i64)) → w.grownBy w' v.ownBlock → wpList Try.prog ops Q rest (a.put o.dst v') w') : wpList Try.prog ops Q (o :: rest) a w := by
  obtain ⟨i0, hi, hz0, hz1, hz2⟩ := info_parts info3
  refine wpList_append_own _ hgd s x 22 ho base 3 i0 (.int .i64 0) 1 8 Try.underlying22 hi hz0 hz1 hz2 rfl (by decide) v n _ hs hown ⟨b, off, none⟩ m c (ys.map (Value.int .i64)) hx (by simpa using hm) ?_ ?_ (by unfold maxLen; omega) (by omega) hbase ?_
  · intro j u hj
    rw [List.getElem?_map] at hj
    cases hq : ys[j]? with
    | none => rw [hq] at hj; cases hj
    | some z =>
      rw [hq] at hj
      have hjl : j < ys.length := (List.getElem?_eq_some_iff.1 hq).1
      have := hy j (by omega)
      rw [List.getD_eq_getElem?_getD, hq] at this
      simp only [Option.map_some, Option.some.injEq] at hj
      rw [← hj, Addr.add_lit]; exact this
  · intro u hu
    obtain ⟨y, -, rfl⟩ := List.mem_map.1 hu
    rfl
  · intro v' w' h1 h2 _
    exact h v' w' (by simpa using h1) h2

end Go.Proofs.Ytgaggpdlpcldeaa
end

section
namespace Go.Proofs.Ytgaggpdlpcldeaa
open Go.ChangeShapes Go.WideShapes Go.ChangeAt Go.RowKit
set_option linter.unusedVariables false
theorem run_app_nil (w : World) (ty : TypeId) (A : Option Addr) (n c : Nat) (hn : n = 0) : (Builtin.append_ #[22, 22] ty #[.slice (some ⟨w.heap.size, 0, none⟩) 0 0, .slice A n c]).run Try.prog (w.alloc (.cells #[] 3)) = .ok (.slice (some ⟨w.heap.size, 0, none⟩) 0 0) (w.alloc (.cells #[] 3)) := by
  obtain ⟨i0, hi, hz0, hz1, hz2⟩ := info_parts info3
  subst hn
  cases A with
  | none => simp [Builtin.append_, run_underlying Try.underlying22, sizeOf, typeInfo, hi, Builtin.lenOf, Builtin.firstCells, storeCells]
  | some p => simp [Builtin.append_, run_underlying Try.underlying22, sizeOf, typeInfo, hi, Builtin.lenOf, Builtin.firstCells, storeCells, loadCells, loadCellsFrom]
theorem wpAppN {w : World} {ops : Array Oper} {rest : List Oper} {o : Oper} {a : Act} {Q : Exit → Act → World → Prop} (hgd : o.guard = none) (s x : Operand)
    (ho : o.op = .call { callee := .builtin .append, args := #[s, x], argTypes := #[22, 22] }) (A : Option Addr) (n c : Nat) (hn : n = 0)
    (hs : a.eval s = .slice (some ⟨w.heap.size, 0, none⟩) 0 0) (hx : a.eval x = .slice A n c)
    (h : ∀ g2 c2 w3, g2 = w.heap.size → c2 = 0 → w3 = w.alloc (.cells #[] 3) → wpList Try.prog ops Q rest (a.put o.dst (.slice (some ⟨g2, 0, none⟩) n c2)) w3) : wpList Try.prog ops Q (o :: rest) a (w.alloc (.cells #[] 3)) :=
  wpList_plain hgd fun _ hK => by
    have h2 := h w.heap.size 0 (w.alloc (.cells #[] 3)) rfl rfl rfl
    rw [hn] at h2
    unfold Oper.wp execOp
    simp only [ho, resolve, invoke, builtin, Sem.run_bind, Sem.run_pure, Result.andThen_ok, List.map_toArray, List.map_cons, List.map_nil, hs, hx, run_app_nil w o.type A n c hn]
    exact hK _ _ h2

end Go.Proofs.Ytgaggpdlpcldeaa
end

section
namespace Go.Proofs.Ytgaggpdlpcldeaa
open Go.ChangeShapes Go.WideShapes Go.ChangeAt Go.RowKit
set_option linter.unusedVariables false

theorem wpCopy {w : World} {ops : Array Oper} {rest : List Oper} {o : Oper} {a : Act} {Q : Exit → Act → World → Prop} (hgd : o.guard = none) (s x : Operand)
    (ho : o.op = .call { callee := .builtin .append, args := #[s, x], argTypes := #[22, 22] })
    (A : Option Addr) (cap lo hi : Nat) (xs : List Int) (hv : OwnI w lo hi (.slice A xs.length cap) xs) (hhi : hi ≤ w.heap.size)
    (hs : a.eval s = .slice (some ⟨w.heap.size, 0, none⟩) 0 0) (hx : a.eval x = .slice A xs.length cap) (hl : xs.length ≤ 1048576)
    (h : ∀ g c w', RowN w' w.heap.size (.slice (some ⟨g, 0, none⟩) xs.length c) xs → Below w.heap.size w w' → wpList Try.prog ops Q rest (a.put o.dst (.slice (some ⟨g, 0, none⟩) xs.length c)) w') : wpList Try.prog ops Q (o :: rest) a (w.alloc (.cells #[] 3)) := by
  by_cases h0 : xs.length = 0
  · refine wpAppN hgd s x ho A xs.length cap h0 hs hx ?_
    intro g2 c2 w3 hg hc hw
    subst hg hc hw
    refine h _ 0 _ ?_ ((Below.refl _ w).alloc (Nat.le_refl _) _)
    have e : xs = [] := List.eq_nil_of_length_eq_zero h0
    subst e
    exact RowN.made w _ _ rfl (Nat.le_refl _)
  · obtain ⟨ga, pa, ea, -, hga, -, -⟩ := hv.cell (j := 0) (by omega)
    simp only [Value.slice.injEq] at ea
    obtain ⟨rfl, -, rfl⟩ := ea
    have hrow := RowN.made w w.heap.size _ rfl (Nat.le_refl _)
    refine wpAppA hgd s x ho w.heap.size _ 0 [] xs hs hrow ga 0 xs.length _ hx rfl (fun j hj => ?_) (by omega) (by omega) (by simp) ?_
    · obtain ⟨g5, p5, e5, -, hg5, hc5, -⟩ := hv.cell (j := j) hj
      simp only [Value.slice.injEq, Option.some.injEq, Addr.mk.injEq] at e5
      obtain ⟨⟨rfl, -⟩, -⟩ := e5
      rw [Nat.zero_add]
      exact (World.cell?_alloc_lt w _ ⟨ga, j, none⟩ (show ga < w.heap.size by omega)).trans hc5
    · intro v' w' hown hg
      rw [List.nil_append, Nat.zero_add] at hown
      obtain ⟨A', c', e', hA⟩ := RowN.form (show RowN w' w.heap.size v' xs from hown)
      obtain ⟨g, rfl, -⟩ := hA (by omega)
      subst e'
      exact h g c' w' hown (((Below.refl _ w).alloc (Nat.le_refl _) _).grown hg (by simp) (fun k hk => (World.ownsRow.lt hrow k hk).1))

set_option maxRecDepth 100000 in
theorem cloneNone31 (n cap : Nat) (w : World) :
    Calls Try.prog 14 #[.slice none n cap] w fun e w' => e = .returned (.slice none 0 0) ∧ w = w' := by
  have hnil := Lib.run_eql_slice_nil (P := Try.prog) w 22 3 none n cap 0 0 Try.underlying22
  go_enter Try.func14, Try.ntmps14
  go_wp2
  go_ret
  exact ⟨rfl, rfl⟩

set_option maxRecDepth 100000 in
theorem cloneI (A1 : Option Addr) (xs : List Int) (c1 lo hi : Nat) (w : World) (hv : OwnI w lo hi (.slice A1 xs.length c1) xs) (hhi : hi ≤ w.heap.size) (hl : xs.length ≤ 1048576) :
    Calls Try.prog 14 #[.slice A1 xs.length c1] w fun e w' => ∃ v, e = .returned v ∧ RowN w' w.heap.size v xs ∧ Below w.heap.size w w' := by
  have HV := Lib.hid hv
  have hnil := Lib.run_eql_slice_nil (P := Try.prog) w 22 3 A1 xs.length c1 0 0 Try.underlying22
  clear hv
  cases A1 with
  | none =>
    have h0 : xs = [] := by
      cases xs with
      | nil => rfl
      | cons x l =>
        obtain ⟨g, c, e, -⟩ := HV.out.cell (j := 0) (by simp)
        cases e
    refine (cloneNone31 xs.length c1 w).mono ?_
    rintro e w' ⟨rfl, rfl⟩
    subst h0
    exact ⟨_, rfl, ⟨rfl, .inl ⟨rfl, rfl⟩⟩, Below.refl _ _⟩
  | some ad =>
    go_enter Try.func14, Try.ntmps14
    go_wp2_with (at_builtin; go_must (refine wpCopy rfl _ _ rfl (some ad) c1 lo hi xs HV.out hhi rfl rfl hl ?_); intro g c w' hr hb)
    go_ret
    exact ⟨_, rfl, hr, hb⟩

end Go.Proofs.Ytgaggpdlpcldeaa
end
