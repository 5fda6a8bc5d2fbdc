/- Tables of ints read only; eqIntSS at equal tables. -/
import Derived.Test.YtdnljgoaflggeaaTbl
import Derived.Deep.RegionLaw
import Derived.BigRegion
namespace Go.Proofs.Ytdnljgoaflggeaa
open Go.ChangeShapes Go.WideShapes Go.ChangeAt Go.RowKit
set_option linter.unusedVariables false

/-- v is a table of the rows ls, all of whose blocks lie from lo on and below hi. -/
def OwnT (w : World) (lo hi : Nat) (v : Value) (ls : List (List Int)) : Prop :=
  ∃ A cap, v = .slice A ls.length cap ∧ ∀ j, j < ls.length → ∃ o rv, A = some ⟨o, 0, none⟩ ∧ lo ≤ o ∧ o < hi ∧ w.cell? ⟨o, j, none⟩ = some rv ∧ OwnI w lo hi rv (ls.getD j [])
theorem OwnT.of {w : World} {base : Nat} {v : Value} {vs : List Value} {ls : List (List Int)} (h : Tb w base v vs ls) : OwnT w base w.heap.size v ls := by
  obtain ⟨A, cap, e⟩ := h.form
  refine ⟨A, cap, e, fun j hj => ?_⟩
  obtain ⟨o, c, e2, h1, h2, h3, -⟩ := h.cell hj
  rw [e] at e2
  simp only [Value.slice.injEq] at e2
  exact ⟨o, _, e2.1, h1, h2, h3, OwnI.of_row (h.row j hj)⟩
theorem OwnT.keep {w w' : World} {lo hi B : Nat} {v : Value} {ls : List (List Int)} (h : OwnT w lo hi v ls) (hb : Below B w w') (hB : hi ≤ B) : OwnT w' lo hi v ls := by
  obtain ⟨A, cap, e, h⟩ := h
  refine ⟨A, cap, e, fun j hj => ?_⟩
  obtain ⟨o, rv, h1, h2, h3, h4, h5⟩ := h j hj
  exact ⟨o, rv, h1, h2, h3, (hb.cell (p := ⟨o, j, none⟩) (by show o < B; omega)).trans h4, h5.keep hb hB⟩
theorem OwnT.cell {w : World} {lo hi : Nat} {A : Option Addr} {n cap : Nat} {ls : List (List Int)} (h : OwnT w lo hi (.slice A n cap) ls) {j : Nat} (hj : j < ls.length) :
    ∃ o rv, A = some ⟨o, 0, none⟩ ∧ lo ≤ o ∧ o < hi ∧ w.cell? ⟨o, j, none⟩ = some rv ∧ OwnI w lo hi rv (ls.getD j []) := by
  obtain ⟨A', c', e, h⟩ := h
  simp only [Value.slice.injEq] at e
  obtain ⟨rfl, -, -⟩ := e
  exact h j hj

/-- The rows of a table, marked one after another from k on. -/
def mkT (k : Int) : List (List Int) → List (List Int)
  | [] => []
  | l :: ls => marks k l.length :: mkT (k + l.length) ls
def tot : List (List Int) → Nat
  | [] => 0
  | l :: ls => l.length + tot ls
theorem mkT_len (ls : List (List Int)) : ∀ k, (mkT k ls).length = ls.length := by
  induction ls with
  | nil => intro k; rfl
  | cons l ls ih => intro k; simp [mkT, ih]
theorem mkT_at (ls : List (List Int)) : ∀ k j, j < ls.length → (mkT k ls).getD j [] = marks (k + (tot (ls.take j) : Int)) (ls.getD j []).length := by
  induction ls with
  | nil => intro k j h; simp at h
  | cons l ls ih =>
    intro k j h
    cases j with
    | zero => simp [mkT, tot]
    | succ j =>
      have := ih (k + l.length) j (by simpa using h)
      simp only [mkT, List.getD_cons_succ, List.take_succ_cons, tot] at this ⊢
      rw [this]
      congr 1
      omega
theorem tot_take (ls : List (List Int)) : ∀ j, j < ls.length → tot (ls.take (j + 1)) = tot (ls.take j) + (ls.getD j []).length := by
  induction ls with
  | nil => intro j h; simp at h
  | cons l ls ih =>
    intro j h
    cases j with
    | zero => simp [tot]
    | succ j =>
      have := ih j (by simpa using h)
      simp only [List.getD_cons_succ, List.take_succ_cons, tot] at this ⊢
      omega
theorem tot_le (ls : List (List Int)) : ∀ j, tot (ls.take j) ≤ tot ls := by
  induction ls with
  | nil => intro j; simp [tot]
  | cons l ls ih =>
    intro j
    cases j with
    | zero => simp [tot]
    | succ j => have := ih j; simp only [List.take_succ_cons, tot]; omega

end Go.Proofs.Ytdnljgoaflggeaa
