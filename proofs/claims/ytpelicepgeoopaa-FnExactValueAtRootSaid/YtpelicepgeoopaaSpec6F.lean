/- From levels to trees: the contracts of the model's l6Build and BinaryOfLevels. -/
import Derived.Test.YtpelicepgeoopaaSpec6E
namespace Go.Proofs.Ytpelicepgeoopaa
open Go.ChangeShapes Go.WideShapes Go.ChangeAt Go.RowKit
open Go.PlainAid (bt bt_nonneg bt_le get_bt bt_end)
set_option linter.unusedVariables false

/-- A part of a row of ints, from one of its places on. -/
theorem run_from (w : World) (a : Option Addr) (len cap n : Nat) (hn : n ≤ len) : (Instr.slice 22 (.slice a len cap) (some (.int .i64 (n : Int))) none none).run Try.prog w = .ok (.slice (if cap = n then a else a.map (·.add n)) (len - n) (cap - n)) w := by
  obtain ⟨i0, hi, -, -, -⟩ := info_parts info3
  have he : Try.prog.elem 22 = 3 := by kernel_rfl
  have hc : Try.prog.cellsOf 3 = 1 := by kernel_rfl
  have hu : Try.prog.underlying 22 = some (.slice (Try.prog.elem 22)) := by rw [he]; exact Try.underlying22
  rw [run_slice_l w _ a len cap hu .i64 (n : Int) (by omega) (by omega), he, run_sizeOf w hi, hc]
  simp [sliced, Result.andThen]
/-- The ints xs at a place of a row. -/
def SubI (w : World) (A : Option Addr) (cap : Nat) (xs : List Int) : Prop := xs.length ≤ cap ∧ ∀ j, j < xs.length → ∃ g o, A = some ⟨g, o, none⟩ ∧ w.cell? ⟨g, o + j, none⟩ = some (.int .i64 (xs.getD j 0))
theorem SubI.from {w : World} {A : Option Addr} {cap : Nat} {xs : List Int} (h : SubI w A cap xs) (n : Nat) (hn : n ≤ xs.length) : SubI w (if cap = n then A else A.map (·.add n)) (cap - n) (xs.drop n) := by
  refine ⟨by rw [List.length_drop]; have := h.1; omega, fun j hj => ?_⟩
  rw [List.length_drop] at hj
  have h1 := h.1
  obtain ⟨g, o, rfl, hc⟩ := h.2 (n + j) (by omega)
  rw [if_neg (by omega)]
  refine ⟨g, o + n, ?_, ?_⟩
  · show some (Addr.add _ n) = _
    unfold Addr.add
    split
    · rename_i h; subst h; rfl
    · rfl
  · rw [Nat.add_assoc, hc]; simp [List.getD]
theorem SubI.own {w : World} {lo hi : Nat} {A : Option Addr} {cap : Nat} {xs : List Int} (h : OwnI w lo hi (.slice A xs.length cap) xs) (hc : xs.length ≤ cap) : SubI w A cap xs := by
  refine ⟨hc, fun j hj => ?_⟩
  obtain ⟨g, c, e', h1, h2, h3, -⟩ := h.cell hj
  simp only [Value.slice.injEq] at e'
  exact ⟨g, 0, e'.1, by rw [Nat.zero_add]; exact h3⟩

/-- The tree at level v that begins a row of levels, and how many of them it takes; 0 if there is none. -/
def bld : Nat → List Int → Int → ByteArray × Nat
  | 0, _, _ => (⟨#[]⟩, 0)
  | f + 1, xs, v =>
    if xs.length = 0 ∨ xs.getD 0 0 < v then (⟨#[]⟩, 0) else if xs.getD 0 0 = v then (⟨#[46]⟩, 1)
    else if (bld f xs (v + 1)).2 = 0 then (⟨#[]⟩, 0)
    else if (bld f (xs.drop (bld f xs (v + 1)).2) (v + 1)).2 = 0 then (⟨#[]⟩, 0)
    else (((⟨#[40]⟩ ++ (bld f xs (v + 1)).1) ++ (bld f (xs.drop (bld f xs (v + 1)).2) (v + 1)).1) ++ ⟨#[41]⟩, (bld f xs (v + 1)).2 + (bld f (xs.drop (bld f xs (v + 1)).2) (v + 1)).2)
theorem bld_no (f : Nat) (xs : List Int) (v : Int) (h : xs.length = 0 ∨ xs.getD 0 0 < v) : bld f xs v = (⟨#[]⟩, 0) := by
  cases f with
  | zero => rfl
  | succ f => rw [bld, if_pos h]
theorem bld_bd : ∀ (f : Nat) (xs : List Int) (v : Int), (bld f xs v).2 ≤ xs.length ∧ (bld f xs v).1.size ≤ 3 * (bld f xs v).2 ∧ ((bld f xs v).2 ≠ 0 → (bld f xs v).1.size + 2 ≤ 3 * (bld f xs v).2) := by
  intro f
  induction f with
  | zero => intro xs v; exact ⟨Nat.zero_le _, Nat.le_refl _, fun h => absurd rfl h⟩
  | succ f ih =>
    intro xs v
    rw [bld]
    split
    · exact ⟨Nat.zero_le _, Nat.le_refl _, fun h => absurd rfl h⟩
    · rename_i h0
      split
      · exact ⟨by show 1 ≤ _; omega, by show 1 ≤ 3; omega, fun _ => by show 1 + 2 ≤ 3; omega⟩
      · split
        · exact ⟨Nat.zero_le _, Nat.le_refl _, fun h => absurd rfl h⟩
        · rename_i h1
          split
          · exact ⟨Nat.zero_le _, Nat.le_refl _, fun h => absurd rfl h⟩
          · rename_i h2
            obtain ⟨a1, a2, a3⟩ := ih xs (v + 1)
            obtain ⟨b1, b2, b3⟩ := ih (xs.drop (bld f xs (v + 1)).2) (v + 1)
            have a4 := a3 h1
            have b4 := b3 h2
            rw [List.length_drop] at b1
            refine ⟨by dsimp only; omega, ?_, fun _ => ?_⟩
            · dsimp only; simp only [ByteArray.size_append, one_size]; omega
            · dsimp only; simp only [ByteArray.size_append, one_size]; omega
theorem ret_si {a b : ByteArray} {x y : Int} (h : a = b) (h' : x = y) : Ending.returned (.tuple #[.string a, .int .i64 x]) = .returned (.tuple #[.string b, .int .i64 y]) := by rw [h, h']

theorem l1In_not (x lo hi : Int) (w : World) (h : ¬ (lo ≤ x ∧ x ≤ hi)) :
    Calls Try.prog 22 #[.int .i64 x, .int .i64 lo, .int .i64 hi] w fun e w' => e = .returned (.bool false) ∧ w = w' := by
  by_cases h1 : lo ≤ x
  · exact l1In_no2 x lo hi w h1 (by omega)
  · exact l1In_no1 x lo hi w (by omega)
def bolGood (xs : List Int) : Prop := (∀ j, j < xs.length → 0 ≤ xs.getD j 0 ∧ xs.getD j 0 ≤ 8) ∧ 1 ≤ xs.length ∧ xs.length ≤ 9 ∧ (bld 9 xs 0).2 = xs.length
open Classical in
noncomputable def bolOk (xs : List Int) : Bool := decide (bolGood xs)
noncomputable def bolP (xs : List Int) : ByteArray := if bolOk xs = true then (bld 9 xs 0).1 else ⟨#[]⟩
open Classical in
theorem bol_no {xs : List Int} (h : ¬ bolGood xs) : bolOk xs = false ∧ bolP xs = ⟨#[]⟩ := by
  have : bolOk xs = false := by unfold bolOk; exact decide_eq_false h
  exact ⟨this, by unfold bolP; rw [this]; rfl⟩
open Classical in
theorem bol_yes {xs : List Int} (h : bolGood xs) : bolOk xs = true ∧ bolP xs = (bld 9 xs 0).1 := by
  have : bolOk xs = true := by unfold bolOk; exact decide_eq_true h
  exact ⟨this, by unfold bolP; rw [this]; rfl⟩

end Go.Proofs.Ytpelicepgeoopaa
