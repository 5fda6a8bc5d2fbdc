/- Plain facts of cars and places. -/
import Derived.Test.YtidfbnfgmacjgaaSpec2G
namespace Go.Proofs.Ytidfbnfgmacjgaa
open Go.ChangeShapes Go.WideShapes Go.ChangeAt Go.RowKit
set_option linter.unusedVariables false

/-- The first place from p on that is not among t, looking at k places at most. -/
def frP (t : List Int) : Nat → Nat → Nat
  | 0, p => p
  | k + 1, p => if (p : Int) ∈ t then frP t k (p + 1) else p
theorem frP_ge (t : List Int) : ∀ k p, p ≤ frP t k p := by
  intro k
  induction k with
  | zero => intro p; exact Nat.le_refl _
  | succ k ih => intro p; rw [frP]; split; (have := ih (p + 1); omega); omega
theorem frP_le (t : List Int) : ∀ k p, frP t k p ≤ p + k := by
  intro k
  induction k with
  | zero => intro p; exact Nat.le_refl _
  | succ k ih => intro p; rw [frP]; split; (have := ih (p + 1); omega); omega
theorem frP_hit {t : List Int} {n p : Nat} (h : p ≤ n) (hm : (p : Int) ∈ t) : frP t (n + 1 - p) p = frP t (n + 1 - (p + 1)) (p + 1) := by
  obtain ⟨k, hk⟩ : ∃ k, n + 1 - p = k + 1 := ⟨n - p, by omega⟩
  rw [hk, frP, if_pos hm, show n + 1 - (p + 1) = k by omega]
theorem frP_free {t : List Int} {n p : Nat} (h : p ≤ n) (hm : ¬ (p : Int) ∈ t) : frP t (n + 1 - p) p = p := by
  obtain ⟨k, hk⟩ : ∃ k, n + 1 - p = k + 1 := ⟨n - p, by omega⟩
  rw [hk, frP, if_neg hm]
theorem frP_end (t : List Int) (n : Nat) : frP t (n + 1 - (n + 1)) (n + 1) = n + 1 := by rw [Nat.sub_self]; rfl
theorem frP_far {t : List Int} {n p : Nat} (h : n + 1 ≤ p) : frP t (n + 1 - p) p = p := by rw [show n + 1 - p = 0 by omega]; rfl
/-- The places of the first i cars. -/
def pkL (f : List Int) : Nat → List Int
  | 0 => []
  | i + 1 => pkL f i ++ [((frP (pkL f i) (f.length + 1 - (f.getD i 0).toNat) (f.getD i 0).toNat : Nat) : Int)]
theorem pkL_len (f : List Int) (i : Nat) : (pkL f i).length = i := by
  induction i with
  | zero => rfl
  | succ i ih => rw [pkL, List.length_append, ih]; rfl
/-- The place of the car i, one beyond all where there is none. -/
def plN (f : List Int) (i : Nat) : Nat := frP (pkL f i) (f.length + 1 - (f.getD i 0).toNat) (f.getD i 0).toNat
theorem pkL_succ (f : List Int) (i : Nat) : pkL f (i + 1) = pkL f i ++ [((plN f i : Nat) : Int)] := rfl
def wOk (f : List Int) (i : Nat) : Prop := 1 ≤ f.getD i 0 ∧ f.getD i 0 ≤ (f.length : Int)
instance (f : List Int) (i : Nat) : Decidable (wOk f i) := by unfold wOk; infer_instance
def cOk (f : List Int) (i : Nat) : Prop := wOk f i ∧ plN f i ≤ f.length
instance (f : List Int) (i : Nat) : Decidable (cOk f i) := by unfold cOk; infer_instance
def carsB (f : List Int) : Bool := decide (f.length ≤ 6 ∧ ∀ i, i < f.length → wOk f i)
def parkB (f : List Int) : Bool := decide (f.length ≤ 6 ∧ ∀ i, i < f.length → cOk f i)
def plcP (f : List Int) : List Int := if parkB f = true then pkL f f.length else []
theorem cars_no {f : List Int} {i : Nat} (hi : i < f.length) (h : ¬ wOk f i) : carsB f = false := decide_eq_false fun hh => h (hh.2 i hi)
theorem cars_yes {f : List Int} (h : carsB f = true) : f.length ≤ 6 ∧ ∀ i, i < f.length → wOk f i := of_decide_eq_true h
theorem park_no {f : List Int} {i : Nat} (hi : i < f.length) (h : ¬ cOk f i) : parkB f = false := decide_eq_false fun hh => h (hh.2 i hi)
theorem park_yes {f : List Int} (h : parkB f = true) : f.length ≤ 6 ∧ ∀ i, i < f.length → cOk f i := of_decide_eq_true h
theorem park_cars {f : List Int} (h : carsB f = false) : parkB f = false := by
  cases hp : parkB f
  · rfl
  · have h2 := park_yes hp
    rw [show carsB f = true from decide_eq_true ⟨h2.1, fun i hi => (h2.2 i hi).1⟩] at h; cases h
theorem park_all {f : List Int} (h6 : f.length ≤ 6) (h : ∀ i, i < f.length → cOk f i) : parkB f = true := decide_eq_true ⟨h6, h⟩
theorem park_long {f : List Int} (h : 6 < f.length) : parkB f = false := decide_eq_false fun hh => by have := hh.1; omega
theorem plcP_yes {f : List Int} (h : parkB f = true) : plcP f = pkL f f.length := if_pos h
theorem plcP_no {f : List Int} (h : parkB f = false) : plcP f = [] := if_neg (by simp [h])
theorem pkL_mem {f : List Int} : ∀ i, (∀ j, j < i → cOk f j) → ∀ x ∈ pkL f i, 1 ≤ x ∧ x ≤ (f.length : Int) := by
  intro i
  induction i with
  | zero => intro _ x hx; simp [pkL] at hx
  | succ i ih =>
    intro h x hx
    rw [pkL_succ, List.mem_append, List.mem_singleton] at hx
    rcases hx with hx | rfl
    · exact ih (fun j hj => h j (by omega)) x hx
    · obtain ⟨⟨h1, h2⟩, h3⟩ := h i (by omega)
      have := frP_ge (pkL f i) (f.length + 1 - (f.getD i 0).toNat) (f.getD i 0).toNat
      unfold plN at *
      omega
theorem pkL_at (f : List Int) : ∀ n i, i < n → (pkL f n).getD i 0 = (plN f i : Int) := by
  intro n
  induction n with
  | zero => intro i h; omega
  | succ n ih =>
    intro i h
    have hl := pkL_len f n
    rw [pkL_succ]
    by_cases e : i < n
    · rw [← ih i e]
      simp [List.getD, List.getElem?_append_left (show i < (pkL f n).length by omega)]
    · obtain rfl : i = n := by omega
      simp [List.getD, hl]

/-- How far the first i cars go on. -/
def dsN (f : List Int) : Nat → Int
  | 0 => 0
  | i + 1 => dsN f i + (plN f i : Int) - f.getD i 0
def dspP (f : List Int) : Int := if parkB f = true then dsN f f.length else -1
theorem dsN_bd {f : List Int} (h : parkB f = true) : ∀ i, i ≤ f.length → 0 ≤ dsN f i ∧ dsN f i ≤ 6 * i := by
  intro i
  induction i with
  | zero => intro _; exact ⟨Int.le_refl _, by simp [dsN]⟩
  | succ i ih =>
    intro hi
    obtain ⟨h6, hc⟩ := park_yes h
    obtain ⟨⟨h1, h2⟩, h3⟩ := hc i (by omega)
    have := ih (by omega)
    have hg := frP_ge (pkL f i) (f.length + 1 - (f.getD i 0).toNat) (f.getD i 0).toNat
    rw [dsN]
    unfold plN at *
    omega
/-- How many of the first i cars park where they wish. -/
def lkN (f : List Int) : Nat → Nat
  | 0 => 0
  | i + 1 => lkN f i + if (plN f i : Int) = f.getD i 0 then 1 else 0
theorem lkN_le (f : List Int) (i : Nat) : lkN f i ≤ i := by
  induction i with
  | zero => exact Nat.le_refl _
  | succ i ih => rw [lkN]; split <;> omega
def lckP (f : List Int) : Int := if parkB f = true then (lkN f f.length : Int) else -1
/-- One letter u for each of the first i cars that wish the place p. -/
def ppI (f : List Int) (p : Int) : Nat → List UInt8
  | 0 => []
  | i + 1 => ppI f p i ++ if f.getD i 0 = p then [117] else []
def ppL (f : List Int) : Nat → List UInt8
  | 0 => []
  | p + 1 => ppL f p ++ ppI f ((p : Int) + 1) f.length ++ [100]
theorem ppI_len (f : List Int) (p : Int) (i : Nat) : (ppI f p i).length ≤ i := by
  induction i with
  | zero => exact Nat.le_refl _
  | succ i ih => rw [ppI, List.length_append]; split <;> simp <;> omega
theorem ppL_len (f : List Int) (p : Nat) : (ppL f p).length ≤ p * (f.length + 1) := by
  induction p with
  | zero => exact Nat.zero_le _
  | succ p ih => rw [ppL, List.length_append, List.length_append, Nat.succ_mul]; have := ppI_len f ((p : Int) + 1) f.length; simp; omega
def ppP (f : List Int) : ByteArray := if parkB f = true then ⟨(ppL f f.length).toArray⟩ else ⟨#[]⟩

end Go.Proofs.Ytidfbnfgmacjgaa
