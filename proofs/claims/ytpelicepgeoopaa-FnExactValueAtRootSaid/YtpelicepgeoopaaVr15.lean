/- Division by a cyclotomic polynomial: all terms are within the bound: plain. -/
import Derived.Test.YtpelicepgeoopaaCyc15
namespace Go.Proofs.Ytpelicepgeoopaa
open Go.ChangeShapes Go.WideShapes Go.ChangeAt Go.RowKit
set_option linter.unusedVariables false

/-- What is left behind k of Q steps, whatever is divided. -/
def DR (A : Nat → Int) (b : List Int) (Q : Nat) : Nat → Nat → Int
  | 0 => fun q => A q
  | k + 1 => fun q => DR A b Q k q - if Q - 1 - k ≤ q ∧ q < Q - 1 - k + b.length then DR A b Q k (Q - 1 - k + b.length - 1) * b.getD (q - (Q - 1 - k)) 0 else 0
theorem DR_succ (A : Nat → Int) (b : List Int) (Q k q : Nat) : DR A b Q (k + 1) q = DR A b Q k q - if Q - 1 - k ≤ q ∧ q < Q - 1 - k + b.length then DR A b Q k (Q - 1 - k + b.length - 1) * b.getD (q - (Q - 1 - k)) 0 else 0 := rfl
theorem dvR_DR (a b : List Int) : ∀ k q, dvR a b k q = DR (fun q => a.getD q 0) b (dQ a b) k q := by
  intro k
  induction k with
  | zero => intro q; rfl
  | succ k ih => intro q; rw [DR_succ, ← ih, ← ih]; rfl
/-- Sums. -/
def sm (f : Nat → Int) : Nat → Int
  | 0 => 0
  | n + 1 => sm f n + f n
theorem sm_lin (c x y : Nat → Int) (z : Int) (n : Nat) : sm (fun i => c i * (x i - y i * z)) n = sm (fun i => c i * x i) n - sm (fun i => c i * y i) n * z := by
  induction n with
  | zero => simp [sm]
  | succ n ih =>
    rw [sm, sm, sm, ih, Int.add_mul, Int.mul_sub, ← Int.mul_assoc]; omega
theorem sm_same {f g : Nat → Int} (n : Nat) (h : ∀ i, i < n → f i = g i) : sm f n = sm g n := by
  induction n with
  | zero => rfl
  | succ n ih => rw [sm, sm, ih fun i hi => h i (by omega), h n (by omega)]
def uni (i q : Nat) : Int := if q = i then 1 else 0
theorem sm_uni (c : Nat → Int) (q : Nat) (n : Nat) : sm (fun i => c i * uni i q) n = if q < n then c q else 0 := by
  induction n with
  | zero => rfl
  | succ n ih =>
    rw [sm, ih]
    by_cases h : q < n
    · rw [if_pos h, if_pos (by omega)]; unfold uni; rw [if_neg (by omega)]; omega
    · by_cases e : q = n
      · subst e
        rw [if_neg h, if_pos (by omega)]; unfold uni; rw [if_pos rfl]; omega
      · rw [if_neg h, if_neg (by omega)]; unfold uni; rw [if_neg e]; omega
theorem DR_same {A B : Nat → Int} (b : List Int) (Q : Nat) (h : ∀ q, A q = B q) (k q : Nat) : DR A b Q k q = DR B b Q k q := by
  rw [show A = B from funext h]
theorem DR_lin (c : Nat → Int) (n : Nat) (b : List Int) (Q : Nat) : ∀ k q, DR (fun q => sm (fun i => c i * uni i q) n) b Q k q = sm (fun i => c i * DR (uni i) b Q k q) n := by
  intro k
  induction k with
  | zero => intro q; rfl
  | succ k ih =>
    intro q
    rw [DR_succ, ih, ih]
    by_cases h : Q - 1 - k ≤ q ∧ q < Q - 1 - k + b.length
    · rw [if_pos h, ← sm_lin]
      exact sm_same n fun i _ => by rw [DR_succ, if_pos h]
    · rw [if_neg h, Int.sub_zero]
      exact sm_same n fun i _ => by rw [DR_succ, if_neg h, Int.sub_zero]
theorem sm_bd {c x : Nat → Int} {C D : Nat} (n : Nat) (hc : ∀ i, i < n → (c i).natAbs ≤ C) (hx : ∀ i, i < n → (x i).natAbs ≤ D) : (sm (fun i => c i * x i) n).natAbs ≤ n * (C * D) := by
  induction n with
  | zero => simp [sm]
  | succ n ih =>
    have h1 := ih (fun i hi => hc i (by omega)) (fun i hi => hx i (by omega))
    have h2 : (c n * x n).natAbs ≤ C * D := by rw [Int.natAbs_mul]; exact Nat.mul_le_mul (hc n (by omega)) (hx n (by omega))
    rw [sm, Nat.succ_mul]
    omega
/-- Steps that find nothing. -/
theorem DR_idle (A : Nat → Int) (b : List Int) (Q s : Nat) (hs : s ≤ Q) (h : ∀ k, k < s → A (Q - 1 - k + b.length - 1) = 0) : ∀ k, k ≤ s → ∀ q, DR A b Q k q = A q := by
  intro k
  induction k with
  | zero => intro _ q; rfl
  | succ k ih =>
    intro hk q
    rw [DR_succ, ih (by omega), ih (by omega), h k (by omega), Int.zero_mul]
    split <;> omega
/-- The same with more steps ahead that find nothing. -/
theorem DR_pad (A : Nat → Int) (b : List Int) (Q s : Nat) (hb : 1 ≤ b.length) (h : ∀ q, Q + b.length - 1 ≤ q → A q = 0) : ∀ k, k ≤ Q → ∀ q, DR A b (Q + s) (s + k) q = DR A b Q k q := by
  intro k
  induction k with
  | zero => intro _ q; exact DR_idle A b (Q + s) s (by omega) (fun k hk => h _ (by omega)) s (Nat.le_refl _) q
  | succ k ih =>
    intro hk q
    rw [show s + (k + 1) = s + k + 1 by omega, DR_succ, DR_succ, ih (by omega), ih (by omega), show Q + s - 1 - (s + k) = Q - 1 - k by omega]
/-- A unit further below is the highest one, later. -/
theorem DR_unit (b : List Int) (Q i s : Nat) (hb : 1 ≤ b.length) (hi : i + s = Q + b.length - 2) (hs : s ≤ Q) : ∀ k, k + s ≤ Q → ∀ q, DR (uni i) b Q (k + s) q = DR (uni (i + s)) b Q k (q + s) := by
  intro k
  induction k with
  | zero =>
    intro _ q
    rw [Nat.zero_add]
    rw [DR_idle (uni i) b Q s hs (fun k hk => by unfold uni; rw [if_neg (by omega)]) s (Nat.le_refl _) q]
    show uni i q = uni (i + s) (q + s)
    unfold uni
    by_cases e : q = i
    · rw [if_pos e, if_pos (by omega)]
    · rw [if_neg e, if_neg (by omega)]
  | succ k ih =>
    intro hk q
    rw [show k + 1 + s = k + s + 1 by omega, DR_succ, DR_succ, ih (by omega), ih (by omega), show Q - 1 - (k + s) + b.length - 1 + s = Q - 1 - k + b.length - 1 by omega]
    by_cases e : Q - 1 - (k + s) ≤ q ∧ q < Q - 1 - (k + s) + b.length
    · rw [if_pos e, if_pos (by omega), show q + s - (Q - 1 - k) = q - (Q - 1 - (k + s)) by omega]
    · rw [if_neg e, if_neg (by omega)]
theorem DR_high (b : List Int) (Q : Nat) (hb : 1 ≤ b.length) (hQ : 1 ≤ Q) : ∀ k, k ≤ Q → ∀ q, Q + b.length - 2 < q → DR (uni (Q + b.length - 2)) b Q k q = 0 := by
  intro k
  induction k with
  | zero => intro _ q hq; show uni _ q = 0; unfold uni; rw [if_neg (by omega)]
  | succ k ih => intro hk q hq; rw [DR_succ, ih (by omega) q hq, if_neg (by omega)]; rfl
set_option maxRecDepth 100000 in
theorem cy_units : ∀ d, d < 17 → 1 ≤ d → ∀ k, k < 63 - (cyP d).length → ∀ q, q < 61 → (DR (uni 60) (cyP d) (62 - (cyP d).length) k q).natAbs ≤ 100 := by decide +kernel
set_option maxRecDepth 100000 in
theorem cy_dis : ∀ d, d < 17 → 1 ≤ d → disB (cyP d) = true := by decide +kernel
theorem unit_bd {d : Nat} (hd : d < 17) (hd1 : 1 ≤ d) {i : Nat} (hi : i < 61) {k : Nat} (hk : k ≤ 62 - (cyP d).length) (q : Nat) : (DR (uni i) (cyP d) (62 - (cyP d).length) k q).natAbs ≤ 100 := by
  obtain ⟨⟨l1, l2⟩, -⟩ := dis_parts (cy_dis d hd hd1)
  have hu : ∀ i q, (uni i q).natAbs ≤ 100 := fun i q => by unfold uni; split <;> decide
  have hT : ∀ k, k ≤ 62 - (cyP d).length → ∀ q, (DR (uni 60) (cyP d) (62 - (cyP d).length) k q).natAbs ≤ 100 := by
    intro k hk q
    by_cases e : q < 61
    · exact cy_units d hd hd1 k (by omega) q e
    · have h := DR_high (cyP d) (62 - (cyP d).length) l1 (by omega) k hk q (by omega)
      rw [show 62 - (cyP d).length + (cyP d).length - 2 = 60 by omega] at h
      rw [h]; decide
  obtain ⟨s, hs⟩ : ∃ s, s = 60 - i := ⟨_, rfl⟩
  by_cases e : s ≤ k
  · have h := DR_unit (cyP d) (62 - (cyP d).length) i s l1 (by omega) (by omega) (k - s) (by omega) q
    rw [show k - s + s = k by omega, show i + s = 60 by omega] at h
    rw [h]
    exact hT _ (by omega) _
  · rw [DR_idle (uni i) (cyP d) (62 - (cyP d).length) k hk (fun k' hk' => by unfold uni; rw [if_neg (by omega)]) k (Nat.le_refl _) q]
    exact hu i q
theorem div_bd {a : List Int} {d : Nat} (ha : facB a = true) (hd : d < 17) (hd1 : 1 ≤ d) {k : Nat} (hk : k ≤ dQ a (cyP d)) (q : Nat) : -1000000000 ≤ dvR a (cyP d) k q ∧ dvR a (cyP d) k q ≤ 1000000000 := by
  obtain ⟨a1, a2, a3⟩ := fac_parts ha
  obtain ⟨⟨l1, l2⟩, -⟩ := dis_parts (cy_dis d hd hd1)
  obtain ⟨s, hs⟩ : ∃ s, s = 62 - (cyP d).length - dQ a (cyP d) := ⟨_, rfl⟩
  have hQ : dQ a (cyP d) + s = 62 - (cyP d).length := by unfold dQ at hs ⊢; omega
  have h1 := DR_pad (fun q => a.getD q 0) (cyP d) (dQ a (cyP d)) s l1 (fun q hq => by
    show a.getD q 0 = 0
    rw [List.getD_eq_getElem?_getD, List.getElem?_eq_none (by unfold dQ at hq; omega)]; rfl) k hk q
  rw [dvR_DR, ← h1, hQ]
  have h2 : ∀ q, a.getD q 0 = sm (fun i => a.getD i 0 * uni i q) 61 := fun q => by
    rw [sm_uni (fun i => a.getD i 0)]
    split
    · rfl
    · rw [List.getD_eq_getElem?_getD, List.getElem?_eq_none (by omega)]; rfl
  rw [DR_same (cyP d) _ h2, DR_lin (fun i => a.getD i 0)]
  have h3 := sm_bd (c := fun i => a.getD i 0) (x := fun i => DR (uni i) (cyP d) (62 - (cyP d).length) (s + k) q) (C := 100000) (D := 100) 61 (fun i _ => by
    have := inB_at a1 (by omega) i
    show (a.getD i 0).natAbs ≤ 100000
    omega) (fun i hi => unit_bd hd hd1 hi (by omega) q)
  omega

end Go.Proofs.Ytpelicepgeoopaa
