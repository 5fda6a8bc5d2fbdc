/- ReversionOf: plain facts. -/
import Derived.Test.YtbikipacfmaiaaaSer30B
namespace Go.Proofs.Ytbikipacfmaiaaa
open Go.ChangeShapes Go.WideShapes Go.ChangeAt Go.RowKit
set_option linter.unusedVariables false

/-- The sum of the first t products of a coefficient and a value. -/
def sm (c f : Nat → Int) : Nat → Int
  | 0 => 0
  | t + 1 => sm c f t + c t * f t
theorem sm_succ (c f : Nat → Int) (t : Nat) : sm c f (t + 1) = sm c f t + c t * f t := rfl
theorem sm_congr {c c' f f' : Nat → Int} : ∀ t, (∀ i, i < t → c i = c' i ∧ f i = f' i) → sm c f t = sm c' f' t
  | 0, _ => rfl
  | t + 1, h => by rw [sm_succ, sm_succ, sm_congr t (fun i hi => h i (by omega)), (h t (by omega)).1, (h t (by omega)).2]
theorem sm_shift (c f : Nat → Int) : ∀ t, sm c f (t + 1) = c 0 * f 0 + sm (fun i => c (i + 1)) (fun i => f (i + 1)) t
  | 0 => by rw [sm_succ, sm, sm]; omega
  | t + 1 => by rw [sm_succ, sm_shift c f t, sm_succ]; omega
theorem sm_zero (c f : Nat → Int) : ∀ t, (∀ i, i < t → f i = 0) → sm c f t = 0
  | 0, _ => rfl
  | t + 1, h => by rw [sm_succ, sm_zero c f t (fun i hi => h i (by omega)), h t (by omega), Int.mul_zero, Int.add_zero]
theorem sm_tail (c f : Nat → Int) (t : Nat) (h : ∀ i, t ≤ i → f i = 0) : ∀ d, sm c f (t + d) = sm c f t
  | 0 => rfl
  | d + 1 => by rw [← Nat.add_assoc, sm_succ, sm_tail c f t h d, h (t + d) (by omega), Int.mul_zero, Int.add_zero]
theorem sm_mul (c f g : Nat → Int) (y : Int) : ∀ t, sm c f t + sm c g t * y = sm c (fun i => f i + g i * y) t
  | 0 => by simp [sm]
  | t + 1 => by
    rw [sm_succ, sm_succ, sm_succ, ← sm_mul c f g y t, Int.add_mul, Int.mul_add, Int.mul_assoc]
    omega
theorem sm_bd {c f F : Nat → Int} {L : Int} (hL : 0 ≤ L) (hc : ∀ i, -L ≤ c i ∧ c i ≤ L) (hf : ∀ i, -(F i) ≤ f i ∧ f i ≤ F i) : ∀ t, -(sm (fun _ => L) F t) ≤ sm c f t ∧ sm c f t ≤ sm (fun _ => L) F t
  | 0 => by simp [sm]
  | t + 1 => by
    have ih := sm_bd hL hc hf t
    have h1 := hc t
    have h2 := hf t
    rw [sm_succ, sm_succ]
    have : (c t * f t).natAbs ≤ L.toNat * (F t).toNat := by rw [Int.natAbs_mul]; exact Nat.mul_le_mul (by omega) (by omega)
    have e : ((L.toNat * (F t).toNat : Nat) : Int) = L * F t := by rw [Int.natCast_mul, Int.toNat_of_nonneg hL, Int.toNat_of_nonneg (by omega)]
    omega

/-- Products: bounded by those of the bounds, 0, and a sum of products. -/
theorem pS_dom {a b A B : List Int} (ha : ∀ q, -(A.getD q 0) ≤ a.getD q 0 ∧ a.getD q 0 ≤ A.getD q 0) (hb : ∀ q, -(B.getD q 0) ≤ b.getD q 0 ∧ b.getD q 0 ≤ B.getD q 0) (q : Nat) : ∀ k, -(pS A B q k) ≤ pS a b q k ∧ pS a b q k ≤ pS A B q k
  | 0 => by simp [pS]
  | k + 1 => by
    have ih := pS_dom ha hb q k
    have h1 := ha k
    have h2 := hb (q - k)
    rw [pS_succ, pS_succ]
    have : (a.getD k 0 * b.getD (q - k) 0).natAbs ≤ (A.getD k 0).toNat * (B.getD (q - k) 0).toNat := by rw [Int.natAbs_mul]; exact Nat.mul_le_mul (by omega) (by omega)
    have e : (((A.getD k 0).toNat * (B.getD (q - k) 0).toNat : Nat) : Int) = A.getD k 0 * B.getD (q - k) 0 := by rw [Int.natCast_mul, Int.toNat_of_nonneg (by omega), Int.toNat_of_nonneg (by omega)]
    omega
theorem pS_nil {a b : List Int} {q : Nat} : ∀ k, (∀ i, i < k → a.getD i 0 * b.getD (q - i) 0 = 0) → pS a b q k = 0
  | 0, _ => rfl
  | k + 1, h => by rw [pS_succ, pS_nil k (fun i hi => h i (by omega)), h k (by omega)]; rfl
theorem pS_sm {H b : List Int} {c : Nat → Int} {P : Nat → List Int} {t q : Nat} : ∀ k, (∀ j, j < k → H.getD j 0 = sm c (fun i => (P i).getD j 0) t) → pS H b q k = sm c (fun i => pS (P i) b q k) t
  | 0, _ => (sm_zero _ _ t (fun _ _ => rfl)).symm
  | k + 1, h => by
    rw [pS_succ, pS_sm k (fun j hj => h j (by omega)), h k (by omega), sm_mul]
    rfl

/-- The powers of a series. -/
def pwL (o : List Int) (N : Nat) : Nat → List Int
  | 0 => (List.range N).map fun q => if q = 0 then 1 else 0
  | k + 1 => tmL (pwL o N k) o N
theorem pwL_len (o : List Int) (N : Nat) : ∀ k, (pwL o N k).length = N
  | 0 => by simp [pwL]
  | k + 1 => by rw [pwL, tmL_len]
theorem getD_out {l : List Int} {q : Nat} (h : l.length ≤ q) : l.getD q 0 = 0 := by rw [List.getD_eq_getElem?_getD, List.getElem?_eq_none h]; rfl
theorem pwL_zero {o : List Int} {N q : Nat} (h : q < N) : (pwL o N 0).getD q 0 = if q = 0 then 1 else 0 := by simp [pwL, List.getD, h]
theorem pwL_next {o : List Int} {N q : Nat} (k : Nat) (h : q < N) : (pwL o N (k + 1)).getD q 0 = pS (pwL o N k) o q (q + 1) := by rw [pwL, tmL_at _ _ h]
theorem pS_first {a b : List Int} {q : Nat} : ∀ k, (∀ i, 1 ≤ i → i < k + 1 → a.getD i 0 = 0) → pS a b q (k + 1) = a.getD 0 0 * b.getD q 0
  | 0, _ => by rw [pS_succ, pS]; simp
  | k + 1, h => by rw [pS_succ, pS_first k (fun i h1 h2 => h i h1 (by omega)), h (k + 1) (by omega) (by omega), Int.zero_mul, Int.add_zero]
theorem list_ext {a b : List Int} (h : a.length = b.length) (hg : ∀ q, q < a.length → a.getD q 0 = b.getD q 0) : a = b := by
  apply List.ext_getElem h
  intro q h1 h2
  have := hg q h1
  simpa [List.getD, h1, h2] using this
theorem pwL_one {o : List Int} {N : Nat} (ho : o.length = N) : pwL o N 1 = o := by
  refine list_ext (by rw [pwL_len, ho]) fun q hq => ?_
  rw [pwL_len] at hq
  rw [pwL_next 0 hq, pS_first q (fun i h1 h2 => by rw [pwL_zero (by omega), if_neg (by omega)]), pwL_zero (by omega), if_pos rfl, Int.one_mul]
/-- A power has no terms below its exponent. -/
theorem pwL_low {o : List Int} {N : Nat} (h0 : o.getD 0 0 = 0) : ∀ k q, q < k → (pwL o N k).getD q 0 = 0
  | 0, q, h => by omega
  | k + 1, q, h => by
    by_cases hq : q < N
    · rw [pwL_next k hq]
      refine pS_nil _ fun i hi => ?_
      by_cases e : i < k
      · rw [pwL_low h0 k i e, Int.zero_mul]
      · rw [show q - i = 0 by omega, h0, Int.mul_zero]
    · exact getD_out (by rw [pwL_len]; omega)
/-- The sum that the reversion's term n takes away. -/
def hS (a o : List Int) (N n k : Nat) : Int := sm (fun j => a.getD j 0) (fun j => (pwL o N j).getD n 0) k
theorem hS_succ (a o : List Int) (N n k : Nat) : hS a o N n (k + 1) = hS a o N n k + a.getD k 0 * (pwL o N k).getD n 0 := rfl
theorem hS_two {a o : List Int} {N n : Nat} (ho : o.length = N) (hn : n < N) (h2 : 2 ≤ n) (hz : o.getD n 0 = 0) : hS a o N n 2 = 0 := by
  refine sm_zero _ _ 2 fun i hi => ?_
  match i, hi with
  | 0, _ => show (pwL o N 0).getD n 0 = 0; rw [pwL_zero hn, if_neg (by omega)]
  | 1, _ => show (pwL o N 1).getD n 0 = 0; rw [pwL_one ho, hz]
/-- Horner's rule, step by step. -/
def ofL (a o : List Int) (N : Nat) : Nat → List Int
  | 0 => (List.range N).map fun _ => 0
  | t + 1 => (tmL (ofL a o N t) o N).set 0 ((tmL (ofL a o N t) o N).getD 0 0 + a.getD (N - 1 - t) 0)
theorem ofL_len (a o : List Int) (N : Nat) : ∀ t, (ofL a o N t).length = N
  | 0 => by simp [ofL]
  | t + 1 => by rw [ofL, List.length_set, tmL_len]
theorem set0_at (l : List Int) (x : Int) (q : Nat) (h : 0 < l.length) : (l.set 0 x).getD q 0 = if q = 0 then x else l.getD q 0 := by
  by_cases e : q = 0
  · subst e; simp [List.getD, h]
  · rw [if_neg e]; simp [List.getD, Ne.symm e]
theorem ofL_is {a o : List Int} {N : Nat} : ∀ t, t ≤ N → ∀ q, q < N → (ofL a o N t).getD q 0 = sm (fun i => a.getD (N - t + i) 0) (fun i => (pwL o N i).getD q 0) t
  | 0, _, q, hq => by simp [ofL, sm, List.getD, hq]
  | t + 1, ht, q, hq => by
    have hl : 0 < (tmL (ofL a o N t) o N).length := by rw [tmL_len]; omega
    have hp : ∀ q, q < N → (tmL (ofL a o N t) o N).getD q 0 = sm (fun i => a.getD (N - (t + 1) + (i + 1)) 0) (fun i => (pwL o N (i + 1)).getD q 0) t := by
      intro q hq
      rw [tmL_at _ _ hq, pS_sm (c := fun i => a.getD (N - t + i) 0) (P := pwL o N) (t := t) (q + 1) (fun j hj => ofL_is t (by omega) j (by omega))]
      exact sm_congr t fun i hi => ⟨by congr 1; omega, (pwL_next i hq).symm⟩
    rw [ofL, set0_at _ _ _ hl, sm_shift]
    by_cases e : q = 0
    · subst e
      rw [if_pos rfl, hp 0 hq, pwL_zero hq, if_pos rfl, show N - (t + 1) + 0 = N - 1 - t by omega]; omega
    · rw [if_neg e, hp q hq, pwL_zero hq, if_neg e, Int.mul_zero, Int.zero_add]
theorem of_hS {a o : List Int} {N n : Nat} (h0 : o.getD 0 0 = 0) (hn : n < N) : (ofL a o N N).getD n 0 = hS a o N n (n + 1) := by
  rw [ofL_is N (Nat.le_refl _) n hn]
  have e := sm_tail (fun i => a.getD (N - N + i) 0) (fun i => (pwL o N i).getD n 0) (n + 1) (fun i hi => pwL_low h0 i n (by omega)) (N - (n + 1))
  rw [show n + 1 + (N - (n + 1)) = N by omega] at e
  rw [e]
  exact sm_congr _ fun i _ => ⟨by congr 1; omega, rfl⟩

/-- The reversion's first terms, and zeros. -/
def rvZ (a : List Int) (N : Nat) : Nat → List Int
  | 0 => (List.range N).map fun q => if q = 1 then 1 else 0
  | i + 1 => (rvZ a N i).set (i + 2) (-(hS a (rvZ a N i) N (i + 2) (i + 3)))
theorem rvZ_len (a : List Int) (N : Nat) : ∀ i, (rvZ a N i).length = N
  | 0 => by simp [rvZ]
  | i + 1 => by rw [rvZ, List.length_set, rvZ_len a N i]
theorem rvZ_start {a : List Int} {N q : Nat} (h : q < N) : (rvZ a N 0).getD q 0 = if q = 1 then 1 else 0 := by simp [rvZ, List.getD, h]
theorem setD_at (l : List Int) (x : Int) (k q : Nat) : (l.set k x).getD q 0 = if q = k ∧ k < l.length then x else l.getD q 0 := by
  by_cases e : q = k
  · subst e
    by_cases h : q < l.length
    · rw [if_pos ⟨rfl, h⟩]; simp [List.getD, h]
    · rw [if_neg (by omega), getD_out (by rw [List.length_set]; omega), getD_out (by omega)]
  · rw [if_neg (by omega)]; simp [List.getD, Ne.symm e]
theorem rvZ_next (a : List Int) (N i q : Nat) : (rvZ a N (i + 1)).getD q 0 = if q = i + 2 ∧ i + 2 < N then -(hS a (rvZ a N i) N (i + 2) (i + 3)) else (rvZ a N i).getD q 0 := by rw [rvZ, setD_at, rvZ_len]
theorem rvZ_high {a : List Int} {N : Nat} : ∀ i q, i + 2 ≤ q → (rvZ a N i).getD q 0 = 0
  | 0, q, h => by
    by_cases hq : q < N
    · rw [rvZ_start hq, if_neg (by omega)]
    · exact getD_out (by rw [rvZ_len]; omega)
  | i + 1, q, h => by rw [rvZ_next, if_neg (by omega), rvZ_high i q (by omega)]
theorem rvZ_nil {a : List Int} {N : Nat} : ∀ i, (rvZ a N i).getD 0 0 = 0
  | 0 => by
    by_cases hq : 0 < N
    · rw [rvZ_start hq]; rfl
    · exact getD_out (by rw [rvZ_len]; omega)
  | i + 1 => by rw [rvZ_next, if_neg (by omega), rvZ_nil i]
/-- Bounds of the reversion's terms: those of a series whose terms are all 3. -/
def UL : List Int := [0, 1, 3, 21, 183, 1785, 18651, 204141]
def UF (n : Nat) : Nat → Int := fun j => if j < 2 then 0 else (pwL UL 8 j).getD n 0
theorem UF_is : ∀ n, n < 8 → 2 ≤ n → sm (fun _ => 3) (UF n) (n + 1) = UL.getD n 0 := by decide +kernel
theorem UP_bd : ∀ k, k < 9 → ∀ q, q < 8 → 0 ≤ (pwL UL 8 k).getD q 0 ∧ (pwL UL 8 k).getD q 0 ≤ 204141 := by decide +kernel
theorem UL_nn (q : Nat) : 0 ≤ UL.getD q 0 ∧ UL.getD q 0 ≤ 204141 := by
  by_cases h : q < 8
  · have : ∀ q, q < 8 → 0 ≤ UL.getD q 0 ∧ UL.getD q 0 ≤ 204141 := by decide
    exact this q h
  · rw [getD_out (show UL.length ≤ q from by show 8 ≤ q; omega)]; decide
theorem UP_nn (k q : Nat) (hk : k < 9) : 0 ≤ (pwL UL 8 k).getD q 0 ∧ (pwL UL 8 k).getD q 0 ≤ 204141 := by
  by_cases h : q < 8
  · exact UP_bd k hk q h
  · rw [getD_out (by rw [pwL_len]; omega)]; decide
def Dom (o : List Int) : Prop := ∀ q, -(UL.getD q 0) ≤ o.getD q 0 ∧ o.getD q 0 ≤ UL.getD q 0
theorem pw_dom {o : List Int} {N : Nat} (hd : Dom o) (hN : N ≤ 8) : ∀ k, k < 9 → ∀ q, -((pwL UL 8 k).getD q 0) ≤ (pwL o N k).getD q 0 ∧ (pwL o N k).getD q 0 ≤ (pwL UL 8 k).getD q 0 := by
  intro k
  induction k with
  | zero =>
    intro hk q
    by_cases hq : q < N
    · rw [pwL_zero hq, pwL_zero (show q < 8 by omega)]; split <;> decide
    · have := UP_nn 0 q hk
      rw [getD_out (l := pwL o N 0) (by rw [pwL_len]; omega)]; omega
  | succ k ih =>
    intro hk q
    by_cases hq : q < N
    · rw [pwL_next k hq, pwL_next k (show q < 8 by omega)]
      exact pS_dom (ih (by omega)) hd q (q + 1)
    · have := UP_nn (k + 1) q hk
      rw [getD_out (l := pwL o N (k + 1)) (by rw [pwL_len]; omega)]; omega
theorem pw_in {o : List Int} {N : Nat} (hd : Dom o) (hN : N ≤ 8) (k q : Nat) (hk : k < 9) : -204141 ≤ (pwL o N k).getD q 0 ∧ (pwL o N k).getD q 0 ≤ 204141 := by
  have h1 := pw_dom hd hN k hk q
  have h2 := UP_nn k q hk
  omega
theorem hS_in {a o : List Int} {N : Nat} (ha : ∀ q, -3 ≤ a.getD q 0 ∧ a.getD q 0 ≤ 3) (hd : Dom o) (hN : N ≤ 8) (n k : Nat) (hk : k ≤ 8) : -4899384 ≤ hS a o N n k ∧ hS a o N n k ≤ 4899384 := by
  have h : ∀ k : Nat, k ≤ 8 → -(612423 * (k : Int)) ≤ hS a o N n k ∧ hS a o N n k ≤ 612423 * (k : Int) := by
    intro k
    induction k with
    | zero => intro _; simp [hS, sm]
    | succ k ih =>
      intro hk
      have h1 := ih (by omega)
      have h2 := pw_in hd hN k n (by omega)
      have h3 := ha k
      rw [hS_succ]
      have : (a.getD k 0 * (pwL o N k).getD n 0).natAbs ≤ 3 * 204141 := by rw [Int.natAbs_mul]; exact Nat.mul_le_mul (by omega) (by omega)
      generalize hS a o N n k = s at *
      omega
  have := h k hk
  omega
theorem rv_dom {a : List Int} {N : Nat} (ha : ∀ q, -3 ≤ a.getD q 0 ∧ a.getD q 0 ≤ 3) (hN : N ≤ 8) : ∀ i, Dom (rvZ a N i) := by
  intro i
  induction i with
  | zero =>
    intro q
    have h := UL_nn q
    by_cases hq : q < N
    · rw [rvZ_start hq]
      by_cases e : q = 1
      · subst e; decide
      · rw [if_neg e]; omega
    · rw [getD_out (l := rvZ a N 0) (by rw [rvZ_len]; omega)]; omega
  | succ i ih =>
    intro q
    rw [rvZ_next]
    split
    · rename_i h
      obtain ⟨rfl, hi⟩ := h
      have hb : ∀ j, -(UF (i + 2) j) ≤ (fun j => if j < 9 then (pwL (rvZ a N i) N j).getD (i + 2) 0 else 0) j ∧ (fun j => if j < 9 then (pwL (rvZ a N i) N j).getD (i + 2) 0 else 0) j ≤ UF (i + 2) j := by
        intro j
        show -(UF (i + 2) j) ≤ (if j < 9 then _ else 0) ∧ (if j < 9 then _ else 0) ≤ UF (i + 2) j
        unfold UF
        by_cases h9 : j < 9
        · rw [if_pos h9]
          by_cases h2 : j < 2
          · rw [if_pos h2]
            match j, h2 with
            | 0, _ => rw [pwL_zero (by omega), if_neg (by omega)]; decide
            | 1, _ => rw [pwL_one (rvZ_len _ _ _), rvZ_high i _ (Nat.le_refl _)]; decide
          · rw [if_neg h2]
            exact pw_dom ih hN j h9 (i + 2)
        · rw [if_neg h9, if_neg (by omega)]
          rw [pwL_low (show UL.getD 0 0 = 0 from rfl) j (i + 2) (by omega)]; decide
      have hm := sm_bd (L := 3) (by decide) ha hb (i + 3)
      rw [UF_is (i + 2) (by omega) (by omega)] at hm
      have e : sm (fun j => a.getD j 0) (fun j => if j < 9 then (pwL (rvZ a N i) N j).getD (i + 2) 0 else 0) (i + 3) = hS a (rvZ a N i) N (i + 2) (i + 3) := sm_congr _ fun j hj => ⟨rfl, if_pos (by omega)⟩
      rw [e] at hm
      omega
    · exact ih q
theorem dom_in {o : List Int} (h : Dom o) (q : Nat) : -204141 ≤ o.getD q 0 ∧ o.getD q 0 ≤ 204141 := by
  have h1 := h q
  have h2 := UL_nn q
  omega
theorem mul_in {x y X Y : Int} (hx : -X ≤ x ∧ x ≤ X) (hy : -Y ≤ y ∧ y ≤ Y) : -(X * Y) ≤ x * y ∧ x * y ≤ X * Y := by
  have : (x * y).natAbs ≤ X.toNat * Y.toNat := by rw [Int.natAbs_mul]; exact Nat.mul_le_mul (by omega) (by omega)
  have e : ((X.toNat * Y.toNat : Nat) : Int) = X * Y := by rw [Int.natCast_mul, Int.toNat_of_nonneg (by omega), Int.toNat_of_nonneg (by omega)]
  omega
theorem pw_mul {o : List Int} {N : Nat} (hd : Dom o) (hN : N ≤ 8) (k : Nat) (hk : k < 9) (i j : Nat) : -(1000000000000 : Int) ≤ (pwL o N k).getD i 0 * o.getD j 0 ∧ (pwL o N k).getD i 0 * o.getD j 0 ≤ 1000000000000 := by
  have := mul_in (pw_in hd hN k i hk) (dom_in hd j)
  omega
theorem of_in {a o : List Int} {N : Nat} (ha : ∀ q, -3 ≤ a.getD q 0 ∧ a.getD q 0 ≤ 3) (hd : Dom o) (hN : N ≤ 8) (t : Nat) (ht : t ≤ N) (q : Nat) : -4899384 ≤ (ofL a o N t).getD q 0 ∧ (ofL a o N t).getD q 0 ≤ 4899384 := by
  by_cases hq : q < N
  · rw [ofL_is t ht q hq]
    have h : ∀ k : Nat, k ≤ 8 → -(612423 * (k : Int)) ≤ sm (fun i => a.getD (N - t + i) 0) (fun i => (pwL o N i).getD q 0) k ∧ sm (fun i => a.getD (N - t + i) 0) (fun i => (pwL o N i).getD q 0) k ≤ 612423 * (k : Int) := by
      intro k
      induction k with
      | zero => intro _; simp [sm]
      | succ k ih =>
        intro hk
        have h1 := ih (by omega)
        have h2 := pw_in hd hN k q (by omega)
        have h3 := ha (N - t + k)
        rw [sm_succ]
        have : (a.getD (N - t + k) 0 * (pwL o N k).getD q 0).natAbs ≤ 3 * 204141 := by rw [Int.natAbs_mul]; exact Nat.mul_le_mul (by omega) (by omega)
        generalize sm (fun i => a.getD (N - t + i) 0) (fun i => (pwL o N i).getD q 0) k = s at *
        omega
    have := h t (by omega)
    omega
  · rw [getD_out (by rw [ofL_len]; omega)]; decide
theorem of_mul {a o : List Int} {N : Nat} (ha : ∀ q, -3 ≤ a.getD q 0 ∧ a.getD q 0 ≤ 3) (hd : Dom o) (hN : N ≤ 8) (t : Nat) (ht : t ≤ N) (i j : Nat) : -(1000165200000 : Int) ≤ (ofL a o N t).getD i 0 * o.getD j 0 ∧ (ofL a o N t).getD i 0 * o.getD j 0 ≤ 1000165200000 := by
  have := mul_in (of_in ha hd hN t ht i) (dom_in hd j)
  omega
def rvGood (a : List Int) : Prop := (2 ≤ a.length ∧ a.length ≤ 8) ∧ (a.getD 0 0 = 0 ∧ a.getD 1 0 = 1) ∧ inB 3 a = true
instance (a : List Int) : Decidable (rvGood a) := by unfold rvGood; infer_instance
def rvOk (a : List Int) : Bool := decide (rvGood a)
def rvP (a : List Int) : List Int := if rvOk a = true then rvZ a a.length (a.length - 2) else []
theorem rvP_len (a : List Int) : (rvP a).length ≤ 8 := by
  unfold rvP
  split
  · rename_i h
    have h2 : rvGood a := of_decide_eq_true h
    rw [rvZ_len]; exact h2.1.2
  · simp
theorem rv_fin {a : List Int} (h : rvGood a) : finB a = true := by
  unfold finB
  rw [decide_eq_true (by have := h.1; omega), Bool.and_true, inB_iff]
  intro j hj
  have := (inB_iff _ _).1 h.2.2 j hj
  omega

end Go.Proofs.Ytbikipacfmaiaaa
