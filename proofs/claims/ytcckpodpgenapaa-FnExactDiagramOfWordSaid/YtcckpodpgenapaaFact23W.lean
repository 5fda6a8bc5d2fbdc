/- Plain facts of words of hooks: a diagram above a hook is a diagram. -/
import Derived.Test.YtcckpodpgenapaaFact23M
namespace Go.Proofs.Ytcckpodpgenapaa
open Go.ChangeShapes Go.WideShapes Go.ChangeAt Go.RowKit
set_option linter.unusedVariables false

theorem crIn_zero {xs : List Int} {a : Nat} : ∀ k, (∀ j, j < k → ¬ (((a + 1 + j : Nat) : Int) < xs.getD a 0 ∧ xs.getD a 0 < xs.getD (a + 1 + j) 0)) → crIn xs a k = 0 := by
  intro k
  induction k with
  | zero => intro _; rfl
  | succ k ih => intro h; rw [crIn, ih (fun j hj => h j (by omega)), crR, if_neg (h k (by omega))]
theorem crIn_none {xs : List Int} {a : Nat} : ∀ k, crIn xs a k = 0 → ∀ j, j < k → ¬ (((a + 1 + j : Nat) : Int) < xs.getD a 0 ∧ xs.getD a 0 < xs.getD (a + 1 + j) 0) := by
  intro k
  induction k with
  | zero => intro _ j hj; omega
  | succ k ih =>
    intro h j hj hh
    rw [crIn] at h
    by_cases e : j < k
    · exact ih (by omega) j e hh
    · obtain rfl : j = k := by omega
      rw [crR, if_pos hh] at h; omega
theorem crOut_zero {xs : List Int} : ∀ k, (∀ a, a < k → crIn xs a (xs.length - (a + 1)) = 0) → crOut xs k = 0 := by
  intro k
  induction k with
  | zero => intro _; rfl
  | succ k ih => intro h; rw [crOut, ih (fun a ha => h a (by omega)), h k (by omega)]
theorem crOut_none {xs : List Int} : ∀ k, crOut xs k = 0 → ∀ a, a < k → crIn xs a (xs.length - (a + 1)) = 0 := by
  intro k
  induction k with
  | zero => intro _ a ha; omega
  | succ k ih =>
    intro h a ha
    rw [crOut] at h
    by_cases e : a < k
    · exact ih (by omega) a e
    · obtain rfl : a = k := by omega
      omega
theorem dia_of {xs : List Int} (hm : matchP xs = true) (h2 : 2 ≤ xs.length) (hn : ∀ a b, a < b → b < nx xs a → nx xs a < nx xs b → b < xs.length → False) : diaB xs = true := by
  unfold diaB
  rw [Bool.and_eq_true]
  refine ⟨decide_eq_true h2, ?_⟩
  unfold crossP
  rw [if_pos hm, crOut_zero xs.length (fun a ha => crIn_zero _ fun j hj hh => ?_)]
  · rfl
  · have e1 := (nx_match hm (q := a) ha).2.2.2
    have e2 := (nx_match hm (q := a + 1 + j) (by omega)).2.2.2
    rw [e1, e2] at hh
    exact hn a (a + 1 + j) (by omega) (by omega) (by omega) (by omega)
theorem dia_nx {xs : List Int} (h : diaB xs = true) {a b : Nat} (h1 : a < b) (h2 : b < nx xs a) (h3 : nx xs a < nx xs b) (h4 : b < xs.length) : False := by
  have hm := (dia_match h).1
  unfold diaB at h
  rw [Bool.and_eq_true] at h
  have hc := h.2
  unfold crossP at hc
  rw [if_pos hm] at hc
  have hz : crOut xs xs.length = 0 := by simpa using hc
  have e1 := (nx_match hm (q := a) (by omega)).2.2.2
  have e2 := (nx_match hm (q := b) h4).2.2.2
  have := crIn_none _ (crOut_none _ hz a (by omega)) (b - (a + 1)) (by omega)
  rw [show a + 1 + (b - (a + 1)) = b by omega, e1, e2] at this
  omega

section
variable {f : Nat → Nat} {N : Nat}
theorem nc8 (hf : ∀ p, p < N → f p < N ∧ f p ≠ p ∧ f (f p) = p) (hn : ∀ a b, a < b → b < f a → f a < f b → b < N → False) {x y : Nat} (hx : x < N) (hy : y < N) :
    ¬ (x < y ∧ y < f x ∧ f x < f y) ∧ ¬ (y < x ∧ x < f y ∧ f y < f x) ∧ ¬ (f x < y ∧ y < x ∧ x < f y) ∧ ¬ (y < f x ∧ f x < f y ∧ f y < x) ∧ ¬ (x < f y ∧ f y < f x ∧ f x < y) ∧ ¬ (f y < x ∧ x < y ∧ y < f x) ∧ ¬ (f x < f y ∧ f y < x ∧ x < y) ∧ ¬ (f y < f x ∧ f x < y ∧ y < x) := by
  obtain ⟨a1, a2, a3⟩ := hf x hx
  obtain ⟨b1, b2, b3⟩ := hf y hy
  refine ⟨fun ⟨h1, h2, h3⟩ => hn x y h1 h2 h3 hy, fun ⟨h1, h2, h3⟩ => hn y x h1 h2 h3 hx, fun ⟨h1, h2, h3⟩ => hn (f x) y h1 (by rw [a3]; exact h2) (by rw [a3]; exact h3) hy, fun ⟨h1, h2, h3⟩ => hn y (f x) h1 h2 (by rw [a3]; exact h3) a1,
    fun ⟨h1, h2, h3⟩ => hn x (f y) h1 h2 (by rw [b3]; exact h3) b1, fun ⟨h1, h2, h3⟩ => hn (f y) x h1 (by rw [b3]; exact h2) (by rw [b3]; exact h3) hx, fun ⟨h1, h2, h3⟩ => hn (f x) (f y) h1 (by rw [a3]; exact h2) (by rw [a3, b3]; exact h3) b1, fun ⟨h1, h2, h3⟩ => hn (f y) (f x) h1 (by rw [b3]; exact h2) (by rw [b3, a3]; exact h3) a1⟩
/-- The partners when a hook stands below: what was joined to its two points is joined. -/
def Mf (f : Nat → Nat) (l r p : Nat) : Nat := if p = l then r else if p = r then l else if f p = l then f r else if f p = r then f l else f p
theorem Mf_l (l r : Nat) : Mf f l r l = r := if_pos rfl
theorem Mf_r {l r : Nat} (h : l ≠ r) : Mf f l r r = l := by unfold Mf; rw [if_neg (Ne.symm h), if_pos rfl]
theorem Mf_a {l r p : Nat} (h1 : p ≠ l) (h2 : p ≠ r) (h3 : f p = l) : Mf f l r p = f r := by unfold Mf; rw [if_neg h1, if_neg h2, if_pos h3]
theorem Mf_b {l r p : Nat} (h1 : p ≠ l) (h2 : p ≠ r) (h : l ≠ r) (h3 : f p = r) : Mf f l r p = f l := by unfold Mf; rw [if_neg h1, if_neg h2, if_neg (by rw [h3]; exact Ne.symm h), if_pos h3]
theorem Mf_o {l r p : Nat} (h1 : p ≠ l) (h2 : p ≠ r) (h3 : f p ≠ l) (h4 : f p ≠ r) : Mf f l r p = f p := by unfold Mf; rw [if_neg h1, if_neg h2, if_neg h3, if_neg h4]
theorem Mf_inv (hf : ∀ p, p < N → f p < N ∧ f p ≠ p ∧ f (f p) = p) {l r : Nat} (hlr : l ≠ r) (hl : l < N) (hr : r < N) {p : Nat} (hp : p < N) : Mf f l r p < N ∧ Mf f l r p ≠ p ∧ Mf f l r (Mf f l r p) = p := by
  have fl := hf l hl
  have fr := hf r hr
  have fp := hf p hp
  by_cases h1 : p = l
  · subst h1; rw [Mf_l, Mf_r hlr]; exact ⟨hr, Ne.symm hlr, rfl⟩
  by_cases h2 : p = r
  · subst h2; rw [Mf_r hlr, Mf_l]; exact ⟨hl, hlr, rfl⟩
  by_cases h3 : f p = l
  · have e : f l = p := by rw [← h3]; exact fp.2.2
    have n1 : f r ≠ l := fun h => h2 (by rw [← e, ← h, fr.2.2])
    rw [Mf_a h1 h2 h3, Mf_b n1 fr.2.1 hlr fr.2.2]
    exact ⟨fr.1, fun h => by rw [← h, fr.2.2] at h3; exact hlr h3.symm, e⟩
  by_cases h4 : f p = r
  · have e : f r = p := by rw [← h4]; exact fp.2.2
    have n1 : f l ≠ r := fun h => h1 (by rw [← e, ← h, fl.2.2])
    rw [Mf_b h1 h2 hlr h4, Mf_a fl.2.1 n1 fl.2.2]
    exact ⟨fl.1, fun h => by rw [← h, fl.2.2] at h4; exact hlr h4, e⟩
  · rw [Mf_o h1 h2 h3 h4, Mf_o h3 h4 (by rw [fp.2.2]; exact h1) (by rw [fp.2.2]; exact h2)]
    exact ⟨fp.1, fp.2.1, fp.2.2⟩
set_option maxHeartbeats 3200000 in
theorem Mf_nc (hf : ∀ p, p < N → f p < N ∧ f p ≠ p ∧ f (f p) = p) (hn : ∀ a b, a < b → b < f a → f a < f b → b < N → False) {l r : Nat} (hlr : l = r + 1) (hl : l < N) {a b : Nat} (h1 : a < b) (h2 : b < Mf f l r a) (h3 : Mf f l r a < Mf f l r b) (hb : b < N) : False := by
  have hne : l ≠ r := by omega
  by_cases a1 : a = l
  · subst a1; rw [Mf_l] at h2; omega
  by_cases a2 : a = r
  · subst a2; rw [Mf_r hne] at h2; omega
  by_cases b1 : b = l
  · subst b1; rw [Mf_l] at h3; omega
  by_cases b2 : b = r
  · subst b2; rw [Mf_r hne] at h3; omega
  have fl := hf l hl
  have fr := hf r (by omega)
  have fa := hf a (by omega)
  have fb := hf b hb
  obtain ⟨c1, c2, c3, c4, c5, c6, c7, c8⟩ := nc8 hf hn (x := a) (y := b) (by omega) hb
  by_cases a3 : f a = l
  · rw [Mf_a a1 a2 a3] at h2 h3
    by_cases b3 : f b = l
    · have : a = b := by rw [← fa.2.2, ← fb.2.2, a3, b3]
      omega
    by_cases b4 : f b = r
    · have : f r = b := by rw [← b4]; exact fb.2.2
      omega
    rw [Mf_o b1 b2 b3 b4] at h3
    obtain ⟨d1, d2, d3, d4, d5, d6, d7, d8⟩ := nc8 hf hn (x := r) (y := b) (by omega) hb
    have e : f l = a := by rw [← a3]; exact fa.2.2
    rw [a3] at c1
    clear c2 c3 c4 c5 c6 c7 c8 d2 d3 d5 d6 d7 d8
    omega
  by_cases a4 : f a = r
  · rw [Mf_b a1 a2 hne a4] at h2 h3
    by_cases b3 : f b = l
    · have : f l = b := by rw [← b3]; exact fb.2.2
      omega
    by_cases b4 : f b = r
    · have : a = b := by rw [← fa.2.2, ← fb.2.2, a4, b4]
      omega
    rw [Mf_o b1 b2 b3 b4] at h3
    obtain ⟨d1, d2, d3, d4, d5, d6, d7, d8⟩ := nc8 hf hn (x := l) (y := b) hl hb
    rw [a4] at c1
    clear c2 c3 c4 c5 c6 c7 c8 d2 d3 d5 d6 d7 d8
    omega
  rw [Mf_o a1 a2 a3 a4] at h2 h3
  by_cases b3 : f b = l
  · rw [Mf_a b1 b2 b3] at h3
    obtain ⟨d1, d2, d3, d4, d5, d6, d7, d8⟩ := nc8 hf hn (x := a) (y := r) (by omega) (by omega)
    rw [b3] at c1 c6
    clear c2 c3 c4 c5 c7 c8 d2 d3 d4 d5 d6 d7 d8
    omega
  by_cases b4 : f b = r
  · rw [Mf_b b1 b2 hne b4] at h3
    obtain ⟨d1, d2, d3, d4, d5, d6, d7, d8⟩ := nc8 hf hn (x := a) (y := l) (by omega) hl
    rw [b4] at c1 c6
    clear c2 c3 c4 c5 c7 c8 d2 d3 d4 d5 d6 d7 d8
    omega
  rw [Mf_o b1 b2 b3 b4] at h3
  exact hn a b h1 h2 h3 hb
end

/-- A hook's partners. -/
def hb (n i q : Nat) : Nat := if q = i then i + 1 else if q = i + 1 then i else if q = 2 * n - 1 - i then 2 * n - 2 - i else if q = 2 * n - 2 - i then 2 * n - 1 - i else 2 * n - 1 - q
theorem hk_nx : ∀ n, n < 9 → ∀ i, i < 8 → i + 1 < n → ∀ q, q < 16 → q < 2 * n → nx (hkL n i) q = hb n i q := by decide +kernel
theorem hk_dia : ∀ n, n < 9 → ∀ i, i < 8 → i + 1 < n → diaB (hkL n i) = true := by decide +kernel
theorem id_dia : ∀ n, n < 9 → 1 ≤ n → diaB (idL n) = true := by decide +kernel

section
variable {u b f : Nat → Nat} {n i : Nat}
theorem wk_hook (hf : ∀ p, p < 2 * n → f p < 2 * n ∧ f p ≠ p ∧ f (f p) = p) (hu : ∀ q, q < 2 * n → u q = 2 * n - 1 - f (2 * n - 1 - q)) (hb' : ∀ q, q < 2 * n → b q = hb n i q) (hi : i + 1 < n) (k p : Nat) (s : Nat → Bool) (hp : p < 2 * n) (h1 : p ≠ 2 * n - 1 - i) (h2 : p ≠ 2 * n - 2 - i) :
    (wk u b (2 * n) n (k + 4) true (2 * n - 1 - p) s).1 = Mf f (2 * n - 1 - i) (2 * n - 2 - i) p := by
  have fp := hf p hp
  have fl := hf (2 * n - 1 - i) (by omega)
  have fr := hf (2 * n - 2 - i) (by omega)
  have e0 : fT u b true (2 * n - 1 - p) = 2 * n - 1 - f p := by show u _ = _; rw [hu _ (by omega), show 2 * n - 1 - (2 * n - 1 - p) = p by omega]
  by_cases c1 : n ≤ 2 * n - 1 - f p
  · rw [wk_out (by rw [e0]; exact c1), e0, Mf_o h1 h2 (by omega) (by omega)]
    show 2 * n - 1 - (2 * n - 1 - f p) = f p
    omega
  rw [wk_in (by rw [e0]; omega), e0]
  by_cases c2 : f p = 2 * n - 1 - i
  · have e1 : fT u b (!true) (2 * n - 1 - f p) = i + 1 := by show b _ = _; rw [hb' _ (by omega), hb, if_pos (by omega)]
    rw [wk_in (by rw [e1]; omega), e1, Mf_a h1 h2 c2]
    have e2 : fT u b (!!true) (i + 1) = 2 * n - 1 - f (2 * n - 2 - i) := by show u _ = _; rw [hu _ (by omega), show 2 * n - 1 - (i + 1) = 2 * n - 2 - i by omega]
    by_cases c3 : n ≤ 2 * n - 1 - f (2 * n - 2 - i)
    · rw [wk_out (by rw [e2]; exact c3), e2]
      show 2 * n - 1 - (2 * n - 1 - f (2 * n - 2 - i)) = _
      omega
    have n1 : f (2 * n - 2 - i) ≠ 2 * n - 1 - i := fun h => h2 (by rw [← fp.2.2, c2, ← h, fr.2.2])
    have e3 : fT u b (!!!true) (2 * n - 1 - f (2 * n - 2 - i)) = f (2 * n - 2 - i) := by
      show b _ = _
      rw [hb' _ (by omega), hb, if_neg (by omega), if_neg (by omega), if_neg (by omega), if_neg (by omega)]
      omega
    rw [wk_in (by rw [e2]; omega), e2, wk_out (by rw [e3]; omega), e3]
    rfl
  by_cases c4 : f p = 2 * n - 2 - i
  · have e1 : fT u b (!true) (2 * n - 1 - f p) = i := by show b _ = _; rw [hb' _ (by omega), hb, if_neg (by omega), if_pos (by omega)]
    rw [wk_in (by rw [e1]; omega), e1, Mf_b h1 h2 (by omega) c4]
    have e2 : fT u b (!!true) i = 2 * n - 1 - f (2 * n - 1 - i) := by show u _ = _; rw [hu _ (by omega)]
    by_cases c3 : n ≤ 2 * n - 1 - f (2 * n - 1 - i)
    · rw [wk_out (by rw [e2]; exact c3), e2]
      show 2 * n - 1 - (2 * n - 1 - f (2 * n - 1 - i)) = _
      omega
    have n1 : f (2 * n - 1 - i) ≠ 2 * n - 2 - i := fun h => h1 (by rw [← fp.2.2, c4, ← h, fl.2.2])
    have e3 : fT u b (!!!true) (2 * n - 1 - f (2 * n - 1 - i)) = f (2 * n - 1 - i) := by
      show b _ = _
      rw [hb' _ (by omega), hb, if_neg (by omega), if_neg (by omega), if_neg (by omega), if_neg (by omega)]
      omega
    rw [wk_in (by rw [e2]; omega), e2, wk_out (by rw [e3]; omega), e3]
    rfl
  have e1 : fT u b (!true) (2 * n - 1 - f p) = f p := by
    show b _ = _
    rw [hb' _ (by omega), hb, if_neg (by omega), if_neg (by omega), if_neg (by omega), if_neg (by omega)]
    omega
  rw [wk_out (by rw [e1]; omega), e1, Mf_o h1 h2 c2 c4]
  rfl
theorem wkO_hook (hf : ∀ p, p < 2 * n → f p < 2 * n ∧ f p ≠ p ∧ f (f p) = p) (hu : ∀ q, q < 2 * n → u q = 2 * n - 1 - f (2 * n - 1 - q)) (hb' : ∀ q, q < 2 * n → b q = hb n i q) (hi : i + 1 < n) {p : Nat} (hp : p < 2 * n) :
    wkO u b n p = Mf f (2 * n - 1 - i) (2 * n - 2 - i) p := by
  unfold wkO
  obtain ⟨k, hk⟩ : ∃ k, 2 * n + 1 = k + 5 := ⟨2 * n - 4, by omega⟩
  rw [hk]
  generalize wkS u b n p = s
  by_cases h : p < n
  · rw [show stT n p = true from decide_eq_true h, show stP n p = 2 * n - 1 - p from if_pos h]
    exact wk_hook hf hu hb' hi (k + 1) p s hp (by omega) (by omega)
  rw [show stT n p = false from decide_eq_false h, show stP n p = p from if_neg h]
  have e0 : fT u b false p = hb n i p := hb' p hp
  by_cases h1 : p = 2 * n - 1 - i
  · have e1 : hb n i p = 2 * n - 2 - i := by rw [hb, if_neg (by omega), if_neg (by omega), if_pos h1]
    rw [wk_out (by rw [e0, e1]; omega), e0, e1, h1, Mf_l]; rfl
  by_cases h2 : p = 2 * n - 2 - i
  · have e1 : hb n i p = 2 * n - 1 - i := by rw [hb, if_neg (by omega), if_neg (by omega), if_neg h1, if_pos h2]
    rw [wk_out (by rw [e0, e1]; omega), e0, e1, h2, Mf_r (by omega)]; rfl
  have e1 : hb n i p = 2 * n - 1 - p := by rw [hb, if_neg (by omega), if_neg (by omega), if_neg h1, if_neg h2]
  rw [wk_in (by rw [e0, e1]; omega), e0, e1]
  exact wk_hook hf hu hb' hi k p _ hp h1 h2
end

/-- A diagram above a hook is a diagram. -/
theorem md_hook {X : List Int} {n i : Nat} (hX : diaB X = true) (hl : X.length = 2 * n) (hi : i + 1 < n) : mdOk X (hkL n i) = true ∧ diaB (mdP X (hkL n i)) = true ∧ (mdP X (hkL n i)).length = 2 * n := by
  have hm := dia_match hX
  have h8 : n ≤ 8 := by omega
  have hd := hk_dia n (by omega) i (by omega) hi
  have hok : mdOk X (hkL n i) = true := by unfold mdOk; rw [hX, hd, decide_eq_true (by rw [hl, hkL_len])]; rfl
  have hP : mdP X (hkL n i) = mdL (nx (flL X)) (nx (hkL n i)) n (2 * n) := by unfold mdP; rw [if_pos hok, hl, show 2 * n / 2 = n by omega]
  have hf : ∀ p, p < 2 * n → nx X p < 2 * n ∧ nx X p ≠ p ∧ nx X (nx X p) = p := fun p hp => by
    have := nx_match hm.1 (q := p) (by omega)
    exact ⟨by omega, this.2.1, this.2.2.1⟩
  have hlr : 2 * n - 1 - i = (2 * n - 2 - i) + 1 := by omega
  have hlen : (mdP X (hkL n i)).length = 2 * n := by rw [hP, mdL_len]
  have hat : ∀ q, q < 2 * n → (mdP X (hkL n i)).getD q 0 = (Mf (nx X) (2 * n - 1 - i) (2 * n - 2 - i) q : Int) := fun q hq => by
    rw [hP, mdL_at _ _ _ hq]
    unfold mdF
    rw [if_pos hq, wkO_hook (f := nx X) (i := i) hf (fun q hq => by rw [(nx_fl hm.1 (q := q) (by omega)).1, hl]) (fun q hq => hk_nx n (by omega) i (by omega) hi q (by omega) hq) hi hq]
  have hnx : ∀ q, q < 2 * n → nx (mdP X (hkL n i)) q = Mf (nx X) (2 * n - 1 - i) (2 * n - 2 - i) q := fun q hq => by show ((mdP X (hkL n i)).getD q 0).toNat = _; rw [hat q hq]; exact Int.toNat_natCast _
  have hmt : matchP (mdP X (hkL n i)) = true := decide_eq_true ⟨by omega, fun j hj => by
    have e := Mf_inv hf (l := 2 * n - 1 - i) (r := 2 * n - 2 - i) (by omega) (by omega) (by omega) (p := j) (by omega)
    unfold mtOk
    rw [hat j (by omega), hlen]
    refine ⟨by omega, by omega, by omega, ?_⟩
    rw [Int.toNat_natCast, hat _ e.1, e.2.2]⟩
  refine ⟨hok, dia_of hmt (by omega) (fun a b h1 h2 h3 h4 => ?_), hlen⟩
  rw [hlen] at h4
  rw [hnx a (by omega)] at h2 h3
  rw [hnx b h4] at h3
  exact Mf_nc hf (fun a b g1 g2 g3 g4 => dia_nx hX g1 g2 g3 (by omega)) hlr (by omega) h1 h2 h3 h4

/-- The product of the first k hooks of a word, and the loops closed by them. -/
def dwX (n : Nat) (w : List Int) : Nat → List Int
  | 0 => idL n
  | k + 1 => mdP (dwX n w k) (hkP n (w.getD k 0))
def dwZ (n : Nat) (w : List Int) : Nat → Int
  | 0 => 0
  | k + 1 => dwZ n w k + mdN (dwX n w k) (hkP n (w.getD k 0))
def dwOk (n : Int) (w : List Int) : Bool := idOk n && decide (w.length ≤ 40) && decide (∀ j, j < w.length → hkOk n (w.getD j 0) = true)
def dwP (n : Int) (w : List Int) : List Int := if dwOk n w = true then dwX n.toNat w w.length else []
def dwN (n : Int) (w : List Int) : Int := if dwOk n w = true then dwZ n.toNat w w.length else 0
theorem hk_yes {n : Nat} {x : Int} (h : hkOk n x = true) : ∃ i : Nat, x = i ∧ i + 1 < n ∧ n ≤ 8 ∧ hkP n x = hkL n i := by
  have h1 := of_decide_eq_true h
  refine ⟨x.toNat, by omega, by omega, by omega, ?_⟩
  unfold hkP
  rw [if_pos h]
  simp
theorem dw_dia {n : Nat} {w : List Int} (hn : 1 ≤ n) (h8 : n ≤ 8) : ∀ k, (∀ j, j < k → hkOk n (w.getD j 0) = true) → diaB (dwX n w k) = true ∧ (dwX n w k).length = 2 * n := by
  intro k
  induction k with
  | zero => intro _; exact ⟨id_dia n (by omega) hn, idL_len n⟩
  | succ k ih =>
    intro h
    obtain ⟨h1, h2⟩ := ih (fun j hj => h j (by omega))
    obtain ⟨i, -, hi, -, he⟩ := hk_yes (h k (by omega))
    have := md_hook h1 h2 hi
    rw [← he] at this
    exact ⟨this.2.1, this.2.2⟩
theorem dw_ok {n : Nat} {w : List Int} (hn : 1 ≤ n) (h8 : n ≤ 8) {k : Nat} (h : ∀ j, j < k + 1 → hkOk n (w.getD j 0) = true) : mdOk (dwX n w k) (hkP n (w.getD k 0)) = true := by
  obtain ⟨h1, h2⟩ := dw_dia hn h8 k (fun j hj => h j (by omega))
  obtain ⟨i, -, hi, -, he⟩ := hk_yes (h k (by omega))
  rw [he]
  exact (md_hook h1 h2 hi).1
theorem mdN_le (a b : List Int) : 0 ≤ mdN a b ∧ mdN a b ≤ 8 := by
  unfold mdN
  split
  · rename_i h
    have := mdOk_yes h
    have := ccO_le (flL a) b (a.length / 2) (wkS (nx (flL a)) (nx b) (a.length / 2) (2 * (a.length / 2))) (a.length / 2)
    omega
  · omega
theorem dwZ_le (n : Nat) (w : List Int) : ∀ k, 0 ≤ dwZ n w k ∧ dwZ n w k ≤ 8 * k := by
  intro k
  induction k with
  | zero => exact ⟨Int.le_refl _, Int.le_refl _⟩
  | succ k ih =>
    have := mdN_le (dwX n w k) (hkP n (w.getD k 0))
    rw [dwZ]
    omega
theorem dwP_len (n : Int) (w : List Int) : (dwP n w).length ≤ 16 := by
  unfold dwP
  split
  · rename_i h
    unfold dwOk at h
    rw [Bool.and_eq_true, Bool.and_eq_true] at h
    have hn := of_decide_eq_true h.1.1
    have hw := of_decide_eq_true h.2
    obtain ⟨m, rfl⟩ : ∃ m : Nat, n = m := ⟨n.toNat, by omega⟩
    rw [Int.toNat_natCast, (dw_dia (by omega) (by omega) w.length hw).2]
    omega
  · simp
theorem dw_no {n : Int} {w : List Int} (h : dwOk n w = false) : dwP n w = [] ∧ dwN n w = 0 := ⟨if_neg (by rw [h]; simp), if_neg (by rw [h]; simp)⟩
theorem dw_yes {m : Nat} {w : List Int} (h : dwOk m w = true) : dwP m w = dwX m w w.length ∧ dwN m w = dwZ m w w.length := by
  unfold dwP dwN
  rw [if_pos h, if_pos h, Int.toNat_natCast]
  exact ⟨rfl, rfl⟩
theorem dwOk_true {m : Nat} {w : List Int} (h1 : 1 ≤ m) (h8 : m ≤ 8) (hl : w.length ≤ 40) (h : ∀ j, j < w.length → hkOk m (w.getD j 0) = true) : dwOk m w = true := by
  unfold dwOk
  rw [show idOk m = true from decide_eq_true (by omega), decide_eq_true hl, decide_eq_true h]; rfl
theorem dwOk_false {n : Int} {w : List Int} {j : Nat} (hj : j < w.length) (h : hkOk n (w.getD j 0) = false) : dwOk n w = false := by
  unfold dwOk
  rw [decide_eq_false (p := ∀ j, j < w.length → hkOk n (w.getD j 0) = true) (fun hh => by rw [hh j hj] at h; cases h)]
  simp

end Go.Proofs.Ytcckpodpgenapaa
