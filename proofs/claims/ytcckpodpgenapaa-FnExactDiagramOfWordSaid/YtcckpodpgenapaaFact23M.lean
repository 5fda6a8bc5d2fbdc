/- Plain facts of products of diagrams: strands end, and what they do not pass is closed. -/
import Derived.Test.YtcckpodpgenapaaFact23
namespace Go.Proofs.Ytcckpodpgenapaa
open Go.ChangeShapes Go.WideShapes Go.ChangeAt Go.RowKit
set_option linter.unusedVariables false

def fT (u b : Nat → Nat) (t : Bool) (p : Nat) : Nat := if t = true then u p else b p
def outP (N : Nat) (t : Bool) (e : Nat) : Nat := if t = true then N - 1 - e else e
/-- A strand from point p of the upper (t) or the lower diagram: where it ends, and what has been passed. -/
def wk (u b : Nat → Nat) (N n : Nat) : Nat → Bool → Nat → (Nat → Bool) → Nat × (Nat → Bool)
  | 0, _, p, s => (p, s)
  | k + 1, t, p, s => if n ≤ fT u b t p then (outP N t (fT u b t p), s) else wk u b N n k (!t) (fT u b t p) (upb s (fT u b t p))
/-- It ends within k steps. -/
def en (u b : Nat → Nat) (n : Nat) : Nat → Bool → Nat → Prop
  | 0, _, _ => False
  | k + 1, t, p => n ≤ fT u b t p ∨ en u b n k (!t) (fT u b t p)
/-- The steps that are left. -/
def sl (u b : Nat → Nat) (n : Nat) : Nat → Bool → Nat → Nat
  | 0, _, _ => 0
  | k + 1, t, p => if n ≤ fT u b t p then 0 else 1 + sl u b n k (!t) (fT u b t p)
theorem wk_out {u b : Nat → Nat} {N n k : Nat} {t : Bool} {p : Nat} {s : Nat → Bool} (h : n ≤ fT u b t p) : wk u b N n (k + 1) t p s = (outP N t (fT u b t p), s) := by rw [wk, if_pos h]
theorem wk_in {u b : Nat → Nat} {N n k : Nat} {t : Bool} {p : Nat} {s : Nat → Bool} (h : fT u b t p < n) : wk u b N n (k + 1) t p s = wk u b N n k (!t) (fT u b t p) (upb s (fT u b t p)) := by rw [wk, if_neg (by omega)]
theorem en_in {u b : Nat → Nat} {n k : Nat} {t : Bool} {p : Nat} (h : en u b n (k + 1) t p) (h2 : fT u b t p < n) : en u b n k (!t) (fT u b t p) := by
  rcases h with h | h
  · omega
  · exact h
theorem sl_eq {u b : Nat → Nat} {n : Nat} : ∀ (k K : Nat) (t : Bool) (p : Nat), en u b n k t p → k ≤ K → sl u b n K t p = sl u b n k t p := by
  intro k
  induction k with
  | zero => intro K t p h; exact absurd h id
  | succ k ih =>
    intro K t p h hK
    obtain ⟨K', rfl⟩ : ∃ K', K = K' + 1 := ⟨K - 1, by omega⟩
    rw [sl, sl]
    by_cases h2 : n ≤ fT u b t p
    · rw [if_pos h2, if_pos h2]
    · rw [if_neg h2, if_neg h2, ih K' _ _ (en_in h (by omega)) (by omega)]
theorem sl_lt {u b : Nat → Nat} {n k K : Nat} {t : Bool} {p : Nat} (h : en u b n (k + 1) t p) (h2 : fT u b t p < n) (hK : k + 1 ≤ K) : sl u b n K (!t) (fT u b t p) < sl u b n K t p := by
  rw [sl_eq (k + 1) K t p h hK, sl_eq k K _ _ (en_in h h2) (by omega), sl, if_neg (by omega)]
  omega
/-- The states along a strand that never ends. -/
def ob (u b : Nat → Nat) : Nat → Bool → Nat → Bool × Nat
  | 0, t, p => (t, p)
  | i + 1, t, p => ob u b i (!t) (fT u b t p)
theorem ob_next (u b : Nat → Nat) : ∀ (i : Nat) (t : Bool) (p : Nat), ob u b (i + 1) t p = (!(ob u b i t p).1, fT u b (ob u b i t p).1 (ob u b i t p).2) := by
  intro i
  induction i with
  | zero => intro t p; rfl
  | succ i ih => intro t p; rw [ob, ih]; rfl
theorem not_en {u b : Nat → Nat} {n : Nat} : ∀ (k : Nat) (t : Bool) (p : Nat), ¬ en u b n k t p → ∀ i, i < k → (ob u b (i + 1) t p).2 < n := by
  intro k
  induction k with
  | zero => intro t p _ i hi; omega
  | succ k ih =>
    intro t p h i hi
    have h1 : ¬ n ≤ fT u b t p := fun hh => h (.inl hh)
    have h2 : ¬ en u b n k (!t) (fT u b t p) := fun hh => h (.inr hh)
    cases i with
    | zero => show fT u b t p < n; omega
    | succ i => exact ih (!t) (fT u b t p) h2 i (by omega)
def Inv (N : Nat) (f : Nat → Nat) : Prop := ∀ p, p < N → f p < N ∧ f (f p) = p
theorem fT_inv {u b : Nat → Nat} {N : Nat} (hu : Inv N u) (hb : Inv N b) (t : Bool) {p : Nat} (hp : p < N) : fT u b t p < N ∧ fT u b t (fT u b t p) = p := by
  cases t
  · exact hb p hp
  · exact hu p hp
theorem ob_lt {u b : Nat → Nat} {N : Nat} (hu : Inv N u) (hb : Inv N b) : ∀ (i : Nat) (t : Bool) (p : Nat), p < N → (ob u b i t p).2 < N := by
  intro i
  induction i with
  | zero => intro t p hp; exact hp
  | succ i ih => intro t p hp; exact ih _ _ (fT_inv hu hb t hp).1
theorem en_all {u b : Nat → Nat} {N n : Nat} (hu : Inv N u) (hb : Inv N b) (t : Bool) {p : Nat} (hp : p < N) (hn : n ≤ p) : en u b n (2 * n + 1) t p := by
  apply Classical.byContradiction
  intro h
  have hlt := not_en (2 * n + 1) t p h
  have hinj : ∀ i j, i < j → j ≤ 2 * n + 1 → ob u b i t p ≠ ob u b j t p := by
    intro i
    induction i with
    | zero =>
      intro j hj hj2 e
      obtain ⟨j', rfl⟩ : ∃ j', j = j' + 1 := ⟨j - 1, by omega⟩
      have := hlt j' (by omega)
      rw [← e] at this
      have : p < n := this
      omega
    | succ i ih =>
      intro j hj hj2 e
      obtain ⟨j', rfl⟩ : ∃ j', j = j' + 1 := ⟨j - 1, by omega⟩
      rw [ob_next, ob_next] at e
      simp only [Prod.mk.injEq, Bool.not_inj_iff] at e
      obtain ⟨e1, e2⟩ := e
      refine ih j' (by omega) (by omega) ?_
      have a := fT_inv hu hb (ob u b i t p).1 (ob_lt hu hb i t p hp)
      have c := fT_inv hu hb (ob u b j' t p).1 (ob_lt hu hb j' t p hp)
      refine Prod.ext e1 ?_
      rw [← a.2, e2, e1, c.2]
  have hle := sub_lenN ((List.range (2 * n + 1)).map fun i => if (ob u b (i + 1) t p).1 = true then (ob u b (i + 1) t p).2 else n + (ob u b (i + 1) t p).2) (List.range (2 * n))
    (map_nodup List.nodup_range fun i hi j hj e => by
      rw [List.mem_range] at hi hj
      have li := hlt i hi
      have lj := hlt j hj
      have key : ob u b (i + 1) t p = ob u b (j + 1) t p := by
        refine Prod.ext ?_ ?_
        · cases h1 : (ob u b (i + 1) t p).1 <;> cases h2 : (ob u b (j + 1) t p).1 <;> rw [h1, h2] at e <;> simp at e <;> first | rfl | omega
        · cases h1 : (ob u b (i + 1) t p).1 <;> cases h2 : (ob u b (j + 1) t p).1 <;> rw [h1, h2] at e <;> simp at e <;> omega
      rcases Nat.lt_trichotomy i j with h1 | h1 | h1
      · exact absurd key (hinj (i + 1) (j + 1) (by omega) (by omega))
      · exact h1
      · exact absurd key.symm (hinj (j + 1) (i + 1) (by omega) (by omega)))
    (fun x hx => by
      obtain ⟨i, hi, rfl⟩ := List.mem_map.1 hx
      rw [List.mem_range] at hi
      have li := hlt i hi
      rw [List.mem_range]
      split <;> omega)
  simp at hle
  omega
/-- What has been passed is closed, but for the end of a strand that is still being followed. -/
def Cq (u b : Nat → Nat) (n : Nat) (s : Nat → Bool) (t : Bool) (p : Nat) : Prop :=
  (∀ e, e < n → s e = true → ∀ t', n ≤ fT u b t' e ∨ s (fT u b t' e) = true ∨ (e = p ∧ t' = t)) ∧ (p < n → s p = true)
def Cl (u b : Nat → Nat) (n : Nat) (s : Nat → Bool) : Prop := ∀ e, e < n → s e = true → ∀ t', n ≤ fT u b t' e ∨ s (fT u b t' e) = true
theorem wk_cl {u b : Nat → Nat} {N n : Nat} (hu : Inv N u) (hb : Inv N b) : ∀ (k : Nat) (t : Bool) (p : Nat) (s : Nat → Bool), p < N → en u b n k t p → Cq u b n s t p →
    Cl u b n (wk u b N n k t p s).2 ∧ (∀ e, s e = true → (wk u b N n k t p s).2 e = true) ∧ (fT u b t p < n → (wk u b N n k t p s).2 (fT u b t p) = true) := by
  intro k
  induction k with
  | zero => intro t p s _ h; exact absurd h id
  | succ k ih =>
    intro t p s hp h hc
    have hi := fT_inv hu hb t hp
    by_cases h2 : n ≤ fT u b t p
    · rw [wk_out h2]
      refine ⟨fun e he hs t' => ?_, fun e h => h, fun h => by omega⟩
      rcases hc.1 e he hs t' with h3 | h3 | ⟨rfl, rfl⟩
      · exact .inl h3
      · exact .inr h3
      · exact .inl h2
    · have h2' : fT u b t p < n := by omega
      rw [wk_in h2']
      have hcq : Cq u b n (upb s (fT u b t p)) (!t) (fT u b t p) := by
        refine ⟨fun e he hs t' => ?_, fun _ => upb_at _ _⟩
        by_cases ee : e = fT u b t p
        · subst ee
          by_cases et : t' = t
          · subst et
            rw [hi.2]
            by_cases hpn : n ≤ p
            · exact .inl hpn
            · exact .inr (.inl (upb_mono _ _ _ (hc.2 (by omega))))
          · exact .inr (.inr ⟨rfl, by cases t <;> cases t' <;> simp_all⟩)
        · rw [upb_ne _ ee] at hs
          rcases hc.1 e he hs t' with h3 | h3 | ⟨rfl, rfl⟩
          · exact .inl h3
          · exact .inr (.inl (upb_mono _ _ _ h3))
          · exact .inr (.inl (upb_at _ _))
      obtain ⟨h3, h4, h5⟩ := ih (!t) (fT u b t p) (upb s (fT u b t p)) hi.1 (en_in h h2') hcq
      exact ⟨h3, fun e he => h4 e (upb_mono _ _ _ he), fun _ => h4 _ (upb_at _ _)⟩
/-- Where the strand of point i of the product begins. -/
def stP (n i : Nat) : Nat := if i < n then 2 * n - 1 - i else i
def stT (n i : Nat) : Bool := decide (i < n)
def wkS (u b : Nat → Nat) (n : Nat) : Nat → (Nat → Bool)
  | 0 => fun _ => false
  | i + 1 => (wk u b (2 * n) n (2 * n + 1) (stT n i) (stP n i) (wkS u b n i)).2
def wkO (u b : Nat → Nat) (n i : Nat) : Nat := (wk u b (2 * n) n (2 * n + 1) (stT n i) (stP n i) (wkS u b n i)).1
theorem stP_lt {n i : Nat} (h : i < 2 * n) : stP n i < 2 * n ∧ n ≤ stP n i := by unfold stP; split <;> omega
theorem wkS_cl {u b : Nat → Nat} {n : Nat} (hu : Inv (2 * n) u) (hb : Inv (2 * n) b) : ∀ i, i ≤ 2 * n → Cl u b n (wkS u b n i) ∧ ∀ j, j < i → fT u b (stT n j) (stP n j) < n → wkS u b n i (fT u b (stT n j) (stP n j)) = true := by
  intro i
  induction i with
  | zero => intro _; exact ⟨fun e _ h => (by cases h), fun j h => absurd h (Nat.not_lt_zero _)⟩
  | succ i ih =>
    intro hi
    obtain ⟨h1, h2⟩ := ih (by omega)
    obtain ⟨h3, h4⟩ := stP_lt (n := n) (i := i) (by omega)
    obtain ⟨h5, h6, h7⟩ := wk_cl hu hb (2 * n + 1) (stT n i) (stP n i) (wkS u b n i) h3 (en_all hu hb _ h3 h4) ⟨fun e he hs t' => by
      rcases h1 e he hs t' with h | h
      · exact .inl h
      · exact .inr (.inl h), fun h => by omega⟩
    refine ⟨h5, fun j hj hf => ?_⟩
    by_cases e : j < i
    · exact h6 _ (h2 j e hf)
    · obtain rfl : j = i := by omega
      exact h7 hf
/-- What no strand has passed leads only to such points. -/
theorem wkS_rest {u b : Nat → Nat} {n : Nat} (hu : Inv (2 * n) u) (hb : Inv (2 * n) b) {e : Nat} (he : e < n) (hs : wkS u b n (2 * n) e = false) (t : Bool) : fT u b t e < n ∧ wkS u b n (2 * n) (fT u b t e) = false := by
  obtain ⟨h1, h2⟩ := wkS_cl hu hb (2 * n) (Nat.le_refl _)
  have hi := fT_inv hu hb t (p := e) (by omega)
  have hlt : fT u b t e < n := by
    rcases Nat.lt_or_ge (fT u b t e) n with h | h
    · exact h
    · exfalso
      have key : ∃ i, i < 2 * n ∧ stT n i = t ∧ stP n i = fT u b t e := by
        cases t
        · exact ⟨fT u b false e, hi.1, decide_eq_false (by omega), if_neg (by omega)⟩
        · exact ⟨2 * n - 1 - fT u b true e, by omega, decide_eq_true (by omega), by unfold stP; rw [if_pos (by omega)]; omega⟩
      obtain ⟨i, h3, h4, h5⟩ := key
      have := h2 i h3 (by rw [h4, h5, hi.2]; exact he)
      rw [h4, h5, hi.2, hs] at this
      cases this
  refine ⟨hlt, ?_⟩
  cases h : wkS u b n (2 * n) (fT u b t e)
  · rfl
  · rcases h1 _ hlt h t with h3 | h3
    · rw [hi.2] at h3; omega
    · rw [hi.2, hs] at h3; cases h3

/-- The product, when each has n points above. -/
def mdL (u b : Nat → Nat) (n i : Nat) : List Int := (List.range i).map fun q => (wkO u b n q : Int)
theorem mdL_len (u b : Nat → Nat) (n i : Nat) : (mdL u b n i).length = i := by simp [mdL]
def mdF (u b : Nat → Nat) (n i : Nat) : Nat → Int := fun q => if q < i then (wkO u b n q : Int) else 0
theorem mdF_zero (u b : Nat → Nat) (n : Nat) : mdF u b n 0 = fun _ => 0 := by funext q; unfold mdF; rw [if_neg (by omega)]
theorem mdF_succ (u b : Nat → Nat) (n i : Nat) : mdF u b n (i + 1) = upd (mdF u b n i) i (wkO u b n i : Int) := by
  funext q
  unfold mdF
  by_cases e : q = i
  · subst e; rw [upd_at, if_pos (by omega)]
  · rw [upd_ne _ _ e]
    by_cases h2 : q < i
    · rw [if_pos h2, if_pos (by omega)]
    · rw [if_neg h2, if_neg (by omega)]
theorem mdL_at (u b : Nat → Nat) (n : Nat) {i q : Nat} (h : q < i) : (mdL u b n i).getD q 0 = mdF u b n i q := by
  unfold mdF; rw [if_pos h]; simp [mdL, List.getD, h]
/-- The partners of the diagram above, turned upside down. -/
theorem nx_fl {xs : List Int} (h : matchP xs = true) {q : Nat} (hq : q < xs.length) : nx (flL xs) q = xs.length - 1 - nx xs (xs.length - 1 - q) ∧ (flL xs).getD q 0 = (nx (flL xs) q : Int) := by
  have h1 := nx_match h (q := xs.length - 1 - q) (by omega)
  have e := flL_at xs q hq
  rw [h1.2.2.2] at e
  unfold nx
  rw [e]
  constructor <;> omega
theorem inv_match {xs : List Int} (h : matchP xs = true) : Inv xs.length (nx xs) := fun p hp => ⟨(nx_match h hp).1, (nx_match h hp).2.2.1⟩
theorem inv_fl {xs : List Int} (h : matchP xs = true) : Inv xs.length (nx (flL xs)) := fun p hp => by
  have h1 := nx_match h (q := xs.length - 1 - p) (by omega)
  have e1 := (nx_fl h hp).1
  have hl : nx (flL xs) p < xs.length := by rw [e1]; omega
  refine ⟨hl, ?_⟩
  rw [(nx_fl h hl).1, e1, show xs.length - 1 - (xs.length - 1 - nx xs (xs.length - 1 - p)) = nx xs (xs.length - 1 - p) by omega, h1.2.2.1]
  omega
def mdOk (a b : List Int) : Bool := diaB a && diaB b && decide (a.length = b.length)
def mdP (a b : List Int) : List Int := if mdOk a b = true then mdL (nx (flL a)) (nx b) (a.length / 2) (2 * (a.length / 2)) else []
def mdN (a b : List Int) : Int := if mdOk a b = true then ((ccO (flL a) b (a.length / 2) (wkS (nx (flL a)) (nx b) (a.length / 2) (2 * (a.length / 2))) (a.length / 2)).2 : Int) else 0
theorem mdOk_yes {a b : List Int} (h : mdOk a b = true) : matchP a = true ∧ matchP b = true ∧ a.length = b.length ∧ 2 ≤ a.length ∧ a.length ≤ 16 ∧ diaB a = true ∧ diaB b = true := by
  unfold mdOk at h
  rw [Bool.and_eq_true, Bool.and_eq_true] at h
  have h1 := dia_match h.1.1
  exact ⟨h1.1, (dia_match h.1.2).1, of_decide_eq_true h.2, h1.2.1, h1.2.2, h.1.1, h.1.2⟩
theorem mdP_len (a b : List Int) : (mdP a b).length ≤ 16 := by
  unfold mdP
  split
  · rename_i h
    have := mdOk_yes h
    rw [mdL_len]; omega
  · simp
/-- Loops go along points that no strand has passed. -/
def InD (a : List Int) (n : Nat) (s0 : Nat → Bool) : Prop := ∀ q, q < n → s0 q = false → nx a q < n ∧ s0 (nx a q) = false ∧ a.getD q 0 = (nx a q : Int)

theorem ccW_mono {a b : List Int} : ∀ (k : Nat) (s : Nat → Bool) (p e : Nat), s e = true → ccW a b k s p e = true := by
  intro k
  induction k with
  | zero => intro s p e h; exact h
  | succ k ih =>
    intro s p e h
    rw [ccW]
    split
    · exact h
    · exact ih _ _ _ (upb_mono _ _ _ (upb_mono _ _ _ h))
theorem ccO_mono {a b : List Int} {n : Nat} {s0 : Nat → Bool} {e : Nat} (h : s0 e = true) : ∀ i, (ccO a b n s0 i).1 e = true := by
  intro i
  induction i with
  | zero => exact h
  | succ i ih =>
    rw [ccO]
    split
    · exact ih
    · exact ccW_mono _ _ _ _ ih
theorem ccO_start {a b : List Int} {n i e : Nat} {s0 : Nat → Bool} (h : (ccO a b n s0 i).1 e = false) : s0 e = false := by
  cases h2 : s0 e
  · rfl
  · rw [ccO_mono h2 i] at h; cases h
theorem inD_fl {xs ys : List Int} {H : Nat} (hl : xs.length = 2 * H) (hl' : ys.length = 2 * H) (hx : matchP xs = true) (hy : matchP ys = true) :
    InD (flL xs) H (wkS (nx (flL xs)) (nx ys) H (2 * H)) ∧ InD ys H (wkS (nx (flL xs)) (nx ys) H (2 * H)) := by
  have hiu : Inv (2 * H) (nx (flL xs)) := by rw [← hl]; exact inv_fl hx
  have hib : Inv (2 * H) (nx ys) := by rw [← hl']; exact inv_match hy
  constructor
  · intro q hq hs
    have h1 := wkS_rest hiu hib hq hs true
    exact ⟨h1.1, h1.2, (nx_fl hx (by omega)).2⟩
  · intro q hq hs
    have h1 := wkS_rest hiu hib hq hs false
    exact ⟨h1.1, h1.2, (nx_match hy (by omega)).2.2.2⟩

end Go.Proofs.Ytcckpodpgenapaa
