/- Weights give trees back, and combs: plain facts. -/
import Derived.Test.YtbbbnnkkjgikbaaFact16
import Derived.Lib.Repeat
namespace Go.Proofs.Ytbbbnnkkjgikbaa
set_option linter.unusedVariables false

theorem wts_first {xs : List Int} {a b : Tr} (h : xs = wts (.node a b)) : nds a < xs.length ∧ xs.getD (nds a) 0 = (xs.length : Int) - 1 - nds a ∧ (∀ j, j < nds a → xs.getD j 0 + j + 1 < xs.length) ∧ xs.take (nds a) = wts a ∧ xs.drop (nds a + 1) = wts b := by
  subst h
  have la := wts_len a
  have hl : (wts (.node a b)).length = nds a + nds b + 1 := by rw [wts_len]; rfl
  refine ⟨by omega, ?_, ?_, ?_, ?_⟩
  · rw [hl, wts, List.getD_eq_getElem?_getD, List.getElem?_append_right (by omega), la, Nat.sub_self]
    simp only [List.getElem?_cons_zero, Option.getD_some]; omega
  · intro j hj
    have := wts_bd a j hj
    rw [hl, wts, List.getD_eq_getElem?_getD, List.getElem?_append_left (by omega), ← List.getD_eq_getElem?_getD]
    omega
  · rw [wts, ← la, List.take_left]
  · rw [wts, ← la, List.drop_append]
    have : (wts a).length + 1 - (wts a).length = 1 := by omega
    rw [this, List.drop_of_length_le (by omega)]; rfl
theorem wts_join {xs : List Int} {i : Nat} {a b : Tr} (hi : i < xs.length) (he : xs.getD i 0 = (xs.length : Int) - 1 - i) (ha : xs.take i = wts a) (hb : xs.drop (i + 1) = wts b) : xs = wts (.node a b) := by
  have hb2 : nds b = xs.length - (i + 1) := by rw [← wts_len b, ← hb, List.length_drop]
  have : xs = xs.take i ++ (xs.getD i 0 :: xs.drop (i + 1)) := by
    rw [List.getD_eq_getElem?_getD, List.getElem?_eq_getElem hi, Option.getD_some, ← List.drop_eq_getElem_cons hi, List.take_append_drop]
  rw [this, ha, hb, he, wts]
  congr 2; omega
theorem wts_bound (t : Tr) : ∀ y ∈ wts t, 0 ≤ y ∧ y ≤ nds t := by
  intro y hy
  obtain ⟨k, hk, rfl⟩ := List.getElem_of_mem hy
  have := wts_bd t k (by rw [← wts_len]; exact hk)
  rw [List.getD_eq_getElem?_getD, List.getElem?_eq_getElem hk, Option.getD_some] at this
  omega
theorem par_bd {s : ByteArray} {t : Tr} (h : par s = some t) : nds t ≤ 8 := by
  rcases hb : binB s with _ | _
  · rw [par_no hb] at h; cases h
  · obtain ⟨u, -, hn, e⟩ := par_yes hb
    rw [e] at h
    simp at h; subst h; exact hn
/-- The tree of these weights. -/
noncomputable def wob (xs : List Int) : Option Tr := by
  classical exact if h : xs.length ≤ 8 ∧ ∃ t, xs = wts t then some h.2.choose else none
theorem wob_yes {t : Tr} (h : nds t ≤ 8) : wob (wts t) = some t := by
  have he : (wts t).length ≤ 8 ∧ ∃ u, wts t = wts u := ⟨by rw [wts_len]; exact h, t, rfl⟩
  unfold wob
  rw [dif_pos he]
  exact congrArg some (wts_inj _ _ he.2.choose_spec).symm
theorem wob_no {xs : List Int} (h : 8 < xs.length ∨ ∀ t, xs ≠ wts t) : wob xs = none := by
  unfold wob
  rw [dif_neg]
  rintro ⟨h1, t, h2⟩
  rcases h with h | h
  · omega
  · exact h t h2
noncomputable def wobP (xs : List Int) : ByteArray := tx (wob xs)
noncomputable def wobB (xs : List Int) : Bool := (wob xs).isSome
theorem wobP_yes {t : Tr} (h : nds t ≤ 8) : wobP (wts t) = baL (sh t) ∧ wobB (wts t) = true := by unfold wobP wobB; rw [wob_yes h]; exact ⟨rfl, rfl⟩
theorem wobP_no {xs : List Int} (h : 8 < xs.length ∨ ∀ t, xs ≠ wts t) : wobP xs = ⟨#[]⟩ ∧ wobB xs = false := by unfold wobP wobB; rw [wob_no h]; exact ⟨rfl, rfl⟩

/-- The first place from i on whose right part reaches the end. -/
def fst (xs : List Int) : Nat → Nat → Option Nat
  | 0, _ => none
  | n + 1, i => if (xs.length : Int) - 1 ≤ i + xs.getD i 0 then some i else fst xs n (i + 1)
theorem fst_in (xs : List Int) : ∀ (n i k : Nat), fst xs n i = some k → i ≤ k ∧ k < i + n := by
  intro n
  induction n with
  | zero => intro i k h; simp [fst] at h
  | succ n ih =>
    intro i k h
    rw [fst] at h
    split at h
    · simp at h; omega
    · have := ih _ _ h; omega
def bwF : Nat → List Int → Tr
  | 0, _ => .leaf
  | f + 1, xs => match fst xs xs.length 0 with
    | none => .leaf
    | some i => .node (bwF f (xs.take i)) (bwF f (xs.drop (i + 1)))
theorem bwF_none {f : Nat} {xs : List Int} (h : fst xs xs.length 0 = none) : bwF (f + 1) xs = .leaf := by rw [bwF, h]
theorem bwF_some {f i : Nat} {xs : List Int} (h : fst xs xs.length 0 = some i) : bwF (f + 1) xs = .node (bwF f (xs.take i)) (bwF f (xs.drop (i + 1))) := by rw [bwF, h]
theorem bwF_nds : ∀ (f : Nat) (xs : List Int), nds (bwF f xs) ≤ xs.length := by
  intro f
  induction f with
  | zero => intro xs; simp [bwF, nds]
  | succ f ih =>
    intro xs
    cases h : fst xs xs.length 0 with
    | none => rw [bwF_none h]; simp [nds]
    | some i =>
      have hi := fst_in _ _ _ _ h
      have h1 := ih (xs.take i)
      have h2 := ih (xs.drop (i + 1))
      rw [List.length_take] at h1
      rw [List.length_drop] at h2
      rw [bwF_some h]; simp only [nds]; omega
theorem fst_at (xs : List Int) (k : Nat) (hk : (xs.length : Int) - 1 ≤ k + xs.getD k 0) (hn : ∀ j, j < k → ¬ (xs.length : Int) - 1 ≤ j + xs.getD j 0) : ∀ n i, i ≤ k → k < i + n → fst xs n i = some k := by
  intro n
  induction n with
  | zero => intro i h1 h2; omega
  | succ n ih =>
    intro i h1 h2
    rw [fst]
    by_cases e : i = k
    · subst e; rw [if_pos hk]
    · rw [if_neg (hn i (by omega))]; exact ih (i + 1) (by omega) (by omega)
theorem bw_wts : ∀ (t : Tr) (f : Nat), nds t ≤ f → bwF f (wts t) = t := by
  intro t
  induction t with
  | leaf => intro f _; cases f <;> rfl
  | node a b ia ib =>
    intro f hf
    simp only [nds] at hf
    obtain ⟨g, rfl⟩ : ∃ g, f = g + 1 := ⟨f - 1, by omega⟩
    obtain ⟨h1, h2, h3, h4, h5⟩ := wts_first (xs := wts (.node a b)) rfl
    rw [bwF_some (fst_at _ (nds a) (by omega) (fun j hj => by have := h3 j hj; omega) _ 0 (Nat.zero_le _) (by omega)), h4, h5, ia g (by omega), ib g (by omega)]

/-- The comb to the right. -/
def cmb : Nat → Tr
  | 0 => .leaf
  | n + 1 => .node .leaf (cmb n)
theorem cmb_nds : ∀ n, nds (cmb n) = n
  | 0 => rfl
  | n + 1 => by simp only [cmb, nds, cmb_nds n]; omega
theorem cmb_sh : ∀ n, sh (cmb n) = Lib.repeatL [40, 46] n ++ 46 :: Lib.repeatL [41] n
  | 0 => rfl
  | n + 1 => by
    have e : ∀ k, Lib.repeatL [41] k ++ [41] = 41 :: Lib.repeatL [41] k := fun k => by
      have h1 := Lib.repeatL_add [41] k 1
      have h2 := Lib.repeatL_add [41] 1 k
      rw [Nat.add_comm, h2] at h1
      rw [Lib.repeatL_one] at h1
      exact h1.symm
    show (40 : UInt8) :: ([46] ++ (sh (cmb n) ++ [41])) = _
    rw [cmb_sh n]
    simp only [List.cons_append, List.nil_append, List.append_assoc, e n]
    rfl
def combO (n : Int) : Option Tr := if 0 ≤ n ∧ n ≤ 8 then some (cmb n.toNat) else none
def combP (n : Int) : ByteArray := tx (combO n)
def combB (n : Int) : Bool := (combO n).isSome
def lcmP (n : Int) : ByteArray := tx ((combO n).map mi)
theorem comb_yes {k : Nat} (h : k ≤ 8) : combP (k : Int) = baL (sh (cmb k)) ∧ combB (k : Int) = true ∧ lcmP (k : Int) = baL (sh (mi (cmb k))) := by
  unfold combP combB lcmP combO
  rw [if_pos (by omega)]
  exact ⟨rfl, rfl, rfl⟩
theorem comb_no {n : Int} (h : n < 0 ∨ 8 < n) : combP n = ⟨#[]⟩ ∧ combB n = false ∧ lcmP n = ⟨#[]⟩ := by
  unfold combP combB lcmP combO
  rw [if_neg (by omega)]
  exact ⟨rfl, rfl, rfl⟩

end Go.Proofs.Ytbbbnnkkjgikbaa
