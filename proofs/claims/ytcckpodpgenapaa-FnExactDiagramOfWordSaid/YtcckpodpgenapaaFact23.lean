/- Plain facts of diagrams and of loops of two matchings. -/
import Derived.Test.YtcckpodpgenapaaImpl9A
namespace Go.Proofs.Ytcckpodpgenapaa
open Go.ChangeShapes Go.WideShapes Go.ChangeAt Go.RowKit
set_option linter.unusedVariables false

theorem sub_lenN : ∀ (l m : List Nat), l.Nodup → (∀ x ∈ l, x ∈ m) → l.length ≤ m.length := by
  intro l
  induction l with
  | nil => intro m _ _; exact Nat.zero_le _
  | cons a t ih =>
    intro m hn hs
    obtain ⟨ha, ht⟩ := List.nodup_cons.1 hn
    have hm := hs a (List.mem_cons_self ..)
    have h1 := ih (m.erase a) ht fun x hx => (List.mem_erase_of_ne (fun e => ha (by rw [← e]; exact hx))).2 (hs x (List.mem_cons_of_mem _ hx))
    have h2 := List.length_erase_of_mem hm
    have h3 := List.length_pos_of_mem hm
    rw [List.length_cons]; omega
theorem flt_add (p : Nat → Bool) : ∀ l : List Nat, (l.filter p).length + (l.filter fun q => !p q).length = l.length := by
  intro l
  induction l with
  | nil => rfl
  | cons a t ih =>
    rw [List.filter_cons, List.filter_cons]
    cases h : p a <;> simp <;> omega
theorem map_nodup {f : Nat → Nat} {l : List Nat} (hn : l.Nodup) (hf : ∀ a ∈ l, ∀ b ∈ l, f a = f b → a = b) : (l.map f).Nodup := by
  rw [List.Nodup, List.pairwise_map]
  exact List.Pairwise.imp_of_mem (fun ha hb hab e => hab (hf _ ha _ hb e)) hn
/-- An involution without fixed points moves an even number. -/
theorem invol_even (n : Nat) (f : Nat → Nat) (h : ∀ q, q < n → f q < n ∧ f q ≠ q ∧ f (f q) = q) : n % 2 = 0 := by
  have hadd := flt_add (fun q => decide (q < f q)) (List.range n)
  rw [List.length_range] at hadd
  have hm : ∀ (p : Nat → Bool) q, q ∈ (List.range n).filter p ↔ q < n ∧ p q = true := fun p q => by rw [List.mem_filter, List.mem_range]
  have hnd : ∀ p : Nat → Bool, ((List.range n).filter p).Nodup := fun p => List.Pairwise.filter _ List.nodup_range
  have hle : ∀ p p' : Nat → Bool, (∀ q, q < n → p q = true → p' (f q) = true) → ((List.range n).filter p).length ≤ ((List.range n).filter p').length := by
    intro p p' hp
    rw [← List.length_map (f := f)]
    refine sub_lenN _ _ (map_nodup (hnd p) fun a ha b hb e => ?_) fun x hx => ?_
    · rw [← (h a ((hm _ _).1 ha).1).2.2, e, (h b ((hm _ _).1 hb).1).2.2]
    · obtain ⟨q, hq, rfl⟩ := List.mem_map.1 hx
      obtain ⟨h1, h2⟩ := (hm _ _).1 hq
      exact (hm _ _).2 ⟨(h q h1).1, hp q h1 h2⟩
  have h1 := hle (fun q => decide (q < f q)) (fun q => !decide (q < f q)) fun q hq hp => by
    have := h q hq
    have hp' : q < f q := of_decide_eq_true hp
    show (!decide (f q < f (f q))) = true
    rw [this.2.2]; simp; omega
  have h2 := hle (fun q => !decide (q < f q)) (fun q => decide (q < f q)) fun q hq hp => by
    have := h q hq
    have hp' : ¬ q < f q := by simpa using hp
    show decide (f q < f (f q)) = true
    rw [this.2.2]; simp; omega
  omega
/-- The partner of a point. -/
def nx (a : List Int) (p : Nat) : Nat := (a.getD p 0).toNat
theorem nx_match {xs : List Int} (h : matchP xs = true) {q : Nat} (hq : q < xs.length) : nx xs q < xs.length ∧ nx xs q ≠ q ∧ nx xs (nx xs q) = q ∧ xs.getD q 0 = (nx xs q : Int) := by
  obtain ⟨h1, h2, h3, h4⟩ := (match_yes h).2 q hq
  unfold nx
  refine ⟨by omega, by omega, ?_, by omega⟩
  rw [h4]; simp
theorem match_even {xs : List Int} (h : matchP xs = true) : xs.length = 2 * (xs.length / 2) := by
  have := invol_even xs.length (nx xs) fun q hq => ⟨(nx_match h hq).1, (nx_match h hq).2.1, (nx_match h hq).2.2.1⟩
  omega
theorem match_cross {xs : List Int} (h : (crossP xs == 0) = true) : matchP xs = true := by
  cases hm : matchP xs
  · unfold crossP at h; rw [hm] at h; simp at h
  · rfl

/-- A diagram: a matching without crossings of two points at least. -/
def diaB (xs : List Int) : Bool := decide (2 ≤ xs.length) && (crossP xs == 0)
theorem dia_match {xs : List Int} (h : diaB xs = true) : matchP xs = true ∧ 2 ≤ xs.length ∧ xs.length ≤ 16 := by
  unfold diaB at h
  rw [Bool.and_eq_true] at h
  have := match_cross h.2
  exact ⟨this, of_decide_eq_true h.1, (match_yes this).1⟩
/-- The identity of n points above. -/
def idL (n : Nat) : List Int := (List.range (2 * n)).map fun (i : Nat) => 2 * (n : Int) - 1 - (i : Int)
theorem idL_len (n : Nat) : (idL n).length = 2 * n := by simp [idL]
theorem idL_at (n q : Nat) (h : q < 2 * n) : (idL n).getD q 0 = 2 * (n : Int) - 1 - (q : Int) := by simp [idL, List.getD, h]
/-- The first i partners in a diagram of M points that is the identity. -/
def idA (M i : Nat) : List Int := (List.range i).map fun (q : Nat) => (M : Int) - 1 - (q : Int)
theorem idA_len (M i : Nat) : (idA M i).length = i := by simp [idA]
theorem idA_succ (M i : Nat) : idA M (i + 1) = idA M i ++ [(M : Int) - 1 - (i : Int)] := by simp [idA, List.range_succ]
theorem idL_eq (n : Nat) : idL n = idA (2 * n) (2 * n) := by
  unfold idL idA
  refine List.map_congr_left fun i _ => ?_
  push_cast; rfl
def idF (M i : Nat) : Nat → Int := fun q => if q < i then (M : Int) - 1 - (q : Int) else 0
theorem idF_zero (M : Nat) : idF M 0 = fun _ => 0 := by funext q; unfold idF; rw [if_neg (by omega)]
theorem idF_succ (M i : Nat) : idF M (i + 1) = upd (idF M i) i ((M : Int) - 1 - (i : Int)) := by
  funext q
  unfold idF
  by_cases e : q = i
  · subst e; rw [upd_at, if_pos (by omega)]
  · rw [upd_ne _ _ e]
    by_cases h2 : q < i
    · rw [if_pos h2, if_pos (by omega)]
    · rw [if_neg h2, if_neg (by omega)]
def idOk (n : Int) : Bool := decide (1 ≤ n ∧ n ≤ 8)
def idP (n : Int) : List Int := if idOk n = true then idL n.toNat else []
theorem idP_len (n : Int) : (idP n).length ≤ 16 := by
  unfold idP
  split
  · rename_i h
    have := of_decide_eq_true h
    rw [idL_len]; omega
  · simp
/-- A hook. -/
def hkL (n i : Nat) : List Int := ((((idL n).set i ((i : Int) + 1)).set (i + 1) (i : Int)).set (2 * n - 1 - i) (2 * (n : Int) - 2 - (i : Int))).set (2 * n - 2 - i) (2 * (n : Int) - 1 - (i : Int))
theorem OwnI.setL {w : World} {lo hi g cap n : Nat} {xs : List Int} (h : OwnI w lo hi (.slice (some ⟨g, 0, none⟩) n cap) xs) {j : Nat} (hj : j < xs.length) (y : Int) : OwnI (w.setCell ⟨g, j, none⟩ (.int .i64 y)) lo hi (.slice (some ⟨g, 0, none⟩) n cap) (xs.set j y) :=
  h.set hj (by simp) (by simp [List.getD, hj]) (fun i hi hne => by simp [List.getD, List.getElem?_set_ne (Ne.symm hne)])
theorem OwnI.at {w : World} {lo hi g cap n : Nat} {xs : List Int} (h : OwnI w lo hi (.slice (some ⟨g, 0, none⟩) n cap) xs) {j : Nat} (hj : j < xs.length) : ∃ z, w.cell? ⟨g, j, none⟩ = some (.int .i64 z) ∧ w.frozen? ⟨g, j, none⟩ = false := by
  obtain ⟨g1, p1, e1, -, -, hc1, hf⟩ := h.cell hj
  simp only [Value.slice.injEq, Option.some.injEq, Addr.mk.injEq] at e1
  obtain ⟨⟨rfl, -, -⟩, -, -⟩ := e1
  exact ⟨_, hc1, hf⟩
theorem hkL_len (n i : Nat) : (hkL n i).length = 2 * n := by simp [hkL, idL_len]
def hkOk (n i : Int) : Bool := decide (1 ≤ n ∧ n ≤ 8 ∧ 0 ≤ i ∧ i ≤ n - 2)
def hkP (n i : Int) : List Int := if hkOk n i = true then hkL n.toNat i.toNat else []
theorem hkP_len (n i : Int) : (hkP n i).length ≤ 16 := by
  unfold hkP
  split
  · rename_i h
    have := of_decide_eq_true h
    rw [hkL_len]; omega
  · simp
/-- Upside down. -/
def flL (xs : List Int) : List Int := (List.range xs.length).map fun (q : Nat) => (xs.length : Int) - 1 - xs.getD (xs.length - 1 - q) 0
theorem flL_len (xs : List Int) : (flL xs).length = xs.length := by simp [flL]
theorem flL_at (xs : List Int) (q : Nat) (h : q < xs.length) : (flL xs).getD q 0 = (xs.length : Int) - 1 - xs.getD (xs.length - 1 - q) 0 := by simp [flL, List.getD, h]
def flP (xs : List Int) : List Int := if diaB xs = true then flL xs else []
theorem flP_len (xs : List Int) : (flP xs).length ≤ 16 := by
  unfold flP
  split
  · rename_i h
    rw [flL_len]; exact (dia_match h).2.2
  · simp
/-- The row when the first i points have been filled in. -/
def flF (xs : List Int) (i : Nat) : Nat → Int := fun q => if q < xs.length ∧ xs.length - 1 - q < i then (xs.length : Int) - 1 - xs.getD (xs.length - 1 - q) 0 else 0
theorem flF_zero (xs : List Int) : flF xs 0 = fun _ => 0 := by funext q; unfold flF; rw [if_neg (by omega)]
theorem flF_succ (xs : List Int) {i : Nat} (h : i < xs.length) : flF xs (i + 1) = upd (flF xs i) (xs.length - 1 - i) ((xs.length : Int) - 1 - xs.getD i 0) := by
  funext q
  unfold flF
  by_cases e : q = xs.length - 1 - i
  · subst e
    rw [upd_at, if_pos (by omega), show xs.length - 1 - (xs.length - 1 - i) = i by omega]
  · rw [upd_ne _ _ e]
    by_cases h2 : q < xs.length ∧ xs.length - 1 - q < i
    · rw [if_pos h2, if_pos (by omega)]
    · rw [if_neg h2, if_neg (by omega)]
theorem flF_all (xs : List Int) {q : Nat} (h : q < xs.length) : (flL xs).getD q 0 = flF xs xs.length q := by
  rw [flL_at xs q h]; unfold flF; rw [if_pos (by omega)]
/-- Arcs from above to below. -/
def thN (xs : List Int) : Nat → Nat
  | 0 => 0
  | k + 1 => thN xs k + if ((xs.length / 2 : Nat) : Int) ≤ xs.getD k 0 then 1 else 0
theorem thN_le (xs : List Int) : ∀ k, thN xs k ≤ k := by
  intro k
  induction k with
  | zero => exact Nat.zero_le _
  | succ k ih => rw [thN]; split <;> omega
def thP (xs : List Int) : Int := if diaB xs = true then (thN xs (xs.length / 2) : Int) else -1

/-- One more point has been seen. -/
def upb (s : Nat → Bool) (k : Nat) : Nat → Bool := fun q => if q = k then true else s q
theorem upb_at (s : Nat → Bool) (k : Nat) : upb s k k = true := if_pos rfl
theorem upb_ne (s : Nat → Bool) {k q : Nat} (h : q ≠ k) : upb s k q = s q := if_neg h
theorem upb_mono (s : Nat → Bool) (k q : Nat) (h : s q = true) : upb s k q = true := by unfold upb; split; rfl; exact h
/-- How many of the first n have not been seen. -/
def uns (s : Nat → Bool) : Nat → Nat
  | 0 => 0
  | n + 1 => uns s n + if s n = false then 1 else 0
theorem uns_le (s : Nat → Bool) : ∀ n, uns s n ≤ n := by
  intro n
  induction n with
  | zero => exact Nat.zero_le _
  | succ n ih => rw [uns]; split <;> omega
theorem uns_mono (s : Nat → Bool) (k : Nat) : ∀ n, uns (upb s k) n ≤ uns s n := by
  intro n
  induction n with
  | zero => exact Nat.le_refl _
  | succ n ih =>
    rw [uns, uns]
    have := upb_mono s k n
    cases h : s n
    · split <;> simp <;> omega
    · rw [this h]; simpa using ih
theorem uns_upb {s : Nat → Bool} {k : Nat} (hs : s k = false) : ∀ n, k < n → uns (upb s k) n + 1 ≤ uns s n := by
  intro n
  induction n with
  | zero => intro h; omega
  | succ n ih =>
    intro h
    rw [uns, uns]
    by_cases e : n = k
    · subst e
      rw [upb_at, hs]
      have := uns_mono s n n
      simp; omega
    · have := ih (by omega)
      rw [upb_ne s e]; omega
/-- From a point on, along arcs of both, until a point has been seen. -/
def ccW (a b : List Int) : Nat → (Nat → Bool) → Nat → (Nat → Bool)
  | 0, s, _ => s
  | k + 1, s, p => if s p = true then s else ccW a b k (upb (upb s p) (nx a p)) (nx b (nx a p))
theorem ccW_hit {a b : List Int} {k : Nat} {s : Nat → Bool} {p : Nat} (h : s p = true) : ccW a b k s p = s := by
  cases k with
  | zero => rfl
  | succ k => rw [ccW, if_pos h]
theorem ccW_go {a b : List Int} {k : Nat} {s : Nat → Bool} {p : Nat} (h : s p = false) : ccW a b (k + 1) s p = ccW a b k (upb (upb s p) (nx a p)) (nx b (nx a p)) := by
  rw [ccW, if_neg (by simp [h])]
/-- What has been seen behind the first i starts, and how many loops. -/
def ccO (a b : List Int) (n : Nat) (s0 : Nat → Bool) : Nat → (Nat → Bool) × Nat
  | 0 => (s0, 0)
  | i + 1 => if (ccO a b n s0 i).1 i = true then ccO a b n s0 i else (ccW a b (n + 1) (ccO a b n s0 i).1 i, (ccO a b n s0 i).2 + 1)
theorem ccO_hit {a b : List Int} {n : Nat} {s0 : Nat → Bool} {i : Nat} (h : (ccO a b n s0 i).1 i = true) : ccO a b n s0 (i + 1) = ccO a b n s0 i := by rw [ccO, if_pos h]
theorem ccO_go {a b : List Int} {n : Nat} {s0 : Nat → Bool} {i : Nat} (h : (ccO a b n s0 i).1 i = false) : ccO a b n s0 (i + 1) = (ccW a b (n + 1) (ccO a b n s0 i).1 i, (ccO a b n s0 i).2 + 1) := by rw [ccO, if_neg (by simp [h])]
theorem ccO_le (a b : List Int) (n : Nat) (s0 : Nat → Bool) : ∀ i, (ccO a b n s0 i).2 ≤ i := by
  intro i
  induction i with
  | zero => exact Nat.le_refl _
  | succ i ih =>
    rw [ccO]
    split
    · omega
    · simpa using ih
def lpN (a b : List Int) : Nat := (ccO a b a.length (fun _ => false) a.length).2
def lpOk (a b : List Int) : Bool := (crossP a == 0) && (crossP b == 0) && decide (a.length = b.length)
def lpP (a b : List Int) : Int := if lpOk a b = true then (lpN a b : Int) else -1
theorem lpOk_yes {a b : List Int} (h : lpOk a b = true) : matchP a = true ∧ matchP b = true ∧ a.length = b.length ∧ a.length ≤ 16 := by
  unfold lpOk at h
  rw [Bool.and_eq_true, Bool.and_eq_true] at h
  have := match_cross h.1.1
  exact ⟨this, match_cross h.1.2, of_decide_eq_true h.2, (match_yes this).1⟩
def trP (xs : List Int) : Int := if diaB xs = true then (lpN xs (idL (xs.length / 2)) : Int) else -1
/-- Loops go along points of both. -/
def InR (a : List Int) (n : Nat) : Prop := ∀ q, q < n → nx a q < n ∧ a.getD q 0 = (nx a q : Int)
theorem inR_match {xs : List Int} (h : matchP xs = true) : InR xs xs.length := fun q hq => ⟨(nx_match h hq).1, (nx_match h hq).2.2.2⟩
theorem nx_id {n q : Nat} (h : q < 2 * n) : nx (idL n) q = 2 * n - 1 - q := by unfold nx; rw [idL_at n q h]; omega
theorem inR_id (n : Nat) : InR (idL n) (2 * n) := fun q hq => ⟨by rw [nx_id hq]; omega, by rw [nx_id hq, idL_at n q hq]; omega⟩

end Go.Proofs.Ytcckpodpgenapaa
