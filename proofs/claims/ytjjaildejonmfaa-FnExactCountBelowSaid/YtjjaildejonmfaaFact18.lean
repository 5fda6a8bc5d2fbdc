/- Heights of two paths: plain facts. -/
import Derived.Test.YtjjaildejonmfaaImpl2H
namespace Go.Proofs.Ytjjaildejonmfaa
open Go.RowKit
set_option linter.unusedVariables false

def fitB (a b : ByteArray) : Bool := dyck a && dyck b && (a.size == b.size)
theorem fit_yes {a b : ByteArray} (h : fitB a b = true) : dyck a = true ∧ dyck b = true ∧ a.size = b.size := by
  unfold fitB at h
  simp only [Bool.and_eq_true, beq_iff_eq] at h
  exact ⟨h.1.1, h.1.2, h.2⟩
theorem fit_of {a b : ByteArray} (h1 : dyck a = true) (h2 : dyck b = true) (h3 : a.size = b.size) : fitB a b = true := by
  unfold fitB; rw [h1, h2, h3]; simp
theorem fit_no {a b : ByteArray} (h : dyck a = false ∨ dyck b = false ∨ a.size ≠ b.size) : fitB a b = false := by
  rcases hf : fitB a b with _ | _
  · rfl
  · obtain ⟨h1, h2, h3⟩ := fit_yes hf
    rcases h with h | h | h
    · rw [h1] at h; cases h
    · rw [h2] at h; cases h
    · exact absurd h3 h
theorem hs_len {a : ByteArray} (h : dyck a = true) : (heightsP a).length = a.size + 1 := by rw [heightsP_yes h, hsL_len]; simp
/-- Place by place. -/
def hh (f : Int → Int → Int) (xs ys : List Int) (n : Nat) : List Int := (List.range n).map fun i => f (xs.getD i 0) (ys.getD i 0)
theorem hh_len (f : Int → Int → Int) (xs ys : List Int) (n : Nat) : (hh f xs ys n).length = n := by simp [hh]
theorem hh_at (f : Int → Int → Int) (xs ys : List Int) (n i : Nat) (h : i < n) : (hh f xs ys n).getD i 0 = f (xs.getD i 0) (ys.getD i 0) := by simp [hh, List.getD, h]
theorem hh_next (f : Int → Int → Int) (xs ys : List Int) (n : Nat) : hh f xs ys (n + 1) = hh f xs ys n ++ [f (xs.getD n 0) (ys.getD n 0)] := by
  unfold hh; rw [List.range_succ, List.map_append]; rfl
/-- The path of these heights. -/
noncomputable def thrP (f : Int → Int → Int) (a b : ByteArray) : ByteArray := if fitB a b = true then pohP (hh f (heightsP a) (heightsP b) (a.size + 1)) else ⟨#[]⟩
noncomputable def thrOk (f : Int → Int → Int) (a b : ByteArray) : Bool := fitB a b && pohOk (hh f (heightsP a) (heightsP b) (a.size + 1))
theorem thr_yes {f : Int → Int → Int} {a b : ByteArray} (h : fitB a b = true) : thrP f a b = pohP (hh f (heightsP a) (heightsP b) (a.size + 1)) ∧ thrOk f a b = pohOk (hh f (heightsP a) (heightsP b) (a.size + 1)) := by
  unfold thrP thrOk; rw [if_pos h, h]; exact ⟨rfl, rfl⟩
theorem thr_no {f : Int → Int → Int} {a b : ByteArray} (h : fitB a b = false) : thrP f a b = ⟨#[]⟩ ∧ thrOk f a b = false := by
  unfold thrP thrOk; rw [if_neg (by rw [h]; simp), h]; exact ⟨rfl, rfl⟩
def blwB (xs ys : List Int) (n : Nat) : Bool := (List.range n).all fun i => decide (xs.getD i 0 ≤ ys.getD i 0)
theorem blw_iff (xs ys : List Int) (n : Nat) : blwB xs ys n = true ↔ ∀ i, i < n → xs.getD i 0 ≤ ys.getD i 0 := by
  unfold blwB
  rw [List.all_eq_true]
  constructor
  · intro h i hi; exact of_decide_eq_true (h i (List.mem_range.2 hi))
  · intro h i hi; exact decide_eq_true (h i (List.mem_range.1 hi))
theorem blw_no {xs ys : List Int} {n i : Nat} (hi : i < n) (h : ys.getD i 0 < xs.getD i 0) : blwB xs ys n = false := by
  rcases hb : blwB xs ys n with _ | _
  · rfl
  · have := (blw_iff xs ys n).1 hb i hi; omega
/-- No height of a is greater than that of b. -/
def isbP (a b : ByteArray) : Bool := fitB a b && blwB (heightsP a) (heightsP b) (a.size + 1)
theorem isb_yes {a b : ByteArray} (h : fitB a b = true) : isbP a b = blwB (heightsP a) (heightsP b) (a.size + 1) := by unfold isbP; rw [h]; rfl
theorem isb_no {a b : ByteArray} (h : fitB a b = false) : isbP a b = false := by unfold isbP; rw [h]; rfl

/-- The word of a path's heights is the path. -/
theorem dir_back {a : ByteArray} (hd : dyck a = true) : dirW (heightsP a) = a := by
  have hl := hs_len hd
  have hz := dirW_size (heightsP a)
  apply ByteArray.ext
  apply Array.ext (by show (dirW (heightsP a)).size = a.size; omega)
  intro i h1 h2
  have hi : i < (dirW (heightsP a)).size := h1
  have hi2 : i < a.size := h2
  show (dirW (heightsP a))[i] = a[i]
  rw [dirW_at _ i hi]
  unfold stepD
  rw [hAt_list hd rfl i, hAt_list hd rfl (i + 1)]
  by_cases e : a[i].toNat = 117
  · have := hAt_up a i hi2 e
    rw [if_pos (by omega)]
    exact UInt8.toNat_inj.1 (by rw [e]; rfl)
  · have := hAt_down a i hi2 e
    rw [if_neg (by omega)]
    have := (dyck_letter hd i hi2).resolve_left e
    exact UInt8.toNat_inj.1 (by rw [this]; rfl)
theorem poh_heights {a : ByteArray} (hd : dyck a = true) : pohOk (heightsP a) = true ∧ pohP (heightsP a) = a := by
  have hl := hs_len hd
  obtain ⟨hg, hw⟩ := poh_eq (xs := heightsP a) (by omega) (by rw [dir_back hd])
  obtain ⟨h1, h2⟩ := poh_yes hg
  exact ⟨h1, by rw [h2, hw, dir_back hd]⟩
theorem poh_hs {xs : List Int} (h : pohOk xs = true) : heightsP (pohP xs) = xs ∧ dyck (pohP xs) = true := by
  have hg : pohGood xs := by
    rcases Classical.em (pohGood xs) with hg | hg
    · exact hg
    · rw [(poh_no hg).1] at h; cases h
  have h2 := (poh_yes hg).2
  have hb := poh_back hg
  have he := poh_eq (xs := xs) hg.2.1 hb
  rw [h2]
  exact ⟨by rw [he.2]; exact hb, hg.2.2.2⟩
/-- The program's way to tell what is below. -/
theorem isb_low {a b : ByteArray} (h : fitB a b = true) : isbP a b = (thrOk min a b && decide (thrP min a b = a)) := by
  obtain ⟨ha, hb, hs⟩ := fit_yes h
  obtain ⟨e1, e2⟩ := thr_yes (f := min) h
  have la := hs_len ha
  rw [isb_yes h, e1, e2]
  rw [Bool.eq_iff_iff, Bool.and_eq_true, decide_eq_true_eq, blw_iff]
  constructor
  · intro hle
    have : hh min (heightsP a) (heightsP b) (a.size + 1) = heightsP a := by
      apply List.ext_getElem (by rw [hh_len, la])
      intro i h1 h2
      have hi : i < a.size + 1 := by omega
      have := hh_at min (heightsP a) (heightsP b) (a.size + 1) i hi
      rw [List.getD_eq_getElem?_getD, List.getElem?_eq_getElem h1] at this
      have hx : (heightsP a).getD i 0 = (heightsP a)[i] := by rw [List.getD_eq_getElem?_getD, List.getElem?_eq_getElem h2]; rfl
      have := hle i hi
      simp only [Option.getD_some] at *
      omega
    rw [this]
    exact poh_heights ha
  · rintro ⟨h1, h2⟩ i hi
    have h3 := (poh_hs h1).1
    rw [h2] at h3
    have := hh_at min (heightsP a) (heightsP b) (a.size + 1) i hi
    rw [← h3] at this
    omega

/-- The sum of the differences ahead of place j. -/
def dsL (xs ys : List Int) : Nat → Int
  | 0 => 0
  | j + 1 => dsL xs ys j + max (xs.getD j 0 - ys.getD j 0) (ys.getD j 0 - xs.getD j 0)
theorem dsL_bd {xs ys : List Int} {n : Nat} (hx : ∀ j, j < n → 0 ≤ xs.getD j 0 ∧ xs.getD j 0 ≤ 8) (hy : ∀ j, j < n → 0 ≤ ys.getD j 0 ∧ ys.getD j 0 ≤ 8) : ∀ j, j ≤ n → 0 ≤ dsL xs ys j ∧ dsL xs ys j ≤ 8 * j
  | 0, _ => by simp [dsL]
  | j + 1, h => by
    have := dsL_bd hx hy j (by omega)
    have h1 := hx j (by omega)
    have h2 := hy j (by omega)
    rw [dsL]; omega
def dstP (a b : ByteArray) : Int := if fitB a b = true then dsL (heightsP a) (heightsP b) (a.size + 1) / 2 else -1
theorem dst_yes {a b : ByteArray} (h : fitB a b = true) : dstP a b = dsL (heightsP a) (heightsP b) (a.size + 1) / 2 := if_pos h
theorem dst_no {a b : ByteArray} (h : fitB a b = false) : dstP a b = -1 := if_neg (by rw [h]; simp)
/-- What the heights are too much. -/
def tmL (xs : List Int) : Nat → Int
  | 0 => 0
  | j + 1 => tmL xs j + xs.getD j 0 - ((j % 2 : Nat) : Int)
def rnkP (w : ByteArray) : Int := if dyck w = true then tmL (heightsP w) (w.size + 1) / 2 else -1
theorem tmL_bd {xs : List Int} {n : Nat} (hx : ∀ j, j < n → 0 ≤ xs.getD j 0 ∧ xs.getD j 0 ≤ 8) : ∀ j, j ≤ n → -(j : Int) ≤ tmL xs j ∧ tmL xs j ≤ 8 * j
  | 0, _ => by simp [tmL]
  | j + 1, h => by
    have := tmL_bd hx j (by omega)
    have h1 := hx j (by omega)
    rw [tmL]; omega
theorem hAt_par {s : ByteArray} (hd : dyck s = true) : ∀ j, j ≤ s.size → hAt s j % 2 = ((j % 2 : Nat) : Int)
  | 0, _ => by rw [hAt_zero]; rfl
  | j + 1, h => by
    have := hAt_par hd j (by omega)
    by_cases e : s[j].toNat = 117
    · rw [hAt_up s j (by omega) e]; omega
    · rw [hAt_down s j (by omega) e]; omega
theorem hs_fit {a : ByteArray} (hd : dyck a = true) (j : Nat) (h : j < a.size + 1) : 0 ≤ (heightsP a).getD j 0 ∧ (heightsP a).getD j 0 ≤ 8 := by
  rw [hAt_list hd rfl j]; exact hAt_fit hd j (by omega)
theorem tmL_nn {w : ByteArray} (hd : dyck w = true) : ∀ j, j ≤ w.size + 1 → 0 ≤ tmL (heightsP w) j
  | 0, _ => by simp [tmL]
  | j + 1, h => by
    have := tmL_nn hd j (by omega)
    have p1 := hAt_par hd j (by omega)
    have p2 := hAt_fit hd j (by omega)
    rw [← hAt_list hd rfl j] at p1 p2
    rw [tmL]; omega
/-- The lowest path. -/
def zzL : Nat → List UInt8
  | 0 => []
  | k + 1 => 117 :: 100 :: zzL k
theorem zzL_len : ∀ k, (zzL k).length = 2 * k
  | 0 => rfl
  | k + 1 => by rw [zzL, List.length_cons, List.length_cons, zzL_len k]; omega
theorem zz_hs : ∀ (k j : Nat), j ≤ 2 * k → (hsL 0 (zzL k)).getD j 0 = ((j % 2 : Nat) : Int)
  | 0, j, h => by obtain rfl : j = 0 := by omega
                  rfl
  | k + 1, j, h => by
    rw [zzL, hsL_up _ _ _ rfl, hsL_down _ _ _ (by decide)]
    match j, h with
    | 0, _ => rfl
    | 1, _ => rfl
    | j + 2, h =>
      have := zz_hs k j (by omega)
      rw [List.getD_eq_getElem?_getD, List.getElem?_cons_succ, List.getElem?_cons_succ, ← List.getD_eq_getElem?_getD, show ((0 : Int) + 1 - 1) = 0 by omega, this]
      congr 1; omega
theorem zz_dyck : ∀ k, dyckFrom 0 (zzL k) = true
  | 0 => rfl
  | k + 1 => by rw [zzL, df_up _ _ _ rfl, df_down _ _ _ rfl, zz_dyck k]
def zzP (k : Nat) : ByteArray := ⟨(zzL k).toArray⟩
theorem zzP_list (k : Nat) : (zzP k).data.toList = zzL k := by simp [zzP]
theorem zzP_size (k : Nat) : (zzP k).size = 2 * k := by rw [← zzL_len k, ← zzP_list]; simp
theorem zzP_dyck (k : Nat) (h : k ≤ 8) : dyck (zzP k) = true := by rw [dyck_short (by rw [zzP_size]; omega), zzP_list]; exact zz_dyck k
theorem dyck_even {s : ByteArray} (hd : dyck s = true) : s.size % 2 = 0 := by
  have h := hAt_par hd s.size (Nat.le_refl _)
  obtain ⟨k, hk, -, hf⟩ := hAt_path hd s.size (Nat.le_refl _)
  rw [rest_end s s.size (Nat.le_refl _), df_nil] at hf
  simp only [beq_iff_eq] at hf
  omega
theorem rank_dst {w : ByteArray} (hd : dyck w = true) : rnkP w = dstP w (zzP (w.size / 2)) := by
  have he := dyck_even hd
  have h16 := dyck_size hd
  have hz := zzP_dyck (w.size / 2) (by omega)
  have hs : w.size = (zzP (w.size / 2)).size := by rw [zzP_size]; omega
  unfold rnkP
  rw [if_pos hd, dst_yes (fit_of hd hz hs)]
  have key : ∀ j, j ≤ w.size + 1 → tmL (heightsP w) j = dsL (heightsP w) (heightsP (zzP (w.size / 2))) j := by
    intro j
    induction j with
    | zero => intro _; rfl
    | succ j ih =>
      intro h
      have e := ih (by omega)
      have p1 := hAt_par hd j (by omega)
      have p2 := hAt_fit hd j (by omega)
      rw [← hAt_list hd rfl j] at p1 p2
      have p3 : (heightsP (zzP (w.size / 2))).getD j 0 = ((j % 2 : Nat) : Int) := by
        rw [heightsP_yes hz, zzP_list]; exact zz_hs _ j (by omega)
      rw [tmL, dsL, e, p3]; omega
  rw [key _ (Nat.le_refl _)]
theorem rnk_no {w : ByteArray} (h : dyck w = false) : rnkP w = -1 := if_neg (by rw [h]; simp)
theorem rnk_yes {w : ByteArray} (h : dyck w = true) : rnkP w = tmL (heightsP w) (w.size + 1) / 2 := if_pos h

end Go.Proofs.Ytjjaildejonmfaa
