/- The contract of the program's HeightsOf. -/
import Derived.Test.YtkpnfonedfomaaaImpl2A
import Derived.Test.YtkpnfonedfomaaaSpec2B
import Derived.Test.YtkpnfonedfomaaaSpec3A
import Derived.Deep.RegionLaw
import Derived.IntWalk
namespace Go.Proofs.Ytkpnfonedfomaaa
open Go.ChangeShapes Go.WideShapes Go.ChangeAt Go.RowKit
set_option linter.unusedVariables false

theorem df_mem {h : Nat} {l : List UInt8} (hd : dyckFrom h l = true) : ∀ c ∈ l, c.toNat = 117 ∨ c.toNat = 100 := by
  induction l generalizing h with
  | nil => simp
  | cons c l ih =>
    intro x hx
    rcases df_letter hd with ⟨e, h1⟩ | ⟨e, -, h1⟩
    · rcases List.mem_cons.1 hx with rfl | hx
      · exact .inl e
      · exact ih h1 x hx
    · rcases List.mem_cons.1 hx with rfl | hx
      · exact .inr e
      · exact ih h1 x hx
theorem at_mem (s : ByteArray) (i : Nat) (h : i < s.size) : s[i] ∈ s.data.toList := by
  have : s.data[i]'h ∈ s.data := Array.getElem_mem h
  exact Array.mem_toList_iff.2 this
theorem at_list (s : ByteArray) (i : Nat) (h : i < s.size) (h' : i < s.data.toList.length) : s.data.toList[i] = s[i] := by
  rw [Array.getElem_toList]; rfl
theorem dyck_letter {s : ByteArray} (hd : dyck s = true) (i : Nat) (h : i < s.size) : s[i].toNat = 117 ∨ s[i].toNat = 100 := by
  rw [dyck_short (dyck_size hd)] at hd
  exact df_mem hd _ (at_mem s i h)

theorem hsL_head (h : Int) (l : List UInt8) : (hsL h l).getD 0 0 = h := by cases l <;> rfl
theorem hsL_step (h : Int) (l : List UInt8) (i : Nat) (hi : i < l.length) : (hsL h l).getD (i + 1) 0 = (hsL h l).getD i 0 + if l[i].toNat = 117 then 1 else -1 := by
  induction l generalizing h i with
  | nil => simp at hi
  | cons c l ih =>
    rw [hsL]
    cases i with
    | zero =>
      rw [List.getD_cons_succ, hsL_head, List.getD_cons_zero]
      show (if c.toNat = 117 then h + 1 else h - 1) = h + if c.toNat = 117 then 1 else -1
      split <;> omega
    | succ i =>
      rw [List.getD_cons_succ, List.getD_cons_succ]
      exact ih _ i (by simpa using hi)
/-- The height in front of letter i. -/
def hAt (s : ByteArray) (i : Nat) : Int := (hsL 0 s.data.toList).getD i 0
theorem hAt_zero (s : ByteArray) : hAt s 0 = 0 := hsL_head _ _
theorem hAt_up (s : ByteArray) (i : Nat) (h : i < s.size) (e : s[i].toNat = 117) : hAt s (i + 1) = hAt s i + 1 := by
  unfold hAt
  rw [hsL_step _ _ i (by simpa using h), at_list s i h, if_pos e]
theorem hAt_down (s : ByteArray) (i : Nat) (h : i < s.size) (e : s[i].toNat ≠ 117) : hAt s (i + 1) = hAt s i + -1 := by
  unfold hAt
  rw [hsL_step _ _ i (by simpa using h), at_list s i h, if_neg e]
theorem hAt_bd (s : ByteArray) (i : Nat) (h : i ≤ s.size) : -(i : Int) ≤ hAt s i ∧ hAt s i ≤ i := by
  induction i with
  | zero => rw [hAt_zero]; simp
  | succ i ih =>
    have := ih (by omega)
    by_cases e : s[i].toNat = 117
    · rw [hAt_up s i (by omega) e]; omega
    · rw [hAt_down s i (by omega) e]; omega
/-- The heights when the first i letters have been read. -/
def hFill (s : ByteArray) (i : Nat) : Nat → Int := fun q => if q ≤ i then hAt s q else 0
theorem hFill_at (s : ByteArray) (i q : Nat) (h : q ≤ i) : hFill s i q = hAt s q := if_pos h
theorem hFill_zero (s : ByteArray) (q : Nat) : hFill s 0 q = 0 := by
  unfold hFill
  split
  · rename_i h
    obtain rfl : q = 0 := by omega
    exact hAt_zero s
  · rfl
theorem hFill_next (s : ByteArray) (i q : Nat) (h : q ≠ i + 1) : hFill s (i + 1) q = hFill s i q := by
  unfold hFill
  by_cases e : q ≤ i
  · rw [if_pos e, if_pos (by omega)]
  · rw [if_neg e, if_neg (by omega)]

theorem iter_setCell {w : World} {k g q : Nat} {s : ByteArray} {i : Nat} {y : Value} (h : w.heap[k]? = some (.stringIter s i)) (hne : g ≠ k) : (w.setCell ⟨g, q, none⟩ y).heap[k]? = some (.stringIter s i) := by
  rw [← h]
  simp [World.setCell, Array.getElem?_modify, hne]
theorem RowI.ne_iter {w : World} {k g d : Nat} {f : Nat → Int} {s : ByteArray} {i : Nat} (h : RowI w g d f) (hk : w.heap[k]? = some (.stringIter s i)) : g ≠ k := by
  obtain ⟨C, h1, -⟩ := h
  intro e
  rw [e, hk] at h1
  simp at h1
theorem RowI.iterAt {w : World} {k g d : Nat} {f : Nat → Int} {s : ByteArray} {i j : Nat} (h : RowI w g d f) (hk : w.heap[k]? = some (.stringIter s i)) : RowI (w.iterAt k s j) g d f :=
  h.keep (Lib.iterAt_other _ _ _ _ _ (h.ne_iter hk))
theorem OwnI.of_rowI {w : World} {lo hi g d c : Nat} {f : Nat → Int} {xs : List Int} (h : RowI w g d f) (hl : xs.length = d + 1) (hx : ∀ j, j ≤ d → xs.getD j 0 = f j) (h1 : lo ≤ g) (h2 : g < hi) : OwnI w lo hi (.slice (some ⟨g, 0, none⟩) (d + 1) c) xs := by
  obtain ⟨C, h3, h4⟩ := h
  refine ⟨_, c, by rw [hl], .inr ⟨g, C, h1, h2, rfl, h3, fun j hj => ?_⟩⟩
  rw [h4 j (by omega), hx j (by omega)]
/-- The state of a range over s, its iterator in block k, at place i. -/
def AtS (w : World) (k : Nat) (s : ByteArray) (i : Nat) : Prop := w.heap[k]? = some (.stringIter s i)

end Go.Proofs.Ytkpnfonedfomaaa
