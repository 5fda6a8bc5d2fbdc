/- Rows of strings that the call owns: appending, reading, and the contracts of markText, eqStringS, markStringS, heldStringS. -/
import Derived.Test.YtkpnfonedfomaaaInts
import Derived.Laws.BytesArg
import Derived.Deep.AppendLies
import Derived.Deep.RegionLaw
import Derived.BigRegion
namespace Go.Proofs.Ytkpnfonedfomaaa
open Go.ChangeShapes Go.WideShapes Go.ChangeAt Go.RowKit
set_option linter.unusedVariables false

theorem info9 : (Try.prog.info? 9).map (fun i => (i.zero, i.size, i.bytes)) = some (some (.string ⟨#[]⟩), 1, 16) := by kernel_rfl
def E0 : ByteArray := ⟨#[]⟩
/-- v is a slice of the strings xs, as OwnI is of ints. -/
def OwnS (w : World) (lo hi : Nat) (v : Value) (xs : List ByteArray) : Prop :=
  ∃ A cap, v = .slice A xs.length cap ∧ (xs = [] ∨ ∃ g C, lo ≤ g ∧ g < hi ∧ A = some ⟨g, 0, none⟩ ∧ w.heap[g]? = some (.cells C 9 (0, 0)) ∧ ∀ j, j < xs.length → C[j]? = some (.string (xs.getD j E0)))
theorem OwnS.of_row {w : World} {base : Nat} {v : Value} {n : Nat} {xs : List ByteArray} (h : w.ownsRow base 9 1 v n (xs.map Value.string)) : OwnS w base w.heap.size v xs := by
  have hl : xs.length = n := by have := h.1; simpa using this
  rcases h.2 with ⟨rfl, rfl⟩ | ⟨g, cap, cur, rfl, hb, hh, hnc, hcm, hcur, htake⟩
  · exact ⟨none, 0, by rw [hl], .inl (List.eq_nil_of_length_eq_zero hl)⟩
  · refine ⟨some ⟨g, 0, none⟩, cap, by rw [hl], .inr ⟨g, cur, hb, (h.lt g rfl).2, rfl, hh, fun j hj => ?_⟩⟩
    have e : cur.toList[j]? = (cur.toList.take (n * 1))[j]? := by rw [List.getElem?_take, if_pos (by omega)]
    rw [← Array.getElem?_toList, e, htake, List.getElem?_map]
    simp [List.getD, show j < xs.length from hj]
theorem OwnS.keep {w w' : World} {lo hi B : Nat} {v : Value} {xs : List ByteArray} (h : OwnS w lo hi v xs) (hb : Below B w w') (hB : hi ≤ B) : OwnS w' lo hi v xs := by
  obtain ⟨A, cap, e, h⟩ := h
  refine ⟨A, cap, e, ?_⟩
  rcases h with h | ⟨g, C, h1, h2, h3, h4, h5⟩
  · exact .inl h
  · exact .inr ⟨g, C, h1, h2, h3, (hb.block g (by omega)).trans h4, h5⟩
theorem OwnS.wide {w : World} {lo hi lo' hi' : Nat} {v : Value} {xs : List ByteArray} (h : OwnS w lo hi v xs) (h1 : lo' ≤ lo) (h2 : hi ≤ hi') : OwnS w lo' hi' v xs := by
  obtain ⟨A, cap, e, h⟩ := h
  refine ⟨A, cap, e, ?_⟩
  rcases h with h | ⟨g, C, a1, a2, a3, a4, a5⟩
  · exact .inl h
  · exact .inr ⟨g, C, by omega, by omega, a3, a4, a5⟩
theorem OwnS.cell {w : World} {lo hi : Nat} {v : Value} {xs : List ByteArray} (h : OwnS w lo hi v xs) {j : Nat} (hj : j < xs.length) :
    ∃ g cap, v = .slice (some ⟨g, 0, none⟩) xs.length cap ∧ lo ≤ g ∧ g < hi ∧ w.cell? ⟨g, j, none⟩ = some (.string (xs.getD j E0)) ∧ w.frozen? ⟨g, j, none⟩ = false := by
  obtain ⟨A, cap, rfl, h⟩ := h
  rcases h with rfl | ⟨g, C, h1, h2, rfl, h4, h5⟩
  · simp at hj
  · refine ⟨g, cap, rfl, h1, h2, ?_, by simp [World.frozen?, h4]⟩
    rw [cell_of_row w g j C 9 (0, 0) h4]
    exact h5 j hj
theorem OwnS.set {w : World} {lo hi g cap : Nat} {n : Nat} {xs ys : List ByteArray} (h : OwnS w lo hi (.slice (some ⟨g, 0, none⟩) n cap) xs) {j : Nat} {y : ByteArray} (hj : j < xs.length)
    (hl : ys.length = xs.length) (hy : ys.getD j E0 = y) (ho : ∀ i, i < xs.length → i ≠ j → ys.getD i E0 = xs.getD i E0) : OwnS (w.setCell ⟨g, j, none⟩ (.string y)) lo hi (.slice (some ⟨g, 0, none⟩) n cap) ys := by
  obtain ⟨A, cap', e, h⟩ := h
  simp only [Value.slice.injEq] at e
  obtain ⟨rfl, rfl, rfl⟩ := e
  refine ⟨_, _, by rw [hl], .inr ?_⟩
  rcases h with rfl | ⟨g', C, h1, h2, h3, h4, h5⟩
  · simp at hj
  · obtain rfl : g = g' := by simpa using h3
    refine ⟨g, C.setIfInBounds j (.string y), h1, h2, rfl, by simp [World.setCell, Array.getElem?_modify, h4], fun i hi => ?_⟩
    rw [hl] at hi
    by_cases e : i = j
    · subst e
      have hC : i < C.size := by
        have := h5 i hi
        rcases Nat.lt_or_ge i C.size with h | h
        · exact h
        · rw [Array.getElem?_eq_none h] at this; cases this
      rw [Array.getElem?_setIfInBounds_self_of_lt hC, hy]
    · rw [Array.getElem?_setIfInBounds_ne (by omega), h5 i hi, ho i hi e]

/-- The decimal digits of a number; none of 0. -/
def dgL (k : Nat) : List UInt8 := if h : k = 0 then [] else dgL (k / 10) ++ [UInt8.ofNat (48 + k % 10)]
termination_by k
decreasing_by omega
theorem dgL_zero : dgL 0 = [] := by rw [dgL]; simp
theorem dgL_step (k : Nat) (h : k ≠ 0) (l : List UInt8) : dgL k ++ l = dgL (k / 10) ++ UInt8.ofNat (48 + k % 10) :: l := by
  rw [dgL, dif_neg h]; simp
theorem dgL_len : ∀ (j k : Nat), k < 10 ^ j → (dgL k).length ≤ j := by
  intro j
  induction j with
  | zero => intro k h; have : k = 0 := by simp at h; omega
            subst this; rw [dgL_zero]; simp
  | succ j ih =>
    intro k h
    by_cases h0 : k = 0
    · subst h0; rw [dgL_zero]; simp
    · rw [dgL, dif_neg h0]
      have := ih (k / 10) (by rw [Nat.pow_succ] at h; omega)
      simp only [List.length_append, List.length_cons, List.length_nil]; omega
/-- What markText answers. -/
def mtS (k : Nat) : ByteArray := ⟨(109 :: dgL k).toArray⟩
theorem str_dig (r : Nat) (l : List UInt8) : strOfNums [48 + (r : Int)] ++ ⟨l.toArray⟩ = ⟨(UInt8.ofNat (48 + r) :: l).toArray⟩ := by
  unfold strOfNums
  rw [ByteArray.mk_append_mk]
  have : (48 + (r : Int)).toNat = 48 + r := by omega
  simp [this]
theorem ret_s {a b : ByteArray} (h : a = b) : Ending.returned (.string a) = .returned (.string b) := by rw [h]

/-- n marks from k on. -/
def marksS (k : Nat) (n : Nat) : List ByteArray := (List.range n).map fun (i : Nat) => mtS (k + i)
theorem marksS_len (k : Nat) (n : Nat) : (marksS k n).length = n := by simp [marksS]
theorem marksS_at (k n j : Nat) (h : j < n) : (marksS k n).getD j E0 = mtS (k + j) := by simp [marksS, List.getD, h]
def mkS (k : Nat) (j : Nat) (xs : List ByteArray) : List ByteArray := (List.range xs.length).map fun (i : Nat) => if i < j then mtS (k + i) else xs.getD i E0
theorem mkS_len (k : Nat) (j : Nat) (xs : List ByteArray) : (mkS k j xs).length = xs.length := by simp [mkS]
theorem mkS_at (k j i : Nat) (xs : List ByteArray) (h : i < xs.length) : (mkS k j xs).getD i E0 = if i < j then mtS (k + i) else xs.getD i E0 := by simp [mkS, List.getD, h]
theorem mkS_zero (k : Nat) (xs : List ByteArray) : mkS k 0 xs = xs := by
  apply List.ext_getElem
  · rw [mkS_len]
  · intro i h1 h2
    simp [mkS, List.getD, h2]
theorem mkS_all (k : Nat) (xs : List ByteArray) : mkS k xs.length xs = marksS k xs.length := by
  unfold mkS marksS
  refine List.map_congr_left fun i hi => ?_
  rw [if_pos (by simpa using hi)]

end Go.Proofs.Ytkpnfonedfomaaa
