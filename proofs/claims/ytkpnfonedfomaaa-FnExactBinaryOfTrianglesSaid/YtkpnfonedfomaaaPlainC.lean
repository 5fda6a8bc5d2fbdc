/- Plain words on the parts of a path between its returns: how they come out of one walk along the letters. -/
import Derived.Test.YtkpnfonedfomaaaSpec2F
namespace Go.Proofs.Ytkpnfonedfomaaa
open Go.RowKit
set_option linter.unusedVariables false

theorem rest_extract (s : ByteArray) (b : Nat) : (s.extract b s.size).data.toList = rest s b := by
  unfold rest
  rw [ByteArray.data_extract, Array.toList_extract]
  unfold List.extract
  rw [List.take_of_length_le (by simp)]
theorem size_part (s : ByteArray) (b : Nat) (h : b ≤ s.size) : (s.extract b s.size).size = s.size - b := by rw [ByteArray.size_extract]; omega
theorem extract_front (s : ByteArray) (b e : Nat) (h : b + e ≤ s.size) : (s.extract b s.size).extract 0 e = s.extract b (b + e) := by
  apply ByteArray.ext
  rw [ByteArray.data_extract, ByteArray.data_extract, ByteArray.data_extract, Array.extract_extract]
  have : s.data.size = s.size := rfl
  congr 1; omega
theorem extract_back (s : ByteArray) (b e : Nat) (h : b + e ≤ s.size) : (s.extract b s.size).extract e (s.extract b s.size).size = s.extract (b + e) s.size := by
  apply ByteArray.ext
  rw [ByteArray.data_extract, ByteArray.data_extract, ByteArray.data_extract, Array.extract_extract]
  have : s.data.size = s.size := rfl
  rw [ByteArray.size_extract]
  congr 1; omega
theorem extract_whole (s : ByteArray) : s.extract 0 s.size = s := by
  apply ByteArray.ext
  rw [ByteArray.data_extract]
  have : s.data.size = s.size := rfl
  rw [← this, Array.extract_size]

/-- Where the walk along s stands: at place i, at height h, the current part begun at b, the parts acc behind it. -/
structure PrAt (s : ByteArray) (i h b : Nat) (acc : List ByteArray) : Prop where
  le : b ≤ i
  top : i ≤ s.size
  zero : h = 0 → b = i
  path : dyckFrom h (rest s i) = true
  begun : dyckFrom 0 (rest s b) = true
  cut : cutL 0 (rest s b) 0 = cutL h (rest s i) (i - b)
  len : acc.length ≤ b
  high : h ≤ i
  more : ∃ m, s.size - b < m ∧ acc ++ primesF m (s.extract b s.size) = primesP s
  count : acc.length + zeros (hsL h (rest s i)) + (if h = 0 then 0 else 1) = zeros (hsL 0 s.data.toList)
theorem PrAt.start {s : ByteArray} (hd : dyck s = true) : PrAt s 0 0 0 [] where
  le := Nat.le_refl _
  top := Nat.zero_le _
  zero := fun _ => rfl
  path := by rw [dyck_short (dyck_size hd)] at hd; exact hd
  begun := by rw [dyck_short (dyck_size hd)] at hd; exact hd
  cut := rfl
  len := Nat.le_refl _
  high := Nat.le_refl _
  more := ⟨s.size + 1, by omega, by rw [extract_whole]; rfl⟩
  count := by rw [rest_zero]; simp
theorem PrAt.up {s : ByteArray} {i h b : Nat} {acc : List ByteArray} (p : PrAt s i h b acc) (hi : i < s.size) (e : s[i].toNat = 117) : PrAt s (i + 1) (h + 1) b acc where
  le := by have := p.le; omega
  top := hi
  zero := by omega
  path := by
    have := p.path
    rwa [rest_cons s i hi, df_up _ _ _ e] at this
  begun := p.begun
  cut := by
    rw [p.cut, rest_cons s i hi, cutL_miss _ _ _ _ (by rw [if_pos e]; omega), if_pos e]
    have := p.le
    congr 1; omega
  len := p.len
  high := by have := p.high; omega
  more := p.more
  count := by
    have := p.count
    rw [rest_cons s i hi, hsL_up _ _ _ e, zeros] at this
    rw [← this, if_neg (by omega)]
    have e1 : ((h + 1 : Nat) : Int) = (h : Int) + 1 := by omega
    rw [e1]
    by_cases h0 : h = 0
    · rw [if_pos (by omega), if_pos h0]; omega
    · rw [if_neg (by omega), if_neg h0]; omega
theorem PrAt.below {s : ByteArray} {i h b : Nat} {acc : List ByteArray} (p : PrAt s i h b acc) (hi : i < s.size) (e : s[i].toNat = 100) : 1 ≤ h := by
  have := p.path
  rw [rest_cons s i hi] at this
  rcases df_letter this with ⟨e', -⟩ | ⟨-, h1, -⟩
  · omega
  · exact h1
theorem PrAt.down {s : ByteArray} {i h b : Nat} {acc : List ByteArray} (p : PrAt s i (h + 2) b acc) (hi : i < s.size) (e : s[i].toNat = 100) : PrAt s (i + 1) (h + 1) b acc where
  le := by have := p.le; omega
  top := hi
  zero := by omega
  path := by
    have := p.path
    rwa [rest_cons s i hi, df_down _ _ _ e] at this
  begun := p.begun
  cut := by
    rw [p.cut, rest_cons s i hi, cutL_miss _ _ _ _ (by rw [if_neg (by omega)]; omega), if_neg (by omega)]
    have := p.le
    rw [show ((h + 2 : Nat) : Int) - 1 = ((h + 1 : Nat) : Int) by omega]
    congr 1; omega
  len := p.len
  high := by have := p.high; omega
  more := p.more
  count := by
    have := p.count
    rw [rest_cons s i hi, hsL_down _ _ _ (by omega), zeros, if_neg (by omega), if_neg (by omega)] at this
    rw [← this, if_neg (by omega)]
    have e1 : ((h + 2 : Nat) : Int) - 1 = ((h + 1 : Nat) : Int) := by omega
    rw [e1]; omega
theorem PrAt.hit {s : ByteArray} {i b : Nat} {acc : List ByteArray} (hs : s.size ≤ 16) (p : PrAt s i 1 b acc) (hi : i < s.size) (e : s[i].toNat = 100) : PrAt s (i + 1) 0 (i + 1) (acc ++ [s.extract b (i + 1)]) where
  le := Nat.le_refl _
  top := hi
  zero := fun _ => rfl
  path := by
    have := p.path
    rwa [rest_cons s i hi, df_down _ _ _ e] at this
  begun := by
    have := p.path
    rwa [rest_cons s i hi, df_down _ _ _ e] at this
  cut := by simp
  len := by
    have := p.len; have := p.le
    rw [List.length_append, List.length_singleton]; omega
  high := by omega
  more := by
    obtain ⟨m, hm, he⟩ := p.more
    have hle := p.le
    obtain ⟨m, rfl⟩ : ∃ k, m = k + 1 := ⟨m - 1, by omega⟩
    have hdk : dyck (s.extract b s.size) = true := by
      rw [dyck_short (by rw [size_part _ _ (by omega)]; omega), rest_extract]; exact p.begun
    have hcut : cutP (s.extract b s.size) = ((i - b : Nat) : Int) := by
      unfold cutP
      rw [rest_extract, p.cut, rest_cons s i hi]
      exact cutL_hit _ _ _ _ (by rw [if_neg (by omega)]; rfl)
    refine ⟨m, by omega, ?_⟩
    rw [← he, primesF_yes m _ ⟨hdk, by rw [size_part _ _ (by omega)]; omega⟩, hcut]
    rw [show ((i - b : Nat) : Int).toNat + 1 = i + 1 - b by omega]
    rw [extract_front _ _ _ (by omega), extract_back _ _ _ (by omega), show b + (i + 1 - b) = i + 1 by omega]
    simp
  count := by
    have := p.count
    rw [rest_cons s i hi, hsL_down _ _ _ (by omega), zeros, if_neg (by omega), if_neg (by omega)] at this
    rw [← this, List.length_append, List.length_singleton]
    have e1 : ((1 : Nat) : Int) - 1 = ((0 : Nat) : Int) := rfl
    rw [e1]; simp; omega
theorem PrAt.stop {s : ByteArray} {h b : Nat} {acc : List ByteArray} (p : PrAt s s.size h b acc) : acc = primesP s ∧ (acc.length : Int) + 1 = zeros (hsL 0 s.data.toList) := by
  have h1 := p.path
  rw [rest_end s _ (Nat.le_refl _), df_nil] at h1
  have h0 : h = 0 := by simpa using h1
  have hb := p.zero h0
  obtain ⟨m, hm, he⟩ := p.more
  rw [primesF_no _ _ (by rw [size_part _ _ (by omega)]; omega), List.append_nil] at he
  refine ⟨he, ?_⟩
  have := p.count
  rw [rest_end s _ (Nat.le_refl _), hsL_nil, zeros, zeros, h0] at this
  simp at this
  omega
theorem primesP_no {s : ByteArray} (h : dyck s = false) : primesP s = [] := primesF_no _ _ (by simp [h])

end Go.Proofs.Ytkpnfonedfomaaa
