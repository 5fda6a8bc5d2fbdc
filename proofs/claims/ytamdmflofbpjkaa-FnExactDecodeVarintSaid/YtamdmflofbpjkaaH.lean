/- Plain numbers: what the first k groups of seven bits of a string spell, and when they are the shortest form. -/
import Derived.Test.YtamdmflofbpjkaaG
namespace Go.Proofs.Ytamdmflofbpjkaa
open Go.RowKit
open Go.PlainAid (bt bt_nonneg bt_le get_bt)
set_option linter.unusedVariables false

/-- The low seven bits of byte k. -/
def low7 (s : ByteArray) (k : Nat) : Nat := (bt s k).toNat % 128
def val (s : ByteArray) : Nat → Nat
  | 0 => 0
  | k + 1 => val s k + low7 s k * 128 ^ k
theorem low7_lt (s : ByteArray) (k : Nat) : low7 s k < 128 := Nat.mod_lt _ (by omega)
theorem val_lt (s : ByteArray) (k : Nat) : val s k < 128 ^ k := by
  induction k with
  | zero => simp [val]
  | succ k ih =>
    have h := low7_lt s k
    rw [val, Nat.pow_succ]
    have : low7 s k * 128 ^ k ≤ 127 * 128 ^ k := Nat.mul_le_mul_right _ (by omega)
    omega
theorem val_le (s : ByteArray) (k : Nat) (h : k ≤ 7) : val s k ≤ 562949953421311 := by
  have h1 := val_lt s k
  have h2 : (128 : Nat) ^ k ≤ 128 ^ 7 := Nat.pow_le_pow_right (by omega) h
  have h3 : (128 : Nat) ^ 7 = 562949953421312 := by decide
  omega
/-- The first k bytes as numbers. -/
def front (s : ByteArray) (k : Nat) : List Int := (List.range k).map fun i => bt s i
theorem front_get {s : ByteArray} {k i : Nat} (h : i < k) : (front s k)[i]? = some (bt s i) := by simp [front, h]
theorem front_len (s : ByteArray) (k : Nat) : (front s k).length = k := by simp [front]

theorem vr_shape : ∀ (m n : Nat), n < 2 ^ m → ∀ (i : Nat) (y : Int), (vr n)[i]? = some y → (i + 1 = (vr n).length ∧ y < 128) ∨ (i + 1 < (vr n).length ∧ 128 ≤ y) := by
  intro m
  induction m with
  | zero =>
    intro n h i y hy
    rw [vr_low (by simp at h; omega)] at hy ⊢
    rcases i with _ | i
    · left; simp at hy; simp; omega
    · simp at hy
  | succ m ih =>
    intro n h i y hy
    by_cases hl : n < 128
    · rw [vr_low hl] at hy ⊢
      rcases i with _ | i
      · left; simp at hy; simp; omega
      · simp at hy
    · rw [vr_high (by omega)] at hy ⊢
      rcases i with _ | i
      · right
        have := vr_pos (n / 128)
        simp at hy
        simp only [List.length_cons]
        omega
      · have := ih (n / 128) (by rw [Nat.pow_succ] at h; omega) i y (by simpa using hy)
        simp only [List.length_cons]
        omega
/-- The first k bytes are the shortest form of what they spell. -/
def G (s : ByteArray) (k : Nat) : Prop := vr (val s k) = front s k
theorem G_last {s : ByteArray} {k : Nat} (h : G s (k + 1)) : bt s k < 128 := by
  have h1 := vr_shape _ (val s (k + 1)) Nat.lt_two_pow_self k (bt s k) (by rw [h, front_get (by omega)])
  rw [h, front_len] at h1
  omega
theorem G_inner {s : ByteArray} {k i : Nat} (h : G s k) (hi : i + 1 < k) : 128 ≤ bt s i := by
  have h1 := vr_shape _ (val s k) Nat.lt_two_pow_self i (bt s i) (by rw [h, front_get (by omega)])
  rw [h, front_len] at h1
  omega
/-- What DecodeVarint answers. -/
def DV (s : ByteArray) (a b : Int) : Prop :=
  (∃ k, 1 ≤ k ∧ k ≤ 7 ∧ k ≤ s.size ∧ G s k ∧ a = (val s k : Nat) ∧ b = (k : Nat)) ∨ ((∀ k, 1 ≤ k → k ≤ 7 → k ≤ s.size → ¬ G s k) ∧ a = 0 ∧ b = 0)
theorem G_one {s : ByteArray} {k l : Nat} (hk : 1 ≤ k) (hl : 1 ≤ l) (h : G s k) (h' : G s l) : k = l := by
  rcases Nat.lt_trichotomy k l with hh | hh | hh
  · obtain ⟨k, rfl⟩ : ∃ j, k = j + 1 := ⟨k - 1, by omega⟩
    have h1 := G_last h
    have h2 := G_inner (i := k) h' (by omega)
    omega
  · exact hh
  · obtain ⟨l, rfl⟩ : ∃ j, l = j + 1 := ⟨l - 1, by omega⟩
    have h1 := G_last h'
    have h2 := G_inner (i := l) h (by omega)
    omega
theorem DV_one {s : ByteArray} {a b c d : Int} (h : DV s a b) (h' : DV s c d) : a = c ∧ b = d := by
  rcases h with ⟨k, k1, k2, k3, k4, rfl, rfl⟩ | ⟨k1, rfl, rfl⟩ <;> rcases h' with ⟨l, l1, l2, l3, l4, rfl, rfl⟩ | ⟨l1, rfl, rfl⟩
  · obtain rfl := G_one k1 l1 k4 l4
    exact ⟨rfl, rfl⟩
  · exact absurd k4 (l1 k k1 k2 k3)
  · exact absurd l4 (k1 l l1 l2 l3)
  · exact ⟨rfl, rfl⟩
theorem DV_none {s : ByteArray} {i : Nat} (hi : ∀ j, j < i → 128 ≤ bt s j) (he : ¬ (i < s.size ∧ i < 7)) : DV s 0 0 := by
  refine .inr ⟨fun k h1 h2 h3 hg => ?_, rfl, rfl⟩
  obtain ⟨k, rfl⟩ : ∃ j, k = j + 1 := ⟨k - 1, by omega⟩
  have := G_last hg
  have := hi k (by omega)
  omega
theorem DV_not {s : ByteArray} {i : Nat} (hi : ∀ j, j < i → 128 ≤ bt s j) (hl : bt s i < 128) (he : ¬ G s (i + 1)) : DV s 0 0 := by
  refine .inr ⟨fun k h1 h2 h3 hg => ?_, rfl, rfl⟩
  obtain ⟨k, rfl⟩ : ∃ j, k = j + 1 := ⟨k - 1, by omega⟩
  rcases Nat.lt_trichotomy k i with hh | hh | hh
  · have := G_last hg
    have := hi k hh
    omega
  · subst hh; exact he hg
  · have := G_inner (i := i) hg (by omega)
    omega
theorem ext_front (s : ByteArray) (k : Nat) (h : k ≤ s.size) : s.extract 0 k = strOfNums (front s k) := by
  apply ByteArray.ext
  apply Array.ext'
  rw [strOfNums_data]
  apply List.ext_getElem?
  intro i
  rw [List.getElem?_map]
  by_cases hi : i < k
  · rw [front_get hi]
    have h1 := get_bt s i (by omega)
    simp only [ByteArray.data_extract, Array.toList_extract, Option.map_some, ← h1]
    rw [List.extract_eq_take_drop]
    simp [hi]
    rw [Array.getElem?_eq_getElem (show i < s.data.size from by show i < s.size; omega)]
    rfl
  · simp only [ByteArray.data_extract, Array.toList_extract]
    rw [List.extract_eq_take_drop]
    rw [List.getElem?_eq_none (by simp; omega), List.getElem?_eq_none (by rw [front_len]; omega)]
    rfl
theorem num_inj {a b : List Int} (ha : ∀ y ∈ a, 0 ≤ y ∧ y ≤ 255) (hb : ∀ y ∈ b, 0 ≤ y ∧ y ≤ 255) (h : strOfNums a = strOfNums b) : a = b := by
  have h1 : (strOfNums a).data.toList = (strOfNums b).data.toList := by rw [h]
  rw [strOfNums_data, strOfNums_data] at h1
  have h2 := congrArg (List.map fun c : UInt8 => (c.toNat : Int)) h1
  simp only [List.map_map] at h2
  have key : ∀ l : List Int, (∀ y ∈ l, 0 ≤ y ∧ y ≤ 255) → l.map ((fun c : UInt8 => (c.toNat : Int)) ∘ fun n : Int => UInt8.ofNat n.toNat) = l := by
    intro l hl
    conv => rhs; rw [← List.map_id l]
    refine List.map_congr_left fun y hy => ?_
    have := hl y hy
    simp only [Function.comp, UInt8.toNat_ofNat', id]
    omega
  rwa [key a ha, key b hb] at h2
theorem vr_byte : ∀ (m n : Nat), n < 2 ^ m → ∀ y ∈ vr n, 0 ≤ y ∧ y ≤ 255 := by
  intro m
  induction m with
  | zero => intro n h y hy; rw [vr_low (by simp at h; omega)] at hy; simp at hy; simp at h; omega
  | succ m ih =>
    intro n h y hy
    by_cases hl : n < 128
    · rw [vr_low hl] at hy; simp at hy; omega
    · rw [vr_high (by omega)] at hy
      rcases List.mem_cons.1 hy with rfl | hy
      · omega
      · exact ih (n / 128) (by rw [Nat.pow_succ] at h; omega) y hy
theorem front_byte (s : ByteArray) (k : Nat) : ∀ y ∈ front s k, 0 ≤ y ∧ y ≤ 255 := by
  intro y hy
  simp only [front, List.mem_map] at hy
  obtain ⟨i, _, rfl⟩ := hy
  exact ⟨bt_nonneg _ _, bt_le _ _⟩
theorem G_iff (s : ByteArray) (k : Nat) (h : k ≤ s.size) : strOfNums (vr (val s k)) = s.extract 0 k ↔ G s k := by
  rw [ext_front s k h]
  exact ⟨fun e => num_inj (vr_byte _ _ Nat.lt_two_pow_self) (front_byte s k) e, fun e => by rw [show vr (val s k) = front s k from e]⟩

/-- The model adds the groups from the last one down. -/
theorem val_down {s : ByteArray} {k q n : Nat} (h : n * 128 ^ (q + 1) + val s (q + 1) = val s k) : (n * 128 + low7 s q) * 128 ^ q + val s q = val s k := by
  rw [← h, val, Nat.pow_succ, Nat.add_mul, Nat.mul_assoc, Nat.mul_comm 128 (128 ^ q)]
  omega
theorem val_top {s : ByteArray} {k q n : Nat} (h : n * 128 ^ q + val s q = val s k) : n ≤ val s k := by
  have : n * 1 ≤ n * 128 ^ q := Nat.mul_le_mul_left n (Nat.pow_pos (by omega))
  omega

end Go.Proofs.Ytamdmflofbpjkaa
