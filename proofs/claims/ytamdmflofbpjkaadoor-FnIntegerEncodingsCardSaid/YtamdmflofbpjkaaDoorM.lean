/- Plain words: what is encoded is decoded again, whatever follows (varints, fixed widths, hexadecimal digits, decimal numbers). -/
import Derived.Test.YtamdmflofbpjkaaDoorN
import Derived.Test.YtamdmflofbpjkaaDoorR
namespace Go.Proofs.YtamdmflofbpjkaaDoor.Num
open Go.ChangeShapes Go.WideShapes Go.ChangeAt Go.RowKit
open Go.PlainAid (bt bt_nonneg bt_le get_bt)
set_option linter.unusedVariables false

/-- Byte i of a string of numbers with something behind it. -/
theorem bt_front {l : List Int} {T : ByteArray} {i : Nat} (hi : i < l.length) (hl : ∀ y ∈ l, 0 ≤ y ∧ y ≤ 255) : bt (strOfNums l ++ T) i = l[i] := by
  have h1 : (strOfNums l ++ T).data.toList = (l.map fun n => UInt8.ofNat n.toNat) ++ T.data.toList := by simp [strOfNums]
  have hsz : i < (strOfNums l ++ T).size := by
    have : (strOfNums l ++ T).size = (strOfNums l ++ T).data.toList.length := by simp
    rw [this, h1]; simp; omega
  rw [← get_bt _ i hsz]
  have h2 : (strOfNums l ++ T)[i] = (strOfNums l ++ T).data.toList[i]'(by simpa using hsz) := by rw [Array.getElem_toList]; rfl
  have h3 : (strOfNums l ++ T).data.toList[i]'(by simpa using hsz) = UInt8.ofNat (l[i]).toNat := by
    simp only [h1]
    rw [List.getElem_append_left (by simpa using hi)]
    simp
  rw [h2, h3, UInt8.toNat_ofNat']
  have := hl _ (List.getElem_mem hi)
  omega
theorem front_app (l : List Int) (T : ByteArray) (hl : ∀ y ∈ l, 0 ≤ y ∧ y ≤ 255) : front (strOfNums l ++ T) l.length = l := by
  apply List.ext_getElem
  · rw [front_len]
  · intro i h1 h2
    rw [← bt_front (T := T) h2 hl]
    simp [front]
def valL : List Int → Nat
  | [] => 0
  | y :: l => y.toNat % 128 + 128 * valL l
theorem valL_snoc (l : List Int) (y : Int) : valL (l ++ [y]) = valL l + y.toNat % 128 * 128 ^ l.length := by
  induction l with
  | nil => simp [valL]
  | cons x l ih =>
    simp only [List.cons_append, valL, ih, List.length_cons, Nat.pow_succ]
    rw [Nat.mul_add, ← Nat.mul_assoc, Nat.mul_comm 128 (y.toNat % 128), Nat.mul_assoc, Nat.mul_comm 128 (128 ^ l.length)]
    omega
theorem val_front (s : ByteArray) (k : Nat) : val s k = valL (front s k) := by
  induction k with
  | zero => rfl
  | succ k ih =>
    have e : front s (k + 1) = front s k ++ [bt s k] := by simp [front, List.range_succ]
    rw [val, ih, e, valL_snoc, front_len, low7]
theorem valL_vr : ∀ (m n : Nat), n < 2 ^ m → valL (vr n) = n := by
  intro m
  induction m with
  | zero => intro n h; rw [vr_low (by simp at h; omega)]; simp at h; simp [valL, h]
  | succ m ih =>
    intro n h
    by_cases hl : n < 128
    · rw [vr_low hl]; simp [valL]; omega
    · rw [vr_high (by omega), valL, ih (n / 128) (by rw [Nat.pow_succ] at h; omega)]
      omega
theorem DV_enc (m : Nat) (hm : m ≤ 562949953421311) (T : ByteArray) : DV (strOfNums (vr m) ++ T) m (vr m).length := by
  have hb := vr_byte _ m Nat.lt_two_pow_self
  have hf := front_app (vr m) T hb
  have hv : val (strOfNums (vr m) ++ T) (vr m).length = m := by rw [val_front, hf]; exact valL_vr _ m Nat.lt_two_pow_self
  refine .inl ⟨(vr m).length, vr_pos m, vr_len7 m hm, ?_, ?_, by rw [hv], rfl⟩
  · have : (strOfNums (vr m) ++ T).size = (strOfNums (vr m)).size + T.size := by simp
    rw [this, strOfNums_size]; omega
  · unfold G
    rw [hv, hf]

theorem dec_be : ∀ (k n : Nat), dec ((be k n).map fun y => UInt8.ofNat y.toNat) = ((n % 256 ^ k : Nat) : Int) := by
  have key : ∀ (k n : Nat) (a : Int), ((be k n).map fun y => UInt8.ofNat y.toNat).foldl (fun n c => n * 256 + (c.toNat : Int)) a = a * ((256 ^ k : Nat) : Int) + ((n % 256 ^ k : Nat) : Int) := by
    intro k
    induction k with
    | zero => intro n a; simp [be, Nat.mod_one]
    | succ k ih =>
      intro n a
      simp only [be, List.map_cons, List.foldl_cons, ih]
      have e : (UInt8.ofNat ((n / 256 ^ k % 256 : Nat) : Int).toNat).toNat = n / 256 ^ k % 256 := by
        rw [UInt8.toNat_ofNat']; omega
      rw [e]
      have h1 : n % 256 ^ (k + 1) = n / 256 ^ k % 256 * 256 ^ k + n % 256 ^ k := by
        rw [Nat.pow_succ, Nat.mod_mul]
        rw [Nat.mul_comm (256 ^ k)]; omega
      rw [h1, Nat.pow_succ]
      rw [Int.natCast_mul, Int.natCast_add, Int.natCast_mul, Int.add_mul, Int.mul_assoc a, show (256 : Int) * ((256 ^ k : Nat) : Int) = ((256 ^ k : Nat) : Int) * ((256 : Nat) : Int) from Int.mul_comm _ _, Int.add_assoc]
  intro k n
  have := key k n 0
  unfold dec
  rw [this]; simp
theorem take_front (l : List Int) (T : ByteArray) : (strOfNums l ++ T).data.toList.take l.length = l.map fun n => UInt8.ofNat n.toNat := by
  have h1 : (strOfNums l ++ T).data.toList = (l.map fun n => UInt8.ofNat n.toNat) ++ T.data.toList := by simp [strOfNums]
  rw [h1]
  have : l.length = (l.map fun n => UInt8.ofNat n.toNat).length := by simp
  rw [this, List.take_left]
theorem dec_enc (k n : Nat) (h : n / 256 ^ k = 0) (T : ByteArray) : dec ((strOfNums (be k n) ++ T).data.toList.take k) = n := by
  have e := take_front (be k n) T
  rw [be_len] at e
  rw [e, dec_be]
  have : n < 256 ^ k := by
    rcases Nat.lt_or_ge n (256 ^ k) with h' | h'
    · exact h'
    · have := Nat.div_pos h' (Nat.pow_pos (by omega)); omega
  rw [Nat.mod_eq_of_lt this]

theorem hexL_byte (l : List UInt8) : ∀ y ∈ hexL l, 0 ≤ y ∧ y ≤ 255 := by
  intro y hy
  simp only [hexL, List.mem_flatMap] at hy
  obtain ⟨c, _, hy⟩ := hy
  have hc := c.toNat_lt
  simp only [List.mem_cons, List.not_mem_nil, or_false] at hy
  rcases hy with rfl | rfl <;> unfold hd <;> split <;> omega
theorem hexL_at : ∀ (l : List UInt8) (j : Nat) (hj : j < l.length), (hexL l)[2 * j]? = some (hd (l[j].toNat / 16)) ∧ (hexL l)[2 * j + 1]? = some (hd (l[j].toNat % 16)) := by
  intro l
  induction l with
  | nil => intro j hj; simp at hj
  | cons c l ih =>
    intro j hj
    have e : hexL (c :: l) = hd (c.toNat / 16) :: hd (c.toNat % 16) :: hexL l := by simp [hexL]
    rw [e]
    rcases j with _ | j
    · simp
    · have h := ih j (by simpa using hj)
      rw [show 2 * (j + 1) = 2 * j + 1 + 1 by omega]
      simp only [List.getElem?_cons_succ, List.getElem_cons_succ]
      exact h
theorem dh_enc (T : ByteArray) : dhB (strOfNums (hexL T.data.toList)) = true ∧ dhS (strOfNums (hexL T.data.toList)) = T := by
  have hsz : (strOfNums (hexL T.data.toList)).size = 2 * T.size := by rw [strOfNums_size, hexL_len]; simp
  have hat : ∀ i, i < (hexL T.data.toList).length → bt (strOfNums (hexL T.data.toList)) i = (hexL T.data.toList)[i]! := by
    intro i hi
    have h := bt_front (T := ⟨#[]⟩) hi (hexL_byte _)
    have e : strOfNums (hexL T.data.toList) ++ ⟨#[]⟩ = strOfNums (hexL T.data.toList) := by
      apply ByteArray.ext; simp
    rw [e] at h
    rw [h]; simp [hi]
  have hlen : (hexL T.data.toList).length = 2 * T.size := by rw [hexL_len]; simp
  have pair : ∀ j (hj : j < T.size), hv (bt (strOfNums (hexL T.data.toList)) (2 * j)) = ((T[j].toNat / 16 : Nat) : Int) ∧ hv (bt (strOfNums (hexL T.data.toList)) (2 * j + 1)) = ((T[j].toNat % 16 : Nat) : Int) := by
    intro j hj
    have hjl : j < T.data.toList.length := by simpa using hj
    obtain ⟨h1, h2⟩ := hexL_at T.data.toList j hjl
    have e : T.data.toList[j] = T[j] := by rw [Array.getElem_toList]; rfl
    have hc := (T[j]).toNat_lt
    rw [e] at h1 h2
    rw [hat (2 * j) (by omega), hat (2 * j + 1) (by omega)]
    rw [List.getElem!_eq_getElem?_getD, List.getElem!_eq_getElem?_getD, h1, h2]
    simp only [Option.getD_some]
    exact ⟨hv_hd _ (by omega), hv_hd _ (by omega)⟩
  have hok := dh_ok (s := strOfNums (hexL T.data.toList)) (by omega) (fun i hi => by
    rcases Nat.mod_two_eq_zero_or_one i with h | h
    · have := (pair (i / 2) (by omega)).1
      rw [show 2 * (i / 2) = i by omega] at this
      omega
    · have := (pair (i / 2) (by omega)).2
      rw [show 2 * (i / 2) + 1 = i by omega] at this
      omega)
  refine ⟨hok.1, hok.2.trans ?_⟩
  rw [hsz, Nat.mul_div_cancel_left _ (by omega)]
  apply ByteArray.ext
  apply Array.ext'
  rw [strOfNums_data]
  apply List.ext_getElem
  · simp [bytesOf]
  · intro j h1 h2
    have hj : j < T.size := by simpa using h2
    obtain ⟨p1, p2⟩ := pair j hj
    simp only [bytesOf, List.getElem_map, List.getElem_range, p1, p2]
    have hc := (T[j]).toNat_lt
    have e : T.data.toList[j] = T[j] := by rw [Array.getElem_toList]; rfl
    rw [e]
    apply UInt8.toNat_inj.1
    rw [UInt8.toNat_ofNat']
    omega

theorem PI_enc (n : Int) : PI ⟨(Lib.itoa n).toArray⟩ (if -1000000000 < n ∧ n < 1000000000 then n else 0) (decide (-1000000000 < n ∧ n < 1000000000)) := by
  by_cases h : -1000000000 < n ∧ n < 1000000000
  · rw [if_pos h]
    exact .inl ⟨n, ⟨by omega, rfl⟩, rfl, by simpa using h⟩
  · rw [if_neg h]
    refine .inr ⟨fun m hm => h ?_, rfl, by simpa using h⟩
    have h1 : parse (Lib.itoa n) = m := hm.parse
    rw [(itoa_parts n).1] at h1
    have := hm.1
    omega

end Go.Proofs.YtamdmflofbpjkaaDoor.Num
