/- Plain words on decimal numerals: reading a numeral back gives its number; what ParseInt answers is one pair alone. -/
import Derived.Test.YtamdmflofbpjkaaDoorA
import Derived.PlainAid
namespace Go.Proofs.YtamdmflofbpjkaaDoor
open Go.PlainAid (bt bt_nonneg bt_le get_bt)
set_option linter.unusedVariables false

def isDig (c : UInt8) : Prop := 48 ≤ c.toNat ∧ c.toNat ≤ 57
instance (c : UInt8) : Decidable (isDig c) := inferInstanceAs (Decidable (_ ∧ _))
/-- One letter read: the number so far and how many digits there were. -/
def step (p : Nat × Nat) (c : UInt8) : Nat × Nat := if isDig c then (p.1 * 10 + (c.toNat - 48), p.2 + 1) else p
def pv (l : List UInt8) : Nat × Nat := l.foldl step (0, 0)
theorem pv_snoc (l : List UInt8) (c : UInt8) : pv (l ++ [c]) = step (pv l) c := by simp [pv]
theorem pv_lt (l : List UInt8) : (pv l).1 < 10 ^ (pv l).2 := by
  have key : ∀ (l : List UInt8) (p : Nat × Nat), p.1 < 10 ^ p.2 → (l.foldl step p).1 < 10 ^ (l.foldl step p).2 := by
    intro l
    induction l with
    | nil => intro p h; exact h
    | cons c l ih =>
      intro p h
      rw [List.foldl_cons]
      refine ih _ ?_
      unfold step
      split
      · rename_i hd
        obtain ⟨h1, h2⟩ := hd
        simp only [Nat.pow_succ]
        omega
      · exact h
  exact key l (0, 0) (by simp)
theorem pv_cnt (l : List UInt8) : (pv l).2 ≤ l.length := by
  have key : ∀ (l : List UInt8) (p : Nat × Nat), (l.foldl step p).2 ≤ p.2 + l.length := by
    intro l
    induction l with
    | nil => intro p; simp
    | cons c l ih =>
      intro p
      rw [List.foldl_cons]
      have h := ih (step p c)
      have : (step p c).2 ≤ p.2 + 1 := by unfold step; split <;> simp
      simp only [List.length_cons]
      omega
  have := key l (0, 0)
  simpa [pv] using this
theorem pv_minus (l : List UInt8) : pv (45 :: l) = pv l := by
  have : step (0, 0) 45 = (0, 0) := by decide
  simp [pv, this]
theorem dig_at (r : Nat) (h : r < 10) : isDig (UInt8.ofNat (48 + r)) ∧ (UInt8.ofNat (48 + r)).toNat = 48 + r := by
  have e : (UInt8.ofNat (48 + r)).toNat = 48 + r := by rw [UInt8.toNat_ofNat']; omega
  exact ⟨⟨by omega, by omega⟩, e⟩
theorem pv_dec (u : Nat) : pv (Lib.decDigits u) = (u, (Lib.decDigits u).length) ∧ (∀ c ∈ Lib.decDigits u, isDig c) ∧ Lib.decDigits u ≠ [] := by
  induction u using Nat.strongRecOn with
  | _ u ih =>
    by_cases h : u < 10
    · obtain ⟨h1, h2⟩ := dig_at u h
      rw [dec_small h]
      generalize UInt8.ofNat (48 + u) = c at h1 h2 ⊢
      refine ⟨?_, by simpa using h1, by simp⟩
      simp [pv, step, h1, h2]
    · obtain ⟨i1, i2, i3⟩ := ih (u / 10) (by omega)
      obtain ⟨h1, h2⟩ := dig_at (u % 10) (by omega)
      rw [dec_big (by omega)]
      generalize UInt8.ofNat (48 + u % 10) = c at h1 h2 ⊢
      refine ⟨?_, ?_, by simp⟩
      · rw [pv_snoc, i1, step, if_pos h1, h2]
        simp only [List.length_append, List.length_cons, List.length_nil, Prod.mk.injEq]
        refine ⟨?_, trivial⟩
        omega
      · intro c hc
        rcases List.mem_append.1 hc with hc | hc
        · exact i2 c hc
        · obtain rfl : c = _ := by simpa using hc
          exact h1
/-- The text behind a '-'. -/
def tail (l : List UInt8) : List UInt8 := if l.head? = some 45 then l.drop 1 else l
/-- What the letters spell. -/
def parse (l : List UInt8) : Int := if l.head? = some 45 then -((pv l).1 : Int) else (pv l).1
theorem itoa_parts (n : Int) : parse (Lib.itoa n) = n ∧ tail (Lib.itoa n) = Lib.decDigits n.natAbs ∧ (pv (Lib.itoa n)).2 = (Lib.decDigits n.natAbs).length := by
  obtain ⟨h1, h2, h3⟩ := pv_dec n.natAbs
  by_cases hn : n < 0
  · have e : Lib.itoa n = 45 :: Lib.decDigits n.natAbs := by unfold Lib.itoa; rw [if_pos hn]
    rw [e]
    refine ⟨?_, by simp [tail], by rw [pv_minus, h1]⟩
    rw [parse, if_pos (by simp), pv_minus, h1]
    simp only
    omega
  · have e : Lib.itoa n = Lib.decDigits n.natAbs := by unfold Lib.itoa; rw [if_neg hn]; congr 1; omega
    have hh : (Lib.decDigits n.natAbs).head? ≠ some 45 := by
      intro hc
      have := h2 45 (List.mem_of_mem_head? hc)
      exact absurd this (by decide)
    rw [e]
    refine ⟨?_, by rw [tail, if_neg hh], by rw [h1]⟩
    rw [parse, if_neg hh, h1]
    simp only
    omega
/-- s is the numeral of n, of at most nine digits. -/
def NumOf (s : ByteArray) (n : Int) : Prop := n.natAbs < 1000000000 ∧ Lib.itoa n = s.data.toList
theorem NumOf.digits {s : ByteArray} {n : Int} (h : NumOf s n) : (Lib.decDigits n.natAbs).length ≤ 9 := dec_len_k 8 _ (by
  have e : (10 : Nat) ^ (8 + 1) = 1000000000 := by decide
  have := h.1
  omega)
theorem NumOf.parse {s : ByteArray} {n : Int} (h : NumOf s n) : parse s.data.toList = n := by rw [← h.2]; exact (itoa_parts n).1
theorem NumOf.tail {s : ByteArray} {n : Int} (h : NumOf s n) : tail s.data.toList = Lib.decDigits n.natAbs := by rw [← h.2]; exact (itoa_parts n).2.1
theorem NumOf.size {s : ByteArray} {n : Int} (h : NumOf s n) : s.size ≤ 10 ∧ (pv s.data.toList).2 ≤ 9 := by
  have h1 := h.digits
  have h2 : (Lib.itoa n).length ≤ (Lib.decDigits n.natAbs).length + 1 := by
    unfold Lib.itoa
    split
    · simp
    · have : n.toNat = n.natAbs := by omega
      rw [this]; omega
  have h3 : s.size = (Lib.itoa n).length := by rw [h.2]; simp
  refine ⟨by omega, ?_⟩
  rw [← h.2, (itoa_parts n).2.2]
  exact h1
/-- What ParseInt answers. -/
def PI (s : ByteArray) (a : Int) (b : Bool) : Prop := (∃ n, NumOf s n ∧ a = n ∧ b = true) ∨ ((∀ n, ¬ NumOf s n) ∧ a = 0 ∧ b = false)
theorem PI_one {s : ByteArray} {a c : Int} {b d : Bool} (h : PI s a b) (h' : PI s c d) : a = c ∧ b = d := by
  rcases h with ⟨n, hn, rfl, rfl⟩ | ⟨hn, rfl, rfl⟩ <;> rcases h' with ⟨m, hm, rfl, rfl⟩ | ⟨hm, rfl, rfl⟩
  · exact ⟨hn.parse.symm.trans hm.parse, rfl⟩
  · exact absurd hn (hm _)
  · exact absurd hm (hn _)
  · exact ⟨rfl, rfl⟩
theorem itoa_str {n : Int} {s : ByteArray} : (⟨(Lib.itoa n).toArray⟩ : ByteArray) = s ↔ Lib.itoa n = s.data.toList :=
  ⟨fun h => by rw [← h], fun h => by rw [h]⟩
/-- The text is the numeral of what it spells. -/
theorem PI_yes {s : ByteArray} {n : Int} (hp : parse s.data.toList = n) (hk : (pv s.data.toList).2 ≤ 9) (he : (⟨(Lib.itoa n).toArray⟩ : ByteArray) = s) : PI s n true := by
  refine .inl ⟨n, ⟨?_, itoa_str.1 he⟩, rfl, rfl⟩
  have h1 := pv_lt s.data.toList
  have h2 : (10 : Nat) ^ (pv s.data.toList).2 ≤ 10 ^ 9 := Nat.pow_le_pow_right (by omega) hk
  have h3 : (10 : Nat) ^ 9 = 1000000000 := by decide
  rw [← hp]
  unfold parse
  split <;> omega
theorem PI_no {s : ByteArray} {n : Int} (hp : parse s.data.toList = n) (he : ¬ (⟨(Lib.itoa n).toArray⟩ : ByteArray) = s) : PI s 0 false := by
  refine .inr ⟨fun m hm => he ?_, rfl, rfl⟩
  have := hm.parse
  rw [hp] at this
  subst this
  exact itoa_str.2 hm.2
theorem PI_long {s : ByteArray} (h : ¬ (s.size ≤ 10 ∧ (pv s.data.toList).2 ≤ 9)) : PI s 0 false := .inr ⟨fun n hn => h hn.size, rfl, rfl⟩
theorem PI_tail {s : ByteArray} (h : 9 < (tail s.data.toList).length) : PI s 0 false := .inr ⟨fun n hn => by have := hn.digits; rw [hn.tail] at h; omega, rfl, rfl⟩
theorem PI_letter {s : ByteArray} {c : UInt8} (h : c ∈ tail s.data.toList) (hc : ¬ isDig c) : PI s 0 false :=
  .inr ⟨fun n hn => hc ((pv_dec n.natAbs).2.1 c (by rw [← hn.tail]; exact h)), rfl, rfl⟩
theorem take_snoc (s : ByteArray) (k : Nat) (h : k < s.size) : s.data.toList.take (k + 1) = s.data.toList.take k ++ [s[k]] := by
  rw [List.take_succ_eq_append_getElem (by simpa using h)]; rfl

end Go.Proofs.YtamdmflofbpjkaaDoor
