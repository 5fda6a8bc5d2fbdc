/- Plain words on chapter 29: bad words, low words and their reflections. -/
import Derived.Test.YtpggglcjocnjlaaGreatFact28
namespace Go.Proofs.YtpggglcjocnjlaaGreat
open Go.ChangeShapes Go.WideShapes Go.ChangeAt Go.RowKit
open Go.PlainAid (bt bt_nonneg bt_le get_bt bt_end)
set_option linter.unusedVariables false

def stA (c : UInt8) : Int := if c.toNat = 117 then 1 else -1
/-- The place behind the first letter that leads to height -1; 0 if none does. -/
def cutA : Int → List UInt8 → Nat → Nat
  | _, [], _ => 0
  | h, c :: l, i => if h + stA c = -1 then i + 1 else cutA (h + stA c) l (i + 1)
theorem cutA_hit (h : Int) (c : UInt8) (l : List UInt8) (i : Nat) (e : h + stA c = -1) : cutA h (c :: l) i = i + 1 := by rw [cutA, if_pos e]
theorem cutA_miss (h : Int) (c : UInt8) (l : List UInt8) (i : Nat) (e : h + stA c ≠ -1) : cutA h (c :: l) i = cutA (h + stA c) l (i + 1) := by rw [cutA, if_neg e]
theorem stA_up {c : UInt8} (h : c.toNat = 117) : stA c = 1 := if_pos h
theorem stA_down {c : UInt8} (h : c.toNat = 100) : stA c = -1 := if_neg (by omega)
/-- A word of letters u and d is a path if it is never below 0, and 0 at its end. -/
theorem dyck_cut : ∀ (l : List UInt8) (h i : Nat), udA l = true → (dyckFrom h l = true ↔ cutA h l i = 0 ∧ (h : Int) + smA l = 0) := by
  intro l
  induction l with
  | nil => intro h i _; rw [df_nil, beq_iff_eq, cutA, smA]; omega
  | cons c l ih =>
    intro h i hu
    have hc : c.toNat = 117 ∨ c.toNat = 100 := by
      by_cases hc : c.toNat = 117 ∨ c.toNat = 100
      · exact hc
      · rw [udA_no l hc] at hu; cases hu
    rw [udA_up l hc] at hu
    rcases hc with hc | hc
    · rw [df_up _ _ _ hc, cutA_miss _ _ _ _ (by rw [stA_up hc]; omega), stA_up hc, smA_up l hc, show ((h : Int) + 1) = ((h + 1 : Nat) : Int) by omega, ih (h + 1) (i + 1) hu]
      constructor
      · rintro ⟨a, b⟩; exact ⟨a, by omega⟩
      · rintro ⟨a, b⟩; exact ⟨a, by omega⟩
    · rcases h with _ | k
      · rw [df_below _ _ hc, cutA_hit _ _ _ _ (by rw [stA_down hc]; rfl)]
        simp
      · rw [df_down _ _ _ hc, cutA_miss _ _ _ _ (by rw [stA_down hc]; omega), stA_down hc, smA_down l (by omega), show (((k + 1 : Nat) : Int) + -1) = (k : Int) by omega, ih k (i + 1) hu]
        constructor
        · rintro ⟨a, b⟩; exact ⟨a, by omega⟩
        · rintro ⟨a, b⟩; exact ⟨a, by omega⟩
theorem cutA_bd : ∀ (l : List UInt8) (h : Int) (i : Nat), cutA h l i = 0 ∨ (i < cutA h l i ∧ cutA h l i ≤ i + l.length) := by
  intro l
  induction l with
  | nil => intro h i; exact .inl rfl
  | cons c l ih =>
    intro h i
    by_cases e : h + stA c = -1
    · rw [cutA_hit _ _ _ _ e]; exact .inr ⟨by omega, by simp⟩
    · rw [cutA_miss _ _ _ _ e]
      rcases ih (h + stA c) (i + 1) with e2 | ⟨e2, e3⟩
      · exact .inl e2
      · exact .inr ⟨by omega, by simp only [List.length_cons]; omega⟩
/-- A word that ends below 0 has been at -1. -/
theorem cutA_low : ∀ (l : List UInt8) (h : Int) (i : Nat), udA l = true → 0 ≤ h → h + smA l < 0 → cutA h l i ≠ 0 := by
  intro l
  induction l with
  | nil => intro h i _ h0 h1; rw [smA] at h1; omega
  | cons c l ih =>
    intro h i hu h0 h1
    have hc : c.toNat = 117 ∨ c.toNat = 100 := by
      by_cases hc : c.toNat = 117 ∨ c.toNat = 100
      · exact hc
      · rw [udA_no l hc] at hu; cases hu
    rw [udA_up l hc] at hu
    by_cases e : h + stA c = -1
    · rw [cutA_hit _ _ _ _ e]; omega
    · rw [cutA_miss _ _ _ _ e]
      rcases hc with hc | hc
      · rw [smA_up l hc] at h1; rw [stA_up hc]; exact ih _ _ hu (by omega) (by omega)
      · rw [smA_down l (by omega)] at h1; rw [stA_down hc] at e ⊢; exact ih _ _ hu (by omega) (by omega)
/-- The other letter. -/
def otA (c : UInt8) : UInt8 := if c.toNat = 117 then 100 else 117
/-- The word with the letters behind the first place at -1 exchanged. -/
def flA : Int → List UInt8 → List UInt8
  | _, [] => []
  | h, c :: l => if h + stA c = -1 then c :: l.map otA else c :: flA (h + stA c) l
theorem flA_hit (h : Int) (c : UInt8) (l : List UInt8) (e : h + stA c = -1) : flA h (c :: l) = c :: l.map otA := by rw [flA, if_pos e]
theorem flA_miss (h : Int) (c : UInt8) (l : List UInt8) (e : h + stA c ≠ -1) : flA h (c :: l) = c :: flA (h + stA c) l := by rw [flA, if_neg e]
theorem flA_cut : ∀ (l : List UInt8) (h : Int) (i : Nat), cutA h l i ≠ 0 → flA h l = l.take (cutA h l i - i) ++ (l.drop (cutA h l i - i)).map otA := by
  intro l
  induction l with
  | nil => intro h i h0; exact absurd rfl h0
  | cons c l ih =>
    intro h i h0
    by_cases e : h + stA c = -1
    · rw [cutA_hit _ _ _ _ e, flA_hit _ _ _ e, show i + 1 - i = 1 by omega]; rfl
    · rw [cutA_miss _ _ _ _ e] at h0 ⊢
      rw [flA_miss _ _ _ e, ih _ (i + 1) h0]
      rcases cutA_bd l (h + stA c) (i + 1) with e2 | ⟨e2, e3⟩
      · exact absurd e2 h0
      · obtain ⟨q, hq⟩ : ∃ q, cutA (h + stA c) l (i + 1) = q + (i + 1) := ⟨cutA (h + stA c) l (i + 1) - (i + 1), by omega⟩
        rw [hq, show q + (i + 1) - (i + 1) = q by omega, show q + (i + 1) - i = q + 1 by omega]; rfl
theorem flA_len : ∀ (l : List UInt8) (h : Int), (flA h l).length = l.length := by
  intro l
  induction l with
  | nil => intro h; rfl
  | cons c l ih =>
    intro h
    by_cases e : h + stA c = -1
    · rw [flA_hit _ _ _ e]; simp
    · rw [flA_miss _ _ _ e]; simp [ih]
def flS (s : ByteArray) : ByteArray := ⟨(flA 0 s.data.toList).toArray⟩
theorem flS_size (s : ByteArray) : (flS s).size = s.size := by
  show (flA 0 s.data.toList).toArray.size = s.size
  rw [List.size_toArray, flA_len]; simp
def ct (s : ByteArray) : Nat := cutA 0 s.data.toList 0
theorem ct_le (s : ByteArray) : ct s ≤ s.size := by
  rcases cutA_bd s.data.toList 0 0 with e | ⟨-, e⟩
  · unfold ct; omega
  · have : s.data.toList.length = s.size := by simp
    unfold ct; omega
def udS (s : ByteArray) : Bool := udA s.data.toList && decide (s.size ≤ 16)
def badB (s : ByteArray) : Bool := udS s && (decide (smA s.data.toList = 0) && !dyck s)
def lowB (s : ByteArray) : Bool := udS s && decide (smA s.data.toList = -2)
theorem ud_parts {s : ByteArray} (h : udS s = true) : udA s.data.toList = true ∧ s.size ≤ 16 := by
  unfold udS at h; simpa using h
theorem bad_cut {s : ByteArray} (h : udS s = true) : badB s = (decide (smA s.data.toList = 0) && decide (0 < ct s)) := by
  obtain ⟨h1, h2⟩ := ud_parts h
  unfold badB
  rw [h, Bool.true_and]
  by_cases e : smA s.data.toList = 0
  · rw [decide_eq_true e, Bool.true_and, Bool.true_and, dyck_short h2]
    have := dyck_cut s.data.toList 0 0 h1
    rw [e] at this
    by_cases e2 : ct s = 0
    · rw [decide_eq_false (by omega), this.2 ⟨e2, rfl⟩]; rfl
    · rw [decide_eq_true (by omega)]
      rcases hb : dyckFrom 0 s.data.toList with _ | _
      · rfl
      · exact absurd (this.1 hb).1 e2
  · rw [decide_eq_false e]; rfl
theorem low_cut {s : ByteArray} (h : lowB s = true) : 0 < ct s := by
  unfold lowB at h
  rw [Bool.and_eq_true, decide_eq_true_eq] at h
  have := cutA_low s.data.toList 0 0 (ud_parts h.1).1 (Int.le_refl _) (by rw [h.2]; decide)
  unfold ct; omega
def rbP (s : ByteArray) : ByteArray := if badB s = true then flS s else ⟨#[]⟩
def ruP (s : ByteArray) : ByteArray := if lowB s = true then flS s else ⟨#[]⟩
theorem ud_long {s : ByteArray} (h : ¬ s.size ≤ 16) : udS s = false := by unfold udS; rw [decide_eq_false h]; simp

end Go.Proofs.YtpggglcjocnjlaaGreat
