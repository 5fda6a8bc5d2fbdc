/- The contracts of the model's UnrankPath and NextPath. -/
import Derived.Test.YtpggglcjocnjlaaGreatSpec3C
namespace Go.Proofs.YtpggglcjocnjlaaGreat
open Go.ChangeShapes Go.WideShapes Go.ChangeAt Go.RowKit
open Go.PlainAid (bt bt_nonneg bt_le get_bt)
set_option linter.unusedVariables false

def ways (u d : Nat) : Int := if 0 < u then wy (u - 1) d else 0
/-- The letters of rank k when up letters u and down letters d are to come. -/
def unrL : Nat → Nat → Nat → Int → List UInt8
  | 0, _, _, _ => []
  | f + 1, u, d, k => if d = 0 then [] else if k < ways u d then 117 :: unrL f (u - 1) d k else 100 :: unrL f u (d - 1) (k - ways u d)
theorem unrL_end (f u : Nat) (k : Int) : unrL f u 0 k = [] := by
  cases f with
  | zero => rfl
  | succ f => rw [unrL, if_pos rfl]
theorem unrL_up (f u d : Nat) (k : Int) (hd : d ≠ 0) (h : k < ways u d) : unrL (f + 1) u d k = 117 :: unrL f (u - 1) d k := by rw [unrL, if_neg hd, if_pos h]
theorem unrL_down (f u d : Nat) (k : Int) (hd : d ≠ 0) (h : ¬ k < ways u d) : unrL (f + 1) u d k = 100 :: unrL f u (d - 1) (k - ways u d) := by rw [unrL, if_neg hd, if_neg h]
def unrGood (n k : Int) : Prop := 0 ≤ n ∧ n ≤ 8 ∧ 0 ≤ k ∧ k < wy n.toNat n.toNat
instance (n k : Int) : Decidable (unrGood n k) := by unfold unrGood; infer_instance
def unrOk (n k : Int) : Bool := decide (unrGood n k)
def unrP (n k : Int) : ByteArray := if unrGood n k then ⟨(unrL (n.toNat + n.toNat) n.toNat n.toNat k).toArray⟩ else ⟨#[]⟩
theorem unr_no {n k : Int} (h : ¬ unrGood n k) : unrOk n k = false ∧ unrP n k = ⟨#[]⟩ := ⟨decide_eq_false h, if_neg h⟩
theorem unr_yes {n k : Int} (h : unrGood n k) : unrOk n k = true ∧ unrP n k = ⟨(unrL (n.toNat + n.toNat) n.toNat n.toNat k).toArray⟩ := ⟨decide_eq_true h, if_pos h⟩
theorem wy_small (q d : Nat) (hq : q ≤ 8) (hd : d ≤ 15) : 0 ≤ wy q d ∧ wy q d ≤ 4294967296 := by
  have h := wy_bd q d hd
  refine ⟨h.1, Int.le_trans h.2 ?_⟩
  have h1 : (16 : Nat) ^ q ≤ 16 ^ 8 := Nat.pow_le_pow_right (by decide) hq
  have h2 : (16 : Int) ^ q ≤ 16 ^ 8 := by exact_mod_cast h1
  exact Int.le_trans h2 (by decide)
/-- A rank that is too great for u goes on behind d. -/
theorem ways_rest (u d : Nat) (k : Int) (hd : 0 < d) (hud : u ≤ d) (h0 : 0 ≤ k) (hk : k < wy u d) (h : ¬ k < ways u d) : u ≤ d - 1 ∧ 0 ≤ k - ways u d ∧ k - ways u d < wy u (d - 1) := by
  obtain ⟨e, rfl⟩ : ∃ e, d = e + 1 := ⟨d - 1, by omega⟩
  cases u with
  | zero => rw [wy_zero] at hk; unfold ways at h ⊢; simp at h ⊢; rw [wy_zero]; omega
  | succ u =>
    have hw : ways (u + 1) (e + 1) = wy u (e + 1) := by unfold ways; rw [if_pos (by omega)]; rfl
    rw [hw] at h ⊢
    by_cases hue : u = e
    · subst hue; rw [wy_diag] at hk; omega
    · rw [wy_step _ _ (by omega)] at hk
      rw [show e + 1 - 1 = e by omega]
      omega

theorem rkL_bd : ∀ (l : List UInt8) (h u d : Nat), ends h u d l → u ≤ 8 → d ≤ 8 → 0 ≤ rkL l u d ∧ rkL l u d ≤ d * 4294967296 := by
  intro l
  induction l with
  | nil => intro h u d he hu hd; rw [rkL_nil]; omega
  | cons c l ih =>
    intro h u d he hu hd
    by_cases e : c.toNat = 117
    · obtain ⟨h1, h2⟩ := ends_up he e
      rw [rkL_up _ _ _ _ e]
      exact ih _ _ _ h2 (by omega) hd
    · obtain ⟨h1, h2, h3⟩ := ends_down he e
      have h4 := ih _ _ _ h3 hu (by omega)
      rw [rkL_down _ _ _ _ e]
      have h5 := wy_small (u - 1) d (by omega) (by omega)
      split <;> omega
theorem rankP_bd {s : ByteArray} (h : dyck s = true) : 0 ≤ rankP s ∧ rankP s ≤ 34359738368 := by
  have h16 := dyck_size h
  have h1 := rkL_bd _ _ _ _ (ends_start h) (by omega) (by omega)
  have h2 : rankP s = rkL (rest s 0) (s.size / 2) (s.size / 2) := if_pos h
  rw [h2]
  refine ⟨h1.1, Int.le_trans h1.2 ?_⟩
  omega
def nextOk (s : ByteArray) : Bool := if dyck s = true then unrOk ((s.size / 2 : Nat) : Int) (rankP s + 1) else false
def nextP (s : ByteArray) : ByteArray := if dyck s = true then unrP ((s.size / 2 : Nat) : Int) (rankP s + 1) else ⟨#[]⟩

end Go.Proofs.YtpggglcjocnjlaaGreat
