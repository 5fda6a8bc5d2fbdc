/- The contracts of the model's CatalanNumber, BallotNumber and RankPath. -/
import Derived.Test.YtpggglcjocnjlaaGreatSpec3B
import Derived.Test.YtpggglcjocnjlaaGreatSpec2E
namespace Go.Proofs.YtpggglcjocnjlaaGreat
open Go.ChangeShapes Go.WideShapes Go.ChangeAt Go.RowKit
open Go.PlainAid (bt bt_nonneg bt_le get_bt)
set_option linter.unusedVariables false

def catP (n : Int) : Int := if 0 ≤ n ∧ n ≤ 15 then wy n.toNat n.toNat else -1
def ballP (u d : Int) : Int := if 0 ≤ u ∧ u ≤ d ∧ d ≤ 15 then wy u.toNat d.toNat else 0

/-- The rank that the letters add when up letters u and down letters d are to come. -/
def rkL : List UInt8 → Nat → Nat → Int
  | [], _, _ => 0
  | c :: l, up, down => if c.toNat = 117 then rkL l (up - 1) down else (if 0 < up then wy (up - 1) down else 0) + rkL l up (down - 1)
theorem rkL_nil (u d : Nat) : rkL [] u d = 0 := rfl
theorem rkL_up (c : UInt8) (l : List UInt8) (u d : Nat) (e : c.toNat = 117) : rkL (c :: l) u d = rkL l (u - 1) d := by rw [rkL, if_pos e]
theorem rkL_down (c : UInt8) (l : List UInt8) (u d : Nat) (e : c.toNat ≠ 117) : rkL (c :: l) u d = (if 0 < u then wy (u - 1) d else 0) + rkL l u (d - 1) := by rw [rkL, if_neg e]
def rankP (s : ByteArray) : Int := if dyck s = true then rkL s.data.toList (s.size / 2) (s.size / 2) else -1
/-- The letters to come: up letters u and down letters d when the height is h. -/
def ends (h u d : Nat) (l : List UInt8) : Prop := dyckFrom h l = true ∧ h + u = d ∧ l.length = u + d
theorem ends_count : ∀ (l : List UInt8) (h : Nat), dyckFrom h l = true → ∃ u d, h + u = d ∧ l.length = u + d := by
  intro l
  induction l with
  | nil => intro h hd; rw [df_nil] at hd; simp at hd; exact ⟨0, 0, by omega, rfl⟩
  | cons c l ih =>
    intro h hd
    rcases df_letter hd with ⟨e, hd'⟩ | ⟨e, h1, hd'⟩
    · obtain ⟨u, d, e1, e2⟩ := ih _ hd'
      exact ⟨u + 1, d, by omega, by rw [List.length_cons]; omega⟩
    · obtain ⟨u, d, e1, e2⟩ := ih _ hd'
      exact ⟨u, d + 1, by omega, by rw [List.length_cons]; omega⟩
theorem ends_up {h u d : Nat} {c : UInt8} {l : List UInt8} (he : ends h u d (c :: l)) (e : c.toNat = 117) : 1 ≤ u ∧ ends (h + 1) (u - 1) d l := by
  obtain ⟨h1, h2, h3⟩ := he
  rcases df_letter h1 with ⟨-, hd'⟩ | ⟨e', -, -⟩
  · obtain ⟨a, b, e1, e2⟩ := ends_count _ _ hd'
    rw [List.length_cons] at h3
    exact ⟨by omega, hd', by omega, by omega⟩
  · omega
theorem ends_down {h u d : Nat} {c : UInt8} {l : List UInt8} (he : ends h u d (c :: l)) (e : c.toNat ≠ 117) : 1 ≤ h ∧ 1 ≤ d ∧ ends (h - 1) u (d - 1) l := by
  obtain ⟨h1, h2, h3⟩ := he
  rcases df_letter h1 with ⟨e', -⟩ | ⟨-, hh, hd'⟩
  · omega
  · rw [List.length_cons] at h3
    exact ⟨hh, by omega, hd', by omega, by omega⟩
theorem ends_start {s : ByteArray} (h : dyck s = true) : ends 0 (s.size / 2) (s.size / 2) (rest s 0) := by
  have h16 := dyck_size h
  rw [dyck_short h16] at h
  obtain ⟨u, d, e1, e2⟩ := ends_count _ _ h
  have e3 : s.data.toList.length = s.size := by simp
  have e4 : (rest s 0).length = s.size := by rw [rest_zero]; exact e3
  exact ⟨h, by omega, by omega⟩

end Go.Proofs.YtpggglcjocnjlaaGreat
