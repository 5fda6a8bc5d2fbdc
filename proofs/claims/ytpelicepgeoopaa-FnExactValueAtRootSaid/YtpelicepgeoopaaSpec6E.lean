/- The levels of a tree's leaves: the contracts of the model's LeafLevels and HeightOf. -/
import Derived.Test.YtpelicepgeoopaaSpec6D
namespace Go.Proofs.Ytpelicepgeoopaa
open Go.ChangeShapes Go.WideShapes Go.ChangeAt Go.RowKit
open Go.PlainAid (bt bt_nonneg bt_le get_bt bt_end)
set_option linter.unusedVariables false

/-- The levels of the leaves of a text that is read at level h. -/
def llL : Int → List UInt8 → List Int
  | _, [] => []
  | h, c :: l => if c.toNat = 40 then llL (h + 1) l else if c.toNat = 41 then llL (h - 1) l else h :: llL h l
theorem llL_nil (h : Int) : llL h [] = [] := rfl
theorem llL_open (h : Int) (c : UInt8) (l : List UInt8) (e : c.toNat = 40) : llL h (c :: l) = llL (h + 1) l := by rw [llL, if_pos e]
theorem llL_close (h : Int) (c : UInt8) (l : List UInt8) (e : c.toNat = 41) : llL h (c :: l) = llL (h - 1) l := by rw [llL, if_neg (by omega), if_pos e]
theorem llL_leaf (h : Int) (c : UInt8) (l : List UInt8) (e : c.toNat ≠ 40) (e' : c.toNat ≠ 41) : llL h (c :: l) = h :: llL h l := by rw [llL, if_neg e, if_neg e']
def lvP (s : ByteArray) : List Int := if binB s = true then llL 0 s.data.toList else []

/-- A slice of n elements has room for them. -/
def Room (v : Value) (n : Nat) : Prop := ∃ A cap, v = .slice A n cap ∧ n ≤ cap
theorem Room.of_row {w : World} {base : Nat} {v : Value} {n : Nat} {xs : List Value} (h : w.ownsRow base 3 1 v n xs) : Room v n := by
  obtain ⟨-, ⟨e, rfl⟩ | ⟨g, cap, cur, e, -, -, hc, -⟩⟩ := h
  · exact ⟨none, 0, e, Nat.le_refl _⟩
  · exact ⟨_, cap, e, hc⟩
theorem llL_len : ∀ (l : List UInt8) (h : Int), (llL h l).length ≤ l.length := by
  intro l
  induction l with
  | nil => intro h; exact Nat.zero_le _
  | cons c l ih =>
    intro h
    rw [llL, List.length_cons]
    have i1 := ih (h + 1)
    have i2 := ih (h - 1)
    have i3 := ih h
    split
    · omega
    · split
      · omega
      · rw [List.length_cons]; omega
theorem lvP_len (s : ByteArray) : (lvP s).length ≤ 25 := by
  unfold lvP
  split
  · rename_i h
    have h1 := (bin_full h).1
    have h2 := llL_len s.data.toList 0
    have h3 : s.data.toList.length = s.size := by simp
    omega
  · exact Nat.zero_le _
def maxL : Int → List Int → Int
  | n, [] => n
  | n, y :: l => maxL (max n y) l
def heightP (s : ByteArray) : Int := maxL (-1) (lvP s)
end Go.Proofs.Ytpelicepgeoopaa
