/- What a tree is made of; the contracts of the model's NodesOf and PartsOfBinary. -/
import Derived.Test.YtpelicepgeoopaaSpec6A
import Derived.Test.YtpelicepgeoopaaStrB
namespace Go.Proofs.Ytpelicepgeoopaa
open Go.ChangeShapes Go.WideShapes Go.ChangeAt Go.RowKit
open Go.PlainAid (bt bt_nonneg bt_le get_bt bt_end)
set_option linter.unusedVariables false

/-- The tree that begins at a and ends before r is the same in a part of the text that holds it. -/
theorem end_part (s : ByteArray) (b c : Nat) (hc : c ≤ s.size) : ∀ (f a : Nat), s.size + 1 ≤ a + f → b ≤ a → ∀ r : Nat, endP s a = r → r ≤ c → endP (s.extract b c) (a - b) = ((r - b : Nat) : Int) := by
  have hz : (s.extract b c).size = c - b := by rw [ByteArray.size_extract]; omega
  intro f
  induction f with
  | zero => intro a h hb r hr hrc; have := endP_in s a; rw [show endP s a = -1 from endF_end s _ a (by omega)] at hr; omega
  | succ f ih =>
    intro a h hb r hr hrc
    have hin := endP_in s a
    have hle : ¬ s.size ≤ a := by omega
    have hla : ¬ (s.extract b c).size ≤ a - b := by rw [hz]; omega
    have hbt : bt (s.extract b c) (a - b) = bt s a := by rw [bt_ext s b c (a - b) hc (by omega)]; congr 1; omega
    by_cases e1 : bt s a = 46
    · rw [endP_dot s a hle e1] at hr
      rw [endP_dot _ _ hla (by rw [hbt]; exact e1)]; omega
    · by_cases e2 : bt s a = 40
      · rcases endP_in s (a + 1) with hx | ⟨x1, x2⟩
        · rw [endP_left s a hle e2 (by omega)] at hr; omega
        · obtain ⟨x, hx⟩ : ∃ x : Nat, endP s (a + 1) = x := ⟨(endP s (a + 1)).toNat, by omega⟩
          have hp := endP_pair s a x hle e2 hx
          rw [hr] at hp
          by_cases hn : endP s x < 0 ∨ (s.size : Int) ≤ endP s x ∨ bt s (endP s x).toNat ≠ 41
          · rw [if_pos hn] at hp; omega
          · rw [if_neg hn] at hp
            rcases endP_in s x with hy | ⟨y1, y2⟩
            · exact absurd (.inl (by omega)) hn
            · obtain ⟨y, hy⟩ : ∃ y : Nat, endP s x = y := ⟨(endP s x).toNat, by omega⟩
              rw [hy] at hp hn
              have h41 : bt s y = 41 := by
                by_cases h : bt s y = 41
                · exact h
                · exact absurd (.inr (.inr h)) hn
              have i1 := ih (a + 1) (by omega) (by omega) x hx (by omega)
              have i2 := ih x (by omega) (by omega) y hy (by omega)
              have hb2 : bt (s.extract b c) (y - b) = 41 := by rw [bt_ext s b c (y - b) hc (by omega), ← h41]; congr 1; omega
              rw [endP_pair _ _ (x - b) hla (by rw [hbt]; exact e2) (by rw [← i1]; congr 1; omega), i2, if_neg]
              · omega
              · rintro (h | h | h)
                · omega
                · rw [hz] at h; omega
                · exact h hb2
      · rw [endP_other s a hle e1 e2] at hr; omega
/-- A tree is a dot, or it has two parts. -/
theorem bin_cases {s : ByteArray} (h : binB s = true) : s = ⟨#[46]⟩ ∨ ∃ x : Nat, endP s 1 = (x : Int) ∧ 2 ≤ x ∧ x + 2 ≤ s.size ∧ bt s 0 = 40 ∧ bt s (s.size - 1) = 41 ∧ binB (s.extract 1 x) = true ∧ binB (s.extract x (s.size - 1)) = true := by
  obtain ⟨h25, he, h0⟩ := bin_full h
  have hle : ¬ s.size ≤ 0 := by omega
  by_cases e1 : bt s 0 = 46
  · left
    rw [endP_dot s 0 hle e1] at he
    have hz : s.size = 1 := by omega
    refine str_ext (by rw [hz]; rfl) fun k hk => ?_
    obtain rfl : k = 0 := by omega
    rw [e1]; rfl
  · by_cases e2 : bt s 0 = 40
    · right
      rcases endP_in s 1 with hx | ⟨x1, x2⟩
      · rw [endP_left s 0 hle e2 (by show endP s 1 < 0; omega)] at he; omega
      · obtain ⟨x, hx⟩ : ∃ x : Nat, endP s 1 = x := ⟨(endP s 1).toNat, by omega⟩
        have hp := endP_pair s 0 x hle e2 hx
        rw [he] at hp
        by_cases hn : endP s x < 0 ∨ (s.size : Int) ≤ endP s x ∨ bt s (endP s x).toNat ≠ 41
        · rw [if_pos hn] at hp; omega
        · rw [if_neg hn] at hp
          rcases endP_in s x with hy | ⟨y1, y2⟩
          · exact absurd (.inl (by omega)) hn
          · obtain ⟨y, hy⟩ : ∃ y : Nat, endP s x = y := ⟨(endP s x).toNat, by omega⟩
            rw [hy] at hp hn
            have h41 : bt s y = 41 := by
              by_cases h : bt s y = 41
              · exact h
              · exact absurd (.inr (.inr h)) hn
            have hys : y = s.size - 1 := by omega
            have p1 := end_part s 1 x (by omega) (s.size + 1) 1 (by omega) (Nat.le_refl _) x hx (Nat.le_refl _)
            have p2 := end_part s x y (by omega) (s.size + 1) x (by omega) (Nat.le_refl _) y hy (Nat.le_refl _)
            have z1 : (s.extract 1 x).size = x - 1 := by rw [ByteArray.size_extract]; omega
            have z2 : (s.extract x y).size = y - x := by rw [ByteArray.size_extract]; omega
            simp only [Nat.sub_self] at p1 p2
            refine ⟨x, hx, by omega, by omega, e2, by rw [← hys]; exact h41, ?_, ?_⟩
            · unfold binB
              rw [p1, z1, decide_eq_true (by omega)]; simp
            · rw [← hys]
              unfold binB
              rw [p2, z2, decide_eq_true (by omega)]; simp
    · rw [endP_other s 0 hle e1 e2] at he; omega

def nodesP (s : ByteArray) : Int := if binB s = true then (((s.size - 1) / 3 : Nat) : Int) else -1
theorem dot_size : (⟨#[46]⟩ : ByteArray).size = 1 := rfl
def partA (s : ByteArray) : ByteArray := if binB s = true ∧ s ≠ ⟨#[46]⟩ then s.extract 1 (endP s 1).toNat else ⟨#[]⟩
def partB (s : ByteArray) : ByteArray := if binB s = true ∧ s ≠ ⟨#[46]⟩ then s.extract (endP s 1).toNat (s.size - 1) else ⟨#[]⟩
def partOk (s : ByteArray) : Bool := decide (binB s = true ∧ s ≠ ⟨#[46]⟩)
theorem ne_dot {s : ByteArray} (h : s.size ≠ 1) : (s.toList == [46]) = false ∧ (s.toList != [46]) = true := by
  have hne : s.toList ≠ [46] := fun e => h (by
    have := congrArg List.length e
    rw [ByteArray.toList_eq] at this
    have h1 : s.data.toList.length = s.size := by simp
    rw [h1] at this; exact this)
  have h2 : (s.toList == [46]) = false := beq_eq_false_iff_ne.2 hne
  exact ⟨h2, by show (!(s.toList == [46])) = true; rw [h2]; rfl⟩

end Go.Proofs.Ytpelicepgeoopaa
