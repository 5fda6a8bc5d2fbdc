/- From paths to trees: the contracts of the model's l6Binary and BinaryOf. -/
import Derived.Test.YtpelicepgeoopaaSpec6B
import Derived.BigQuiet
namespace Go.Proofs.Ytpelicepgeoopaa
open Go.ChangeShapes Go.WideShapes Go.ChangeAt Go.RowKit
open Go.PlainAid (bt bt_nonneg bt_le get_bt bt_end)
set_option linter.unusedVariables false

/-- A call within a region that only draws. -/
theorem quiet_on {P : Program} {f : Nat} {args : Array Value} {w : World} {n : Nat} {v : Value} (h : Calls P f args (w.drewN n) fun e w' => e = .returned v ∧ ∃ m, w' = (w.drewN n).drewN m) : Calls P f args (w.drewN n) fun e w' => e = .returned v ∧ ∃ m, w' = w.drewN m :=
  h.mono fun e w' h => ⟨h.1, h.2.elim fun m hm => ⟨n + m, by rw [hm, World.drewN_drewN]⟩⟩
theorem ext_list (s : ByteArray) (a b : Nat) : (s.extract a b).data.toList = (rest s a).take (b - a) := by
  rw [ByteArray.data_extract, Array.toList_extract, List.extract_eq_take_drop]; rfl
/-- What lies before the cut is a path. -/
theorem cutL_part : ∀ (l : List UInt8) (h i k : Nat), 1 ≤ h → dyckFrom h l = true → cutL h l i = ((i + k : Nat) : Int) → dyckFrom (h - 1) (l.take k) = true := by
  intro l
  induction l with
  | nil => intro h i k hh hd _; rw [df_nil] at hd; simp at hd; omega
  | cons c l ih =>
    intro h i k hh hd hc
    rcases df_letter hd with ⟨e, hd'⟩ | ⟨e, h1, hd'⟩
    · rw [cutL_miss _ _ _ _ (by rw [if_pos e]; omega), if_pos e, show ((h : Int) + 1) = ((h + 1 : Nat) : Int) by omega] at hc
      obtain ⟨j, e1, -, -⟩ := cutL_in l (h + 1) (i + 1) (by omega) hd'
      obtain rfl : k = j + 1 := by omega
      have := ih (h + 1) (i + 1) j (by omega) hd' e1
      rw [List.take_succ_cons, df_up _ _ _ e, show h - 1 + 1 = h by omega]
      exact this
    · by_cases h0 : h = 1
      · subst h0
        rw [cutL_hit _ _ _ _ (by rw [if_neg (by omega)]; omega)] at hc
        obtain rfl : k = 0 := by omega
        rw [List.take_zero, df_nil]; rfl
      · rw [cutL_miss _ _ _ _ (by rw [if_neg (by omega)]; omega), if_neg (by omega), show ((h : Int) - 1) = ((h - 1 : Nat) : Int) by omega] at hc
        obtain ⟨j, e1, -, -⟩ := cutL_in l (h - 1) (i + 1) (by omega) hd'
        obtain rfl : k = j + 1 := by omega
        have := ih (h - 1) (i + 1) j (by omega) hd' e1
        obtain ⟨q, rfl⟩ : ∃ q, h = q + 2 := ⟨h - 2, by omega⟩
        rw [List.take_succ_cons]
        show dyckFrom (q + 1) _ = true
        rw [df_down _ _ _ e]
        exact this
/-- A path that is not empty: its cut, and the paths before and behind it. -/
theorem cut_parts {s : ByteArray} (hd : dyck s = true) (h0 : 0 < s.size) : ∃ k : Nat, cutP s = (k : Int) ∧ 1 ≤ k ∧ k < s.size ∧ dyck (s.extract 1 k) = true ∧ dyck (s.extract (k + 1) s.size) = true := by
  obtain ⟨k, hk, k1, k2, hb⟩ := cutP_in hd h0
  have h16 := dyck_size hd
  have z1 : (s.extract 1 k).size = k - 1 := by rw [ByteArray.size_extract]; omega
  have z2 : (s.extract (k + 1) s.size).size = s.size - (k + 1) := by rw [ByteArray.size_extract]; omega
  refine ⟨k, hk, k1, k2, ?_, ?_⟩
  · rw [dyck_short (by omega), ext_list]
    rw [dyck_short h16, ← rest_zero, rest_cons s 0 h0] at hd
    rcases df_letter hd with ⟨e, hd'⟩ | ⟨e, h1, hd'⟩
    · unfold cutP at hk
      rw [← rest_zero, rest_cons s 0 h0, cutL_miss _ _ _ _ (by rw [if_pos e]; omega), if_pos e] at hk
      exact cutL_part (rest s 1) 1 1 (k - 1) (Nat.le_refl _) hd' (by
        rw [show ((0 : Int) + 1) = ((1 : Nat) : Int) from rfl] at hk
        rw [show 1 + (k - 1) = k by omega]; exact hk)
    · omega
  · rw [dyck_short (by omega), ext_list, List.take_of_length_le]
    · exact hb
    · have hl : (rest s (k + 1)).length = s.size - (k + 1) := by simp [rest]
      omega

/-- The tree of a path. -/
def binF : Nat → ByteArray → ByteArray
  | 0, _ => ⟨#[46]⟩
  | f + 1, s => if s.size = 0 then ⟨#[46]⟩ else ((⟨#[40]⟩ ++ binF f (s.extract 1 (cutP s).toNat)) ++ binF f (s.extract ((cutP s).toNat + 1) s.size)) ++ ⟨#[41]⟩
theorem binF_none (f : Nat) {s : ByteArray} (h : s.size = 0) : binF f s = ⟨#[46]⟩ := by
  cases f with
  | zero => rfl
  | succ f => rw [binF, if_pos h]
theorem binF_more (f k : Nat) {s : ByteArray} (h : 0 < s.size) (hk : cutP s = (k : Int)) : binF (f + 1) s = ((⟨#[40]⟩ ++ binF f (s.extract 1 k)) ++ binF f (s.extract (k + 1) s.size)) ++ ⟨#[41]⟩ := by
  rw [binF, if_neg (by omega), hk]; rfl
theorem one_size (c : UInt8) : (⟨#[c]⟩ : ByteArray).size = 1 := rfl
theorem binF_size : ∀ (f : Nat) (s : ByteArray), (binF f s).size ≤ 4 * s.size + 1 := by
  intro f
  induction f with
  | zero => intro s; show (⟨#[46]⟩ : ByteArray).size ≤ _; rw [one_size]; omega
  | succ f ih =>
    intro s
    rw [binF]
    split
    · rw [one_size]; omega
    · rename_i h
      have i1 := ih (s.extract 1 (cutP s).toNat)
      have i2 := ih (s.extract ((cutP s).toNat + 1) s.size)
      rw [ByteArray.size_extract] at i1 i2
      simp only [ByteArray.size_append, one_size]
      omega

def boP (s : ByteArray) : ByteArray := if dyck s = true then binF s.size s else ⟨#[]⟩
end Go.Proofs.Ytpelicepgeoopaa
