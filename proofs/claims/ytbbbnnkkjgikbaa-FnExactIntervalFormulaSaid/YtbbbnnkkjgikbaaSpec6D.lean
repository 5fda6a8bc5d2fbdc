/- From trees to paths, and the mirror of a tree: the contracts of the model's l6Path, PathOfBinary, l6Mirror, MirrorBinary. -/
import Derived.Test.YtbbbnnkkjgikbaaSpec6C
namespace Go.Proofs.Ytbbbnnkkjgikbaa
open Go.ChangeShapes Go.WideShapes Go.ChangeAt Go.RowKit
open Go.PlainAid (bt bt_nonneg bt_le get_bt bt_end)
set_option linter.unusedVariables false

theorem no_size : (⟨#[]⟩ : ByteArray).size = 0 := rfl

/-- The path of a tree. -/
def pathF : Nat → ByteArray → ByteArray
  | 0, _ => ⟨#[]⟩
  | f + 1, s => if s.size ≤ 1 then ⟨#[]⟩ else ((⟨#[117]⟩ ++ pathF f (s.extract 1 (endP s 1).toNat)) ++ ⟨#[100]⟩) ++ pathF f (s.extract (endP s 1).toNat (s.size - 1))
theorem pathF_none (f : Nat) {s : ByteArray} (h : s.size ≤ 1) : pathF f s = ⟨#[]⟩ := by
  cases f with
  | zero => rfl
  | succ f => rw [pathF, if_pos h]
theorem pathF_more (f x : Nat) {s : ByteArray} (h : 1 < s.size) (hx : endP s 1 = (x : Int)) : pathF (f + 1) s = ((⟨#[117]⟩ ++ pathF f (s.extract 1 x)) ++ ⟨#[100]⟩) ++ pathF f (s.extract x (s.size - 1)) := by
  rw [pathF, if_neg (by omega), hx]; rfl
theorem pathF_size : ∀ (f : Nat) (s : ByteArray), (pathF f s).size ≤ 4 * s.size + 0 := by
  intro f
  induction f with
  | zero => intro s; show (⟨#[]⟩ : ByteArray).size ≤ _; first | (rw [one_size]; omega) | (rw [no_size]; omega)
  | succ f ih =>
    intro s
    rw [pathF]
    split
    · first | (rw [one_size]; omega) | (rw [no_size]; omega)
    · rename_i h
      have i1 := ih (s.extract 1 (endP s 1).toNat)
      have i2 := ih (s.extract (endP s 1).toNat (s.size - 1))
      rw [ByteArray.size_extract] at i1 i2
      simp only [ByteArray.size_append, one_size]
      omega

def pobiP (s : ByteArray) : ByteArray := if binB s = true then pathF s.size s else ⟨#[]⟩
/-- The mirror of a tree. -/
def mirF : Nat → ByteArray → ByteArray
  | 0, _ => ⟨#[46]⟩
  | f + 1, s => if s.size ≤ 1 then ⟨#[46]⟩ else ((⟨#[40]⟩ ++ mirF f (s.extract (endP s 1).toNat (s.size - 1))) ++ mirF f (s.extract 1 (endP s 1).toNat)) ++ ⟨#[41]⟩
theorem mirF_none (f : Nat) {s : ByteArray} (h : s.size ≤ 1) : mirF f s = ⟨#[46]⟩ := by
  cases f with
  | zero => rfl
  | succ f => rw [mirF, if_pos h]
theorem mirF_more (f x : Nat) {s : ByteArray} (h : 1 < s.size) (hx : endP s 1 = (x : Int)) : mirF (f + 1) s = ((⟨#[40]⟩ ++ mirF f (s.extract x (s.size - 1))) ++ mirF f (s.extract 1 x)) ++ ⟨#[41]⟩ := by
  rw [mirF, if_neg (by omega), hx]; rfl
theorem mirF_size : ∀ (f : Nat) (s : ByteArray), (mirF f s).size ≤ 4 * s.size + 1 := by
  intro f
  induction f with
  | zero => intro s; show (⟨#[46]⟩ : ByteArray).size ≤ _; first | (rw [one_size]; omega) | (rw [no_size]; omega)
  | succ f ih =>
    intro s
    rw [mirF]
    split
    · first | (rw [one_size]; omega) | (rw [no_size]; omega)
    · rename_i h
      have i1 := ih (s.extract 1 (endP s 1).toNat)
      have i2 := ih (s.extract (endP s 1).toNat (s.size - 1))
      rw [ByteArray.size_extract] at i1 i2
      simp only [ByteArray.size_append, one_size]
      omega

set_option maxRecDepth 100000 in
set_option maxHeartbeats 1600000 in
theorem l6MirrorF : ∀ (f : Nat) (s : ByteArray), binB s = true → s.size ≤ f → ∀ w : World, Calls Try.prog 79 #[.string s] w fun e w' => e = .returned (.string (mirF f s)) ∧ ∃ m, w' = w.drewN m := by
  intro f
  induction f with
  | zero => intro s hb hf w; have := bin_full hb; omega
  | succ f ih =>
    intro s hb hf w
    rcases bin_cases hb with rfl | ⟨x, hx, x2, xs, -, -, d1, d2⟩
    · have HF := Lib.hid (mirF_none (f + 1) (s := ⟨#[46]⟩) (Nat.le_refl _))
      clear hb ih hf
      go_enter Try.func79, Try.ntmps79
      go_wp2
      go_ret
      exact ⟨ret_str HF.out.symm, 0, rfl⟩
    · obtain ⟨n1, n2⟩ := ne_dot (s := s) (by omega)
      have h25 := (bin_full hb).1
      have HF := Lib.hid (mirF_more f x (by omega) hx)
      have HE := Lib.hid (l6End1 s w (by omega))
      rw [hx] at HE
      have y1 : (s.extract 1 x).size = x - 1 := by rw [ByteArray.size_extract]; omega
      have y2 : (s.extract x (s.size - 1)).size = s.size - 1 - x := by rw [ByteArray.size_extract]; omega
      have b1 := mirF_size f (s.extract 1 x)
      have b2 := mirF_size f (s.extract x (s.size - 1))
      have HA := Lib.hid fun n => ih (s.extract 1 x) d1 (by omega) (w.drewN n)
      have HB := Lib.hid fun n => ih (s.extract x (s.size - 1)) d2 (by omega) (w.drewN n)
      obtain ⟨m, hm⟩ : ∃ m, s.size = m + 1 := ⟨s.size - 1, by omega⟩
      have hm2 : s.size - 1 = m := by omega
      rw [hm2] at HF HB b2 y2
      have hmi : (s.size : Int) - 1 = (m : Int) := by omega
      have hmb : (m : Int) ≤ 24 := by omega
      have h1x : (1 : Int) ≤ (x : Int) := by omega
      have hxs : (x : Int) ≤ (s.size : Int) := by omega
      have hxm : (x : Int) ≤ (m : Int) := by omega
      have hms : (m : Int) ≤ (s.size : Int) := by omega
      have z1 : ¬ 9223372036854775807 < (⟨#[40]⟩ : ByteArray).size + (mirF f (s.extract x m)).size := by rw [one_size]; omega
      have z2 : ¬ 9223372036854775807 < (⟨#[40]⟩ ++ mirF f (s.extract x m) : ByteArray).size + (mirF f (s.extract 1 x)).size := by rw [ByteArray.size_append, one_size]; omega
      have z3 : ¬ 9223372036854775807 < ((⟨#[40]⟩ ++ mirF f (s.extract x m)) ++ mirF f (s.extract 1 x) : ByteArray).size + (⟨#[41]⟩ : ByteArray).size := by simp only [ByteArray.size_append, one_size]; omega
      clear hb ih hf hx d1 d2 y1 y2 b1 b2 h25 hm hm2
      go_enter Try.func79, Try.ntmps79
      go_wp2_with fail
      (with_reducible refine HE.out.mono ?_)
      rintro e w' ⟨rfl, rfl⟩
      go_wp2
      go_quiet (first | (with_reducible exact quiet_on (HA.out _)) | (with_reducible exact quiet_on (HB.out _)))
      go_wp2
      go_ret
      exact ⟨ret_str HF.out.symm, _, rfl⟩
def mirBP (s : ByteArray) : ByteArray := if binB s = true then mirF s.size s else ⟨#[]⟩
end Go.Proofs.Ytbbbnnkkjgikbaa
