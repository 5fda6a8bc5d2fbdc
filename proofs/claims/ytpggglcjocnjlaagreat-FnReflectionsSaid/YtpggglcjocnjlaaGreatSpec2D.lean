/- The contracts of the model's PeaksOf and ReversePath. -/
import Derived.Test.YtpggglcjocnjlaaGreatSpec2C
namespace Go.Proofs.YtpggglcjocnjlaaGreat
open Go.ChangeShapes Go.WideShapes Go.ChangeAt Go.RowKit
open Go.PlainAid (bt bt_nonneg bt_le get_bt)
set_option linter.unusedVariables false

/-- How many of the first k places bear a u with a d behind it. -/
def pkN (s : ByteArray) : Nat → Nat
  | 0 => 0
  | k + 1 => pkN s k + if bt s k = 117 ∧ bt s (k + 1) = 100 then 1 else 0
theorem pkN_le (s : ByteArray) (k : Nat) : pkN s k ≤ k := by
  induction k with
  | zero => simp [pkN]
  | succ k ih => rw [pkN]; split <;> omega
def peaksP (s : ByteArray) : Int := if dyck s = true then (pkN s (s.size - 1) : Int) else -1
theorem two_at {s : ByteArray} {j : Nat} (h : j + 1 < s.size) : (s.extract j (j + 1 + 1)).toList = [s[j], s[j + 1]] := by
  rw [ByteArray.toList_eq]
  apply List.ext_getElem?
  intro i
  have h1 : (s.extract j (j + 1 + 1)).data.toList = (s.data.toList.drop j).take 2 := by
    simp only [ByteArray.data_extract, Array.toList_extract]
    rw [List.extract_eq_take_drop]
    congr 1
    omega
  rw [h1, List.getElem?_take]
  by_cases hi : i < 2
  · rw [if_pos hi, List.getElem?_drop, Array.getElem?_toList]
    rcases (show i = 0 ∨ i = 1 by omega) with rfl | rfl
    · rw [Array.getElem?_eq_getElem (show j + 0 < s.data.size from by show j + 0 < s.size; omega)]; rfl
    · rw [Array.getElem?_eq_getElem (show j + 1 < s.data.size from by show j + 1 < s.size; omega)]; rfl
  · rw [if_neg hi, List.getElem?_eq_none (by simp; omega)]
theorem two_ud {s : ByteArray} {j : Nat} (h : j + 1 < s.size) (e : bt s j = 117 ∧ bt s (j + 1) = 100) : ((s.extract j (j + 1 + 1)).toList == [117, 100]) = true := by
  rw [two_at h]
  rw [bt_at s j (by omega), bt_at s (j + 1) h] at e
  have a : s[j] = 117 := UInt8.toNat_inj.1 (by have : (117 : UInt8).toNat = 117 := rfl; omega)
  have b : s[j + 1] = 100 := UInt8.toNat_inj.1 (by have : (100 : UInt8).toNat = 100 := rfl; omega)
  rw [a, b]; rfl
theorem two_not {s : ByteArray} {j : Nat} (h : j + 1 < s.size) (e : ¬ (bt s j = 117 ∧ bt s (j + 1) = 100)) : ((s.extract j (j + 1 + 1)).toList == [117, 100]) = false := by
  rw [two_at h, beq_eq_false_iff_ne]
  intro hh
  simp only [List.cons.injEq] at hh
  apply e
  rw [bt_at s j (by omega), bt_at s (j + 1) h, hh.1, hh.2.1]
  exact ⟨rfl, rfl⟩

set_option maxRecDepth 100000 in
set_option maxHeartbeats 800000 in
theorem peaksOf (s : ByteArray) (w : World) (hs : s.size ≤ 1099511627776) : Calls Tryz.prog 42 #[.string s] w fun e w' => e = .returned (.int .i64 (peaksP s)) ∧ w = w' := by
  rcases hd : dyck s with _ | _
  · have HP := Lib.hid (show peaksP s = -1 from if_neg (by simp [hd]))
    have HD := Lib.hid hd
    clear hd
    go_enter Tryz.func42, Tryz.ntmps42
    go_wp2_with fail
    (with_reducible refine (isDyck_no s _ hs HD.out).mono ?_)
    rintro e w' ⟨rfl, rfl⟩
    go_wp2
    go_ret
    exact ⟨ret_int HP.out.symm, rfl⟩
  · have HP := Lib.hid (show peaksP s = (pkN s (s.size - 1) : Int) from if_pos hd)
    have HD := Lib.hid hd
    have h16 := dyck_size hd
    clear hd
    go_enter Tryz.func42, Tryz.ntmps42
    go_wp2_with fail
    (with_reducible refine (isDyck_yes s _ hs HD.out).mono ?_)
    rintro e w' ⟨rfl, rfl⟩
    go_wp2
    go_loop [3, 4] (fun x y => ∃ j n : Nat, j ≤ s.size - 1 ∧ y = .int .i64 ((j : Int) + 1) ∧ x = .int .i64 n ∧ pkN s j = n) (fun _ y => 20 - (intOf y).toNat)
    case atStart => exact ⟨0, 0, Nat.zero_le _, rfl, rfl, rfl⟩
    case round =>
      obtain ⟨j, n, hj, rfl, rfl, hp⟩ := hrel
      have hle := pkN_le s j
      rw [hp] at hle
      have HPK := Lib.hid hp
      clear hp
      by_cases hlt : j + 1 < s.size
      · have hji : (j : Int) + 1 < (s.size : Int) := by omega
        have hsl : (Instr.slice 9 (.string s) (some (.int .i64 (j : Int))) (some (.int .i64 ((j : Int) + 1 + 1))) none).run Tryz.prog w = .ok (.string (s.extract j (j + 1 + 1))) w := by
          rw [run_slice_string w 9 s .i64 .i64 (j : Int) ((j : Int) + 1 + 1) Tryz.underlying9 (by omega) (by omega) (by omega)]
          congr 2
        by_cases e : bt s j = 117 ∧ bt s (j + 1) = 100
        · have b1 := two_ud hlt e
          have HE := Lib.hid e
          clear e
          go_wp2
          refine ⟨⟨j + 1, n + 1, by omega, by simp, by simp, ?_⟩, by simp [intOf]; omega⟩
          rw [pkN, HPK.out, if_pos HE.out]
        · have b1 := two_not hlt e
          have HE := Lib.hid e
          clear e
          go_wp2
          refine ⟨⟨j + 1, n, by omega, by simp, rfl, ?_⟩, by simp [intOf]; omega⟩
          rw [pkN, HPK.out, if_neg HE.out, Nat.add_zero]
      · have hji : ¬ (j : Int) + 1 < (s.size : Int) := by omega
        go_wp2
        go_ret
        refine ⟨ret_int ?_, rfl⟩
        rw [HP.out, show s.size - 1 = j by omega, HPK.out]

/-- The word backwards with u and d exchanged, of the letters behind place k. -/
def backL (s : ByteArray) : Nat → List UInt8
  | 0 => []
  | k + 1 => (if bt s (s.size - 1 - k) = 117 then 100 else 117) :: [] |> (backL s k ++ ·)
theorem backL_succ (s : ByteArray) (k : Nat) : backL s (k + 1) = backL s k ++ [if bt s (s.size - 1 - k) = 117 then 100 else 117] := rfl
theorem backL_len (s : ByteArray) (k : Nat) : (backL s k).length = k := by
  induction k with
  | zero => rfl
  | succ k ih => rw [backL_succ, List.length_append, ih]; rfl
def reverseP (s : ByteArray) : ByteArray := if dyck s = true then ⟨(backL s s.size).toArray⟩ else ⟨#[]⟩
theorem ret_sb {a b : ByteArray} {x y : Bool} (h : a = b) (h' : x = y) : Ending.returned (.tuple #[.string a, .bool x]) = .returned (.tuple #[.string b, .bool y]) := by rw [h, h']
theorem str_snoc (l : List UInt8) (c : UInt8) : (⟨l.toArray⟩ : ByteArray) ++ ⟨#[c]⟩ = ⟨(l ++ [c]).toArray⟩ := by
  have : (⟨#[c]⟩ : ByteArray) = ⟨[c].toArray⟩ := rfl
  rw [this, ByteArray.mk_append_mk]
theorem str_len (l : List UInt8) : (⟨l.toArray⟩ : ByteArray).size = l.length := by simp [ByteArray.size]

end Go.Proofs.YtpggglcjocnjlaaGreat
