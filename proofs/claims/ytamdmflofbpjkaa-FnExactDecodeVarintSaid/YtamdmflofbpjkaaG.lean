/- The contracts of both EncodeFixed: on a valid width and a number that fits both give its bytes, most significant first, else the empty string. -/
import Derived.Test.YtamdmflofbpjkaaF
namespace Go.Proofs.Ytamdmflofbpjkaa
open Go.ChangeShapes Go.WideShapes Go.ChangeAt Go.RowKit
set_option linter.unusedVariables false

/-- The last k bytes of n, most significant first. -/
def be : Nat → Nat → List Int
  | 0, _ => []
  | k + 1, n => ((n / 256 ^ k % 256 : Nat) : Int) :: be k n
theorem be_len (k n : Nat) : (be k n).length = k := by induction k with
  | zero => rfl
  | succ k ih => simp [be, ih]

theorem conv1 (w : World) (y : Int) : (convert 36 9 (.slice (some ⟨w.heap.size, 0, none⟩) 1 1)).run Try.prog (w.alloc (.cells #[.int .u8 y] 5)) = .ok (.string (strOfNums [y])) (w.alloc (.cells #[.int .u8 y] 5)) := by
  refine run_convert_bytes_arg _ 36 5 Try.underlying36 Try.underlying5 w.heap.size 0 1 1 [y] rfl (fun i hi => ?_) 9 Try.underlying9
  obtain rfl : i = 0 := by omega
  exact cell_new1 w _ _
theorem str_cons (y : Int) (l : List Int) : strOfNums [y] ++ strOfNums l = strOfNums (y :: l) := by
  unfold strOfNums
  rw [ByteArray.mk_append_mk]
  simp

def efS (n k : Nat) : ByteArray := if n / 256 ^ k = 0 then strOfNums (be k n) else ⟨#[]⟩
theorem efS_yes {n k : Nat} (h : n / 256 ^ k = 0) : efS n k = strOfNums (be k n) := if_pos h
theorem efS_no {n k : Nat} (h : ¬ n / 256 ^ k = 0) : efS n k = ⟨#[]⟩ := if_neg h
theorem be_succ (j n m : Nat) (h : n / 256 ^ j = m) : be (j + 1) n = ((m % 256 : Nat) : Int) :: be j n := by rw [be, h]

set_option maxRecDepth 100000 in
set_option maxHeartbeats 800000 in
theorem specEF (n k : Nat) (w : World) (h1 : 1 ≤ k) (h7 : k ≤ 7) (hn : n ≤ 9223372036854775807) :
    Calls Try.prog 9 #[.int .i64 n, .int .i64 k] w fun e w' => e = .returned (.string (efS n k)) ∧ Below w.heap.size w w' := by
  go_enter Try.func9, Try.ntmps9
  go_wp2_with (go_at_call 21; refine (l1In_yes _ _ _ _ (by omega) (by omega)).mono ?_; rintro e w' ⟨rfl, rfl⟩)
  go_loopw [0, 5, 6] (fun x o i wr => ∃ (j : Nat), x = .int .i64 ((n / 256 ^ j : Nat) : Int) ∧ j ≤ k ∧ i = .int .i64 j ∧ o = .string (strOfNums (be j n)) ∧ Below w.heap.size w wr)
    (fun _ _ i _ => k - (intOf i).toNat)
  case atStart => exact ⟨0, by simp, by omega, rfl, rfl, Below.refl _ _⟩
  case round =>
    obtain ⟨j, rfl, hj, rfl, rfl, hb⟩ := hrel
    obtain ⟨m, HM, hm, hm2⟩ : ∃ m, Hid (n / 256 ^ j = m) ∧ ((n / 256 ^ j : Nat) : Int) = m ∧ m ≤ 9223372036854775807 := ⟨_, rfl, rfl, Nat.le_trans (Nat.div_le_self _ _) hn⟩
    rw [hm]
    clear hm
    by_cases hlt : j < k
    · have hconv := fun y => conv1 wr y
      have hs1 : ∀ y : Int, (strOfNums [y]).size = 1 := fun y => strOfNums_size [y]
      have hs2 : (strOfNums (be j n)).size = j := by rw [strOfNums_size, be_len]
      go_wp2
      refine ⟨⟨j + 1, ?_, by omega, by go_num, ?_, hb.alloc hb.size _⟩, by simp [intOf]; omega⟩
      · rw [Nat.pow_succ, ← Nat.div_div_eq_div_mul, HM.out]; simp
      · rw [str_cons, be_succ j n m HM.out]; simp
    · obtain rfl : j = k := by omega
      by_cases hm0 : m = 0
      · have HZ := Lib.hid hm0
        have hm1 : ¬ 0 < m := by omega
        clear hm0
        go_wp2
        go_ret
        exact ⟨ret_str (efS_yes (HM.out.trans HZ.out)).symm, hb⟩
      · have hm1 : 0 < m := by omega
        go_wp2
        go_ret
        exact ⟨ret_str (efS_no (by rw [HM.out]; exact hm0)).symm, hb⟩
theorem be_range (n : Nat) : ∀ k, (List.range k).map (fun i => ((n / 256 ^ (k - 1 - i) % 256 : Nat) : Int)) = be k n := by
  intro k
  induction k with
  | zero => rfl
  | succ k ih =>
    rw [List.range_succ_eq_map, List.map_cons, List.map_map, be, ← ih]
    simp only [Nat.add_sub_cancel, Nat.sub_zero, List.cons.injEq, true_and]
    refine List.map_congr_left fun i hi => ?_
    simp only [Function.comp]
    rw [show k - (i + 1) = k - 1 - i by omega]
/-- Byte i of the row behind j rounds. -/
def rowF (n k j i : Nat) : Int := if k ≤ i + j then ((n / 256 ^ (k - 1 - i) % 256 : Nat) : Int) else 0
theorem rowF_far {n k j q i : Nat} (h : q + j + 1 = k) (hi : i ≠ q) : rowF n k (j + 1) i = rowF n k j i := by
  unfold rowF
  by_cases h1 : k ≤ i + j
  · rw [if_pos h1, if_pos (by omega)]
  · rw [if_neg h1, if_neg (by omega)]
theorem rowF_at {n k j q m : Nat} (h : q + j + 1 = k) (hm : n / 256 ^ j = m) : rowF n k (j + 1) q = ((m % 256 : Nat) : Int) := by
  unfold rowF
  rw [if_pos (by omega), show k - 1 - q = j by omega, hm]
theorem rowF_all (n k : Nat) : (List.range k).map (rowF n k k) = be k n := by
  rw [← be_range]
  refine List.map_congr_left fun i hi => ?_
  unfold rowF
  rw [if_pos (by omega)]
theorem pow_byte (k : Nat) (h1 : 1 ≤ k) (h7 : k ≤ 7) : ∃ P : Nat, wrap64 ((2 : Int) ^ (8 * k)) = (P : Int) ∧ Hid (P = 256 ^ k) := by
  rcases (show k = 1 ∨ k = 2 ∨ k = 3 ∨ k = 4 ∨ k = 5 ∨ k = 6 ∨ k = 7 by omega) with rfl | rfl | rfl | rfl | rfl | rfl | rfl
  · exact ⟨256, by unfold wrap64; decide, rfl⟩
  · exact ⟨65536, by unfold wrap64; decide, rfl⟩
  · exact ⟨16777216, by unfold wrap64; decide, rfl⟩
  · exact ⟨4294967296, by unfold wrap64; decide, rfl⟩
  · exact ⟨1099511627776, by unfold wrap64; decide, rfl⟩
  · exact ⟨281474976710656, by unfold wrap64; decide, rfl⟩
  · exact ⟨72057594037927936, by unfold wrap64; decide, rfl⟩

set_option maxRecDepth 100000 in
set_option maxHeartbeats 800000 in
theorem implEF (n k : Nat) (w : World) (h1 : 1 ≤ k) (h7 : k ≤ 7) (hn : n ≤ 9223372036854775807) :
    Calls Try.prog 10 #[.int .i64 n, .int .i64 k] w fun e w' => e = .returned (.string (efS n k)) ∧ Below w.heap.size w w' := by
  obtain ⟨i0, hi, hz0, hz1, hz2⟩ := info_parts info5
  obtain ⟨P, hP, HP⟩ := pow_byte k h1 h7
  by_cases hlt : n < P
  · have hn0 : 0 ≤ (n : Int) := by omega
    have hd1 : decide ((n : Int) < 0) = false := by simp
    have hd2 : decide ((P : Int) ≤ (n : Int)) = false := by simp; omega
    have HE := Lib.hid (show n / 256 ^ k = 0 by rw [← HP.out]; exact Nat.div_eq_of_lt hlt)
    go_enter Try.func10, Try.ntmps10
    go_wp2_with (first
      | (go_at_call 22; refine (fw_yes _ _ (by omega) (by omega)).mono ?_; rintro e w' ⟨rfl, rfl⟩)
      | (at_make; go_must (refine wpList_make_full _ rfl _ _ 36 rfl w.heap.size 5 i0 (.int .u8 0) 1 Try.underlying36 hi hz0 hz1 .i64 .i64 (k : Int) (k : Int) k rfl rfl rfl rfl (by rw [hz2]; omega) (by unfold maxLen; omega) (Nat.le_refl _) ?_); rotate_right; intro w1 hown hgrow))
    have hb1 : Below w.heap.size w w1 := (Below.refl _ _).grown hgrow (Nat.le_refl _) (fun j hj => by cases hj)
    have hrow := RowOf.made hown
    clear hown hgrow
    go_loopw [0, 6] (fun x i wr => ∃ (j : Nat) (y : Int), x = .int .i64 ((n / 256 ^ j : Nat) : Int) ∧ j ≤ k ∧ y + j + 1 = k ∧ i = .int .i64 y ∧ RowOf wr w.heap.size k (rowF n k j) ∧ Below w.heap.size w wr)
      (fun _ i _ => (intOf i + 1).toNat)
    case atStart =>
      refine ⟨0, (k : Int) - 1, by simp, by omega, by omega, by simp, ?_, hb1⟩
      obtain ⟨C, c1, c2, c3⟩ := hrow
      exact ⟨C, c1, c2, fun j hj => by rw [c3 j hj]; unfold rowF; rw [if_neg (by omega)]⟩
    case round =>
      obtain ⟨j, y, rfl, hj, hy, rfl, hr, hb⟩ := hrel
      obtain ⟨m, HM, hm, hm2⟩ : ∃ m, Hid (n / 256 ^ j = m) ∧ ((n / 256 ^ j : Nat) : Int) = m ∧ m ≤ 9223372036854775807 := ⟨_, rfl, rfl, Nat.le_trans (Nat.div_le_self _ _) hn⟩
      rw [hm]
      clear hm
      by_cases hjk : j < k
      · obtain ⟨q, hq, hqk⟩ : ∃ q : Nat, y = q ∧ Hid (q + j + 1 = k) := ⟨y.toNat, by omega, show _ = _ by omega⟩
        subst hq
        have hqlt : q < k := by have := hqk.out; omega
        have hfree := hr.free q
        have hcell := hr.cell hqlt
        clear hy
        go_wp2
        refine ⟨⟨j + 1, (q : Int) - 1, ?_, by omega, by have := hqk.out; omega, rfl, ?_, hb.setCell (Nat.le_refl _) _⟩, by simp [intOf]⟩
        · rw [Nat.pow_succ, ← Nat.div_div_eq_div_mul, HM.out]; simp
        · exact hr.set q _ _ (by rw [rowF_at hqk.out HM.out]; simp) (fun i hi => rowF_far hqk.out hi)
      · obtain rfl : j = k := by omega
        obtain rfl : y = -1 := by omega
        have hconv := hr.conv
        clear hy
        go_wp2
        go_ret
        exact ⟨ret_str (by rw [rowF_all, efS_yes HE.out]), hb⟩
  · have hge : (P : Int) ≤ (n : Int) := by omega
    have hd1 : decide ((n : Int) < 0) = false := by simp
    have HE := Lib.hid (show ¬ n / 256 ^ k = 0 by rw [← HP.out, Nat.div_eq_zero_iff]; have := HP.out; have : 0 < 256 ^ k := Nat.pow_pos (by omega); omega)
    go_enter Try.func10, Try.ntmps10
    go_wp2_with (go_at_call 22; refine (fw_yes _ _ (by omega) (by omega)).mono ?_; rintro e w' ⟨rfl, rfl⟩)
    go_ret
    exact ⟨ret_str (efS_no HE.out).symm, Below.refl _ _⟩

theorem specEF_no (n k : Int) (w : World) (h : k < 1 ∨ 7 < k ∨ n < 0) :
    Calls Try.prog 9 #[.int .i64 n, .int .i64 k] w fun e w' => e = .returned (.string ⟨#[]⟩) ∧ Below w.heap.size w w' := by
  by_cases ha : k < 1
  · clear h
    go_enter Try.func9, Try.ntmps9
    go_wp2_with (go_at_call 21; refine (l1In_no1 _ _ _ _ ha).mono ?_; rintro e w' ⟨rfl, rfl⟩)
    go_ret
    exact ⟨rfl, Below.refl _ _⟩
  · by_cases hb : 7 < k
    · have ha' : 1 ≤ k := by omega
      clear h
      go_enter Try.func9, Try.ntmps9
      go_wp2_with (go_at_call 21; refine (l1In_no2 _ _ _ _ ha' hb).mono ?_; rintro e w' ⟨rfl, rfl⟩)
      go_ret
      exact ⟨rfl, Below.refl _ _⟩
    · have hc : n < 0 := by omega
      have ha' : 1 ≤ k := by omega
      have hb' : k ≤ 7 := by omega
      clear h
      go_enter Try.func9, Try.ntmps9
      go_wp2_with (go_at_call 21; refine (l1In_yes _ _ _ _ ha' hb').mono ?_; rintro e w' ⟨rfl, rfl⟩)
      go_ret
      exact ⟨rfl, Below.refl _ _⟩
theorem implEF_no (n k : Int) (w : World) (h : k < 1 ∨ 7 < k ∨ n < 0) :
    Calls Try.prog 10 #[.int .i64 n, .int .i64 k] w fun e w' => e = .returned (.string ⟨#[]⟩) ∧ Below w.heap.size w w' := by
  by_cases ha : k < 1 ∨ 7 < k
  · clear h
    go_enter Try.func10, Try.ntmps10
    go_wp2_with (go_at_call 22; refine (fw_no _ _ ha).mono ?_; rintro e w' ⟨rfl, rfl⟩)
    go_ret
    exact ⟨rfl, Below.refl _ _⟩
  · have hc : n < 0 := by omega
    have ha' : 1 ≤ k := by omega
    have hb' : k ≤ 7 := by omega
    clear h
    go_enter Try.func10, Try.ntmps10
    go_wp2_with (go_at_call 22; refine (fw_yes _ _ ha' hb').mono ?_; rintro e w' ⟨rfl, rfl⟩)
    go_ret
    exact ⟨rfl, Below.refl _ _⟩

end Go.Proofs.Ytamdmflofbpjkaa
