/- The contracts of strings.Repeat at a word of one or two letters and few copies (written by tools/mkrepg.py). -/
import Derived.Test.YtbbbnnkkjgikbaaRep0
namespace Go.Proofs.Ytbbbnnkkjgikbaa
open Go.RowKit
set_option linter.unusedVariables false

/-- k copies of a word. -/
def repW (L : List UInt8) (k : Nat) : ByteArray := ⟨(Lib.repeatL L k).toArray⟩

set_option maxHeartbeats 1600000 in
set_option maxRecDepth 1000000 in
theorem repComb_two (c : Nat) (w : World) (hc2 : 2 ≤ c) (hc : c ≤ 8) :
    Calls Try.prog 77 #[.string ⟨#[40, 46]⟩, .int .i64 c] w fun e w' => e = .returned (.string ⟨(Lib.repeatL [40, 46] c).toArray⟩) ∧ Below w.heap.size w w' := by
  have hMul := Try.bits_Mul 2 c (by omega) (by omega) w
  rw [Nat.div_eq_of_lt (by omega : 2 * c < 18446744073709551616), Nat.mod_eq_of_lt (by omega : 2 * c < 18446744073709551616)] at hMul
  obtain ⟨n, hn⟩ : ∃ n, n = 2 * c := ⟨_, rfl⟩
  rw [← hn] at hMul
  have hn2 : 2 ≤ n := by omega
  have hn16 : n ≤ 16 := by omega
  have hcn : c ≤ n := by omega
  have HN := Lib.hid hn
  clear hn
  have e0 : ((c : Int) == 0) = false := beq_eq_false_iff_ne.2 (by omega)
  have e1 : ((c : Int) == 1) = false := beq_eq_false_iff_ne.2 (by omega)
  have t32 : ((((⟨#[40, 46]⟩ : ByteArray)[0]'(by decide)).toNat : Int) == 32) = false := by decide
  have t45 : ((((⟨#[40, 46]⟩ : ByteArray)[0]'(by decide)).toNat : Int) == 45) = false := by decide
  have t48 : ((((⟨#[40, 46]⟩ : ByteArray)[0]'(by decide)).toNat : Int) == 48) = false := by decide
  have t61 : ((((⟨#[40, 46]⟩ : ByteArray)[0]'(by decide)).toNat : Int) == 61) = false := by decide
  have t9 : ((((⟨#[40, 46]⟩ : ByteArray)[0]'(by decide)).toNat : Int) == 9) = false := by decide
  have HM := Lib.hid hMul
  clear hMul
  go_enter Try.func77, Try.ntmps77
  go_wp2_with (go_at_call 97; refine HM.out.mono ?_; rintro e w' ⟨rfl, hw⟩; rw [hw])
  have b0 : Below w.heap.size w (w.alloc (.cells #[.pointer none, .slice none 0 0] 96)) := (Below.refl _ w).alloc (Nat.le_refl _) _
  refine (Try.Builder_Grow_fresh w.heap.size w.heap.size n (w.alloc (.cells #[.pointer none, .slice none 0 0] 96)) (Nat.le_refl _) (heap_alloc_new w _) b0.size (by omega)).mono ?_
  rintro e W1 ⟨rfl, h1, b1⟩
  go_wp2_with fail
  refine (writeString w.heap.size w.heap.size [] ⟨#[40, 46]⟩ W1 (Lib.IsBuilderF.of (Or.inr h1)) (by decide) (Nat.le_trans b0.size b1.size)).mono ?_
  rintro e W2 ⟨rfl, h2, b2, -⟩
  have H2 := Lib.hid (show Lib.IsBuilderF 96 5 w.heap.size w.heap.size (Lib.byteCells (Lib.repeatL [40, 46] 1)) W2 by
    rw [List.nil_append, Lib.strCells_eq] at h2
    rw [Lib.repeatL_one]
    exact Or.inr h2)
  have HB := Lib.hid (show Below w.heap.size w W2 from b0.trans (b1.trans b2))
  clear h1 h2 b0 b1 b2
  go_wp2_with fail
  go_loopg [] (c - 1) (fun g wx => ∃ q : Nat, 1 ≤ q ∧ q + g = c ∧ Lib.IsBuilderF 96 5 w.heap.size w.heap.size (Lib.byteCells (Lib.repeatL [40, 46] q)) wx ∧ Below w.heap.size w wx)
  case atStart => exact ⟨1, Nat.le_refl _, by omega, H2.out, HB.out⟩
  case round =>
    obtain ⟨q, hq1, hqg, hB, hbx⟩ := hrel
    obtain ⟨m, hm⟩ : ∃ m, m = 2 * q := ⟨_, rfl⟩
    have hlq : (Lib.byteCells (Lib.repeatL [40, 46] q)).length = m := by rw [Lib.byteCells_length, Lib.repeatL_length]; simp; omega
    have cLen := Try.Builder_Len_f w.heap.size w.heap.size _ wr hB
    rw [hlq] at cLen
    have HLEN := Lib.hid cLen
    have HLQ := Lib.hid hlq
    obtain ⟨S, hS⟩ : ∃ S : ByteArray, (⟨(Lib.repeatL [40, 46] q).toArray⟩ : ByteArray) = S := ⟨_, rfl⟩
    have hSd : S.data.toList = Lib.repeatL [40, 46] q := by rw [← hS]
    have hSz : S.size = m := by rw [Lib.size_eq, hSd, Lib.repeatL_length]; simp; omega
    have cStr := Try.Builder_String_any_f w.heap.size w.heap.size (Lib.repeatL [40, 46] q) wr hB hbx.size
    rw [hS] at cStr
    have HSTR := Lib.hid cStr
    have HS := Lib.hid hS
    have HSD := Lib.hid hSd
    have HBX := Lib.hid hbx
    have hszx := hbx.size
    have hNN := HN.out
    have hmn : m ≤ n := by omega
    have hSm : m ≤ S.size := by omega
    have hSm2 : S.size ≤ m := by omega
    have HMQ := Lib.hid hm
    clear hS hSd cStr cLen hlq hB hbx hSz
    rcases Nat.eq_zero_or_pos gk with hg0 | hg0
    · obtain rfl : q = c := by omega
      obtain rfl : m = n := by omega
      have hqq : decide ((m : Int) < (m : Int)) = false := by simp
      clear hg0 hqg hNN hm
      go_wp2_with (first
        | (go_at_call 101; refine HLEN.out.mono ?_; rintro e w' ⟨rfl, hw⟩; rw [hw])
        | (go_at_call 102; refine HSTR.out.mono ?_; rintro e W3 ⟨rfl, h3, b3⟩))
      go_ret
      exact ⟨rep_str HS.out.symm, HBX.out.trans b3⟩
    · obtain ⟨k, hk1, hkq, hkc, hmin⟩ := Lib.chunk_ok c q c 2 hq1 (by omega) (by omega)
      have hqc : (m : Int) < (n : Int) := by omega
      obtain ⟨j, hj⟩ : ∃ j, j = k * 2 := ⟨_, rfl⟩
      have hmin3 : ∀ (ts : Array TypeId) (t : TypeId) (W : World), (Builtin.min_ ts t #[.int .i64 ((n : Int) - (m : Int)), .int .i64 (m : Int), .int .i64 (n : Int)]).run Try.prog W = .ok (.int .i64 (j : Int)) W := fun ts t W => by
        rw [run_min_int3]
        congr 2
        have : min (min (c * 2 - q * 2) (q * 2)) (c * 2) = k * 2 := hmin
        omega
      have hkS : (j : Int) ≤ (S.size : Int) := by omega
      have hjm : j ≤ m := by omega
      have HJ := Lib.hid hj
      clear hmin hNN hm hj
      go_wp2_with (first
        | (go_at_call 101; refine HLEN.out.mono ?_; rintro e w' ⟨rfl, hw⟩; rw [hw])
        | (go_at_call 102; refine HSTR.out.mono ?_; rintro e W3 ⟨rfl, h3, b3⟩))
      refine (writeString w.heap.size w.heap.size _ (S.extract 0 j) W3 h3 (by rw [HLQ.out, ByteArray.size_extract]; omega) (Nat.le_trans hszx b3.size)).mono ?_
      rintro e W4 ⟨rfl, h4, b4, -⟩
      have H4 := Lib.hid (show Lib.BuilderAtF 96 5 w.heap.size w.heap.size (.pointer (some ⟨w.heap.size, 0, none⟩)) (Lib.byteCells (Lib.repeatL [40, 46] (q + k))) W4 by
        have hst := Lib.step_ok [40, 46] q k hkq
        simp only [List.length_cons, List.length_nil, Nat.zero_add, Nat.reduceAdd] at hst
        rw [Lib.strCells_eq, ← Lib.byteCells_append, Lib.extract_data, HSD.out] at h4
        simp only [List.drop_zero, Nat.sub_zero] at h4
        rw [show j = k * 2 from HJ.out] at h4
        first | rw [hst] at h4 | (rw [Nat.mul_one, hst] at h4)
        exact h4)
      have HB4 := Lib.hid (b3.trans b4)
      clear h3 h4 b3 b4
      go_wp2_with fail
      go_roundg (c - (q + k))
      case measure => omega
      case rel => exact ⟨q + k, by omega, by omega, Or.inr H4.out, HBX.out.trans HB4.out⟩
theorem repComb (c : Nat) (w : World) (hc : c ≤ 8) : Calls Try.prog 77 #[.string ⟨#[40, 46]⟩, .int .i64 c] w fun e w' => e = .returned (.string (repW [40, 46] c)) ∧ Below w.heap.size w w' := by
  by_cases h0 : c = 0
  · subst h0; exact (repeat_zero _ w).mono fun _ _ h => ⟨h.1, h.2 ▸ Below.refl _ _⟩
  by_cases h1 : c = 1
  · subst h1; exact (repeat_one _ w).mono fun _ _ h => ⟨h.1, h.2 ▸ Below.refl _ _⟩
  exact repComb_two c w (by omega) hc

set_option maxHeartbeats 1600000 in
set_option maxRecDepth 1000000 in
theorem repClose_two (c : Nat) (w : World) (hc2 : 2 ≤ c) (hc : c ≤ 8) :
    Calls Try.prog 77 #[.string ⟨#[41]⟩, .int .i64 c] w fun e w' => e = .returned (.string ⟨(Lib.repeatL [41] c).toArray⟩) ∧ Below w.heap.size w w' := by
  have hMul := Try.bits_Mul 1 c (by omega) (by omega) w
  rw [Nat.div_eq_of_lt (by omega : 1 * c < 18446744073709551616), Nat.mod_eq_of_lt (by omega : 1 * c < 18446744073709551616)] at hMul
  obtain ⟨n, hn⟩ : ∃ n, n = 1 * c := ⟨_, rfl⟩
  rw [← hn] at hMul
  have hn2 : 2 ≤ n := by omega
  have hn16 : n ≤ 16 := by omega
  have hcn : c ≤ n := by omega
  have HN := Lib.hid hn
  clear hn
  have e0 : ((c : Int) == 0) = false := beq_eq_false_iff_ne.2 (by omega)
  have e1 : ((c : Int) == 1) = false := beq_eq_false_iff_ne.2 (by omega)
  have t32 : ((((⟨#[41]⟩ : ByteArray)[0]'(by decide)).toNat : Int) == 32) = false := by decide
  have t45 : ((((⟨#[41]⟩ : ByteArray)[0]'(by decide)).toNat : Int) == 45) = false := by decide
  have t48 : ((((⟨#[41]⟩ : ByteArray)[0]'(by decide)).toNat : Int) == 48) = false := by decide
  have t61 : ((((⟨#[41]⟩ : ByteArray)[0]'(by decide)).toNat : Int) == 61) = false := by decide
  have t9 : ((((⟨#[41]⟩ : ByteArray)[0]'(by decide)).toNat : Int) == 9) = false := by decide
  have HM := Lib.hid hMul
  clear hMul
  go_enter Try.func77, Try.ntmps77
  go_wp2_with (go_at_call 97; refine HM.out.mono ?_; rintro e w' ⟨rfl, hw⟩; rw [hw])
  have b0 : Below w.heap.size w (w.alloc (.cells #[.pointer none, .slice none 0 0] 96)) := (Below.refl _ w).alloc (Nat.le_refl _) _
  refine (Try.Builder_Grow_fresh w.heap.size w.heap.size n (w.alloc (.cells #[.pointer none, .slice none 0 0] 96)) (Nat.le_refl _) (heap_alloc_new w _) b0.size (by omega)).mono ?_
  rintro e W1 ⟨rfl, h1, b1⟩
  go_wp2_with fail
  refine (writeString w.heap.size w.heap.size [] ⟨#[41]⟩ W1 (Lib.IsBuilderF.of (Or.inr h1)) (by decide) (Nat.le_trans b0.size b1.size)).mono ?_
  rintro e W2 ⟨rfl, h2, b2, -⟩
  have H2 := Lib.hid (show Lib.IsBuilderF 96 5 w.heap.size w.heap.size (Lib.byteCells (Lib.repeatL [41] 1)) W2 by
    rw [List.nil_append, Lib.strCells_eq] at h2
    rw [Lib.repeatL_one]
    exact Or.inr h2)
  have HB := Lib.hid (show Below w.heap.size w W2 from b0.trans (b1.trans b2))
  clear h1 h2 b0 b1 b2
  go_wp2_with fail
  go_loopg [] (c - 1) (fun g wx => ∃ q : Nat, 1 ≤ q ∧ q + g = c ∧ Lib.IsBuilderF 96 5 w.heap.size w.heap.size (Lib.byteCells (Lib.repeatL [41] q)) wx ∧ Below w.heap.size w wx)
  case atStart => exact ⟨1, Nat.le_refl _, by omega, H2.out, HB.out⟩
  case round =>
    obtain ⟨q, hq1, hqg, hB, hbx⟩ := hrel
    obtain ⟨m, hm⟩ : ∃ m, m = 1 * q := ⟨_, rfl⟩
    have hlq : (Lib.byteCells (Lib.repeatL [41] q)).length = m := by rw [Lib.byteCells_length, Lib.repeatL_length]; simp; omega
    have cLen := Try.Builder_Len_f w.heap.size w.heap.size _ wr hB
    rw [hlq] at cLen
    have HLEN := Lib.hid cLen
    have HLQ := Lib.hid hlq
    obtain ⟨S, hS⟩ : ∃ S : ByteArray, (⟨(Lib.repeatL [41] q).toArray⟩ : ByteArray) = S := ⟨_, rfl⟩
    have hSd : S.data.toList = Lib.repeatL [41] q := by rw [← hS]
    have hSz : S.size = m := by rw [Lib.size_eq, hSd, Lib.repeatL_length]; simp; omega
    have cStr := Try.Builder_String_any_f w.heap.size w.heap.size (Lib.repeatL [41] q) wr hB hbx.size
    rw [hS] at cStr
    have HSTR := Lib.hid cStr
    have HS := Lib.hid hS
    have HSD := Lib.hid hSd
    have HBX := Lib.hid hbx
    have hszx := hbx.size
    have hNN := HN.out
    have hmn : m ≤ n := by omega
    have hSm : m ≤ S.size := by omega
    have hSm2 : S.size ≤ m := by omega
    have HMQ := Lib.hid hm
    clear hS hSd cStr cLen hlq hB hbx hSz
    rcases Nat.eq_zero_or_pos gk with hg0 | hg0
    · obtain rfl : q = c := by omega
      obtain rfl : m = n := by omega
      have hqq : decide ((m : Int) < (m : Int)) = false := by simp
      clear hg0 hqg hNN hm
      go_wp2_with (first
        | (go_at_call 101; refine HLEN.out.mono ?_; rintro e w' ⟨rfl, hw⟩; rw [hw])
        | (go_at_call 102; refine HSTR.out.mono ?_; rintro e W3 ⟨rfl, h3, b3⟩))
      go_ret
      exact ⟨rep_str HS.out.symm, HBX.out.trans b3⟩
    · obtain ⟨k, hk1, hkq, hkc, hmin⟩ := Lib.chunk_ok c q c 1 hq1 (by omega) (by omega)
      have hqc : (m : Int) < (n : Int) := by omega
      obtain ⟨j, hj⟩ : ∃ j, j = k * 1 := ⟨_, rfl⟩
      have hmin3 : ∀ (ts : Array TypeId) (t : TypeId) (W : World), (Builtin.min_ ts t #[.int .i64 ((n : Int) - (m : Int)), .int .i64 (m : Int), .int .i64 (n : Int)]).run Try.prog W = .ok (.int .i64 (j : Int)) W := fun ts t W => by
        rw [run_min_int3]
        congr 2
        have : min (min (c * 1 - q * 1) (q * 1)) (c * 1) = k * 1 := hmin
        omega
      have hkS : (j : Int) ≤ (S.size : Int) := by omega
      have hjm : j ≤ m := by omega
      have HJ := Lib.hid hj
      clear hmin hNN hm hj
      go_wp2_with (first
        | (go_at_call 101; refine HLEN.out.mono ?_; rintro e w' ⟨rfl, hw⟩; rw [hw])
        | (go_at_call 102; refine HSTR.out.mono ?_; rintro e W3 ⟨rfl, h3, b3⟩))
      refine (writeString w.heap.size w.heap.size _ (S.extract 0 j) W3 h3 (by rw [HLQ.out, ByteArray.size_extract]; omega) (Nat.le_trans hszx b3.size)).mono ?_
      rintro e W4 ⟨rfl, h4, b4, -⟩
      have H4 := Lib.hid (show Lib.BuilderAtF 96 5 w.heap.size w.heap.size (.pointer (some ⟨w.heap.size, 0, none⟩)) (Lib.byteCells (Lib.repeatL [41] (q + k))) W4 by
        have hst := Lib.step_ok [41] q k hkq
        simp only [List.length_cons, List.length_nil, Nat.zero_add, Nat.mul_one] at hst
        rw [Lib.strCells_eq, ← Lib.byteCells_append, Lib.extract_data, HSD.out] at h4
        simp only [List.drop_zero, Nat.sub_zero] at h4
        rw [show j = k * 1 from HJ.out] at h4
        first | rw [hst] at h4 | (rw [Nat.mul_one, hst] at h4)
        exact h4)
      have HB4 := Lib.hid (b3.trans b4)
      clear h3 h4 b3 b4
      go_wp2_with fail
      go_roundg (c - (q + k))
      case measure => omega
      case rel => exact ⟨q + k, by omega, by omega, Or.inr H4.out, HBX.out.trans HB4.out⟩
theorem repClose (c : Nat) (w : World) (hc : c ≤ 8) : Calls Try.prog 77 #[.string ⟨#[41]⟩, .int .i64 c] w fun e w' => e = .returned (.string (repW [41] c)) ∧ Below w.heap.size w w' := by
  by_cases h0 : c = 0
  · subst h0; exact (repeat_zero _ w).mono fun _ _ h => ⟨h.1, h.2 ▸ Below.refl _ _⟩
  by_cases h1 : c = 1
  · subst h1; exact (repeat_one _ w).mono fun _ _ h => ⟨h.1, h.2 ▸ Below.refl _ _⟩
  exact repClose_two c w (by omega) hc

end Go.Proofs.Ytbbbnnkkjgikbaa
