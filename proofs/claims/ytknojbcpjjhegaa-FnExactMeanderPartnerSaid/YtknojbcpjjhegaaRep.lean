/- The contracts of WriteString of strings.Builder and of strings.Repeat at one letter and few copies, walked along the library's own text. -/
import Derived.Test.YtknojbcpjjhegaaBld
import Derived.Test.YtknojbcpjjhegaaShelfB
import Derived.Lib.RepeatB
import Derived.Deep.LoopGhost
import Derived.Laws.Cover1
import Derived.Lib.Hide
namespace Go.Proofs.Ytknojbcpjjhegaa
open Go.RowKit
set_option linter.unusedVariables false

theorem rep_str {a b : ByteArray} (h : a = b) : Ending.returned (.string a) = .returned (.string b) := by rw [h]
set_option maxHeartbeats 2000000 in
set_option maxRecDepth 100000 in
theorem writeString (B b : Nat) (bs : List Value) (s : ByteArray) (w : World) (h : Lib.IsBuilderF 95 5 B b bs w) (hlen : bs.length + s.size ≤ 140737488355328) (hBw : B ≤ w.heap.size) :
    Calls Try.prog 140 #[.pointer (some ⟨b, 0, none⟩), .string s] w fun e w' => e = .returned (.tuple #[.int .i64 s.size, .nilIface]) ∧ (Lib.BuilderAtF 95 5 B b (.pointer (some ⟨b, 0, none⟩)) (bs ++ Lib.strCells s) w' ∧ Below B w w' ∧ Lib.OthersKept 5 (some b) w w') := by
  obtain ⟨i0, hi, hz0, hz1, hz2⟩ := info_parts bld_byte
  go_enter Try.func140, Try.ntmps140
  go_wp2_with (go_at_call 100; refine (copyCheck B b bs _ h).mono ?_)
  rintro e w1 ⟨rfl, h1, hb1, hk1⟩
  obtain ⟨hB, v, hbk, hown, hne⟩ := h1
  have c0 : w1.cell? ⟨b, 0, none⟩ = some (.pointer (some ⟨b, 0, none⟩)) := by rw [Lib.cell_of_heap hbk]; rfl
  have c1 : w1.cell? ⟨b, 1, none⟩ = some v := by rw [Lib.cell_of_heap hbk]; rfl
  go_wp2_with (at_builtin; refine Lib.wpList_append_own_stringF _ rfl _ _ 22 9 rfl B 5 i0 Try.underlying22 Try.underlying9 hi hz0 hz1 hz2 _ _ _ rfl hown s rfl ?c3 ?c4 ?c5 ?_)
  case c3 => unfold maxLen; omega
  case c4 => omega
  case c5 => have := hb1.size; omega
  intro v' w2 hown' hgrow _
  have hlt : b < w1.heap.size := by
    rcases Nat.lt_or_ge b w1.heap.size with h' | h'
    · exact h'
    · simp [Array.getElem?_eq_none h'] at hbk
  have hb2 : w2.heap[b]? = some (.cells #[.pointer (some ⟨b, 0, none⟩), v] 95 (0, 0)) := by
    rw [hgrow.block b hlt (fun e => hne e.symm)]
    exact hbk
  have d0 : w2.cell? ⟨b, 0, none⟩ = some (.pointer (some ⟨b, 0, none⟩)) := by rw [Lib.cell_of_heap hb2]; rfl
  have d1 : w2.cell? ⟨b, 1, none⟩ = some v := by rw [Lib.cell_of_heap hb2]; rfl
  have f1 : w2.frozen? ⟨b, 1, none⟩ = false := Lib.frozen_of_heap hb2 1
  obtain ⟨ao, n', cap, rfl⟩ : ∃ ao n' cap, v' = .slice ao n' cap := by
    rcases hown'.2 with ⟨hv, _⟩ | ⟨g, cap, cur, fz, hv, _⟩
    · exact ⟨_, _, _, hv⟩
    · exact ⟨_, _, _, hv⟩
  go_wp2
  go_ret2
  refine ⟨rfl, ?_, ?_, (hk1.grown hgrow (Lib.ownsRowF_kind hown)).setCell ⟨b, 1, none⟩ rfl _⟩
  · exact Lib.BuilderAtF.put (T := 95) (e := 5) hB hb2 (bs' := bs ++ Lib.strCells s) (by simpa [Lib.strCells_length] using hown') (by decide)
  · exact (hb1.grown hgrow (by have := hb1.size; omega) (fun k hk => (hown.lt k hk).1)).setCell (p := ⟨b, 1, none⟩) hB _


set_option maxHeartbeats 1600000 in
set_option maxRecDepth 1000000 in
theorem repeatU (c : Nat) (w : World) (hc2 : 2 ≤ c) (hc : c ≤ 8) :
    Calls Try.prog 135 #[.string ⟨#[117]⟩, .int .i64 c] w fun e w' => e = .returned (.string ⟨(Lib.repeatL [117] c).toArray⟩) ∧ Below w.heap.size w w' := by
  have hMul := Try.bits_Mul 1 c (by omega) (by omega) w
  rw [Nat.one_mul, Nat.div_eq_of_lt (by omega : c < 18446744073709551616), Nat.mod_eq_of_lt (by omega : c < 18446744073709551616)] at hMul
  have e0 : ((c : Int) == 0) = false := beq_eq_false_iff_ne.2 (by omega)
  have e1 : ((c : Int) == 1) = false := beq_eq_false_iff_ne.2 (by omega)
  have t32 : ((((⟨#[117]⟩ : ByteArray)[0]'(by decide)).toNat : Int) == 32) = false := by decide
  have t45 : ((((⟨#[117]⟩ : ByteArray)[0]'(by decide)).toNat : Int) == 45) = false := by decide
  have t48 : ((((⟨#[117]⟩ : ByteArray)[0]'(by decide)).toNat : Int) == 48) = false := by decide
  have t61 : ((((⟨#[117]⟩ : ByteArray)[0]'(by decide)).toNat : Int) == 61) = false := by decide
  have t9 : ((((⟨#[117]⟩ : ByteArray)[0]'(by decide)).toNat : Int) == 9) = false := by decide
  have HM := Lib.hid hMul
  clear hMul
  go_enter Try.func135, Try.ntmps135
  go_wp2_with (go_at_call 137; refine HM.out.mono ?_; rintro e w' ⟨rfl, hw⟩; rw [hw])
  have b0 : Below w.heap.size w (w.alloc (.cells #[.pointer none, .slice none 0 0] 95)) := (Below.refl _ w).alloc (Nat.le_refl _) _
  refine (Try.Builder_Grow_fresh w.heap.size w.heap.size c (w.alloc (.cells #[.pointer none, .slice none 0 0] 95)) (Nat.le_refl _) (heap_alloc_new w _) b0.size (by omega)).mono ?_
  rintro e W1 ⟨rfl, h1, b1⟩
  go_wp2_with fail
  refine (writeString w.heap.size w.heap.size [] ⟨#[117]⟩ W1 (Lib.IsBuilderF.of (Or.inr h1)) (by decide) (Nat.le_trans b0.size b1.size)).mono ?_
  rintro e W2 ⟨rfl, h2, b2, -⟩
  have H2 := Lib.hid (show Lib.IsBuilderF 95 5 w.heap.size w.heap.size (Lib.byteCells (Lib.repeatL [117] 1)) W2 by
    rw [List.nil_append, Lib.strCells_eq] at h2
    rw [Lib.repeatL_one]
    exact Or.inr h2)
  have HB := Lib.hid (show Below w.heap.size w W2 from b0.trans (b1.trans b2))
  clear h1 h2 b0 b1 b2
  go_wp2_with fail
  go_loopg [] (c - 1) (fun g wx => ∃ q : Nat, 1 ≤ q ∧ q + g = c ∧ Lib.IsBuilderF 95 5 w.heap.size w.heap.size (Lib.byteCells (Lib.repeatL [117] q)) wx ∧ Below w.heap.size w wx)
  case atStart => exact ⟨1, Nat.le_refl _, by omega, H2.out, HB.out⟩
  case round =>
    obtain ⟨q, hq1, hqg, hB, hbx⟩ := hrel
    have hlq : (Lib.byteCells (Lib.repeatL [117] q)).length = q := by rw [Lib.byteCells_length, Lib.repeatL_length]; simp
    have cLen := Try.Builder_Len_f w.heap.size w.heap.size _ wr hB
    rw [hlq] at cLen
    have HLEN := Lib.hid cLen
    have HLQ := Lib.hid hlq
    obtain ⟨S, hS⟩ : ∃ S : ByteArray, (⟨(Lib.repeatL [117] q).toArray⟩ : ByteArray) = S := ⟨_, rfl⟩
    have hSd : S.data.toList = Lib.repeatL [117] q := by rw [← hS]
    have hSz : S.size = q := by rw [Lib.size_eq, hSd, Lib.repeatL_length]; simp
    have cStr := Try.Builder_String_any_f w.heap.size w.heap.size (Lib.repeatL [117] q) wr hB hbx.size
    rw [hS] at cStr
    have HSTR := Lib.hid cStr
    have HS := Lib.hid hS
    have HSD := Lib.hid hSd
    have HBX := Lib.hid hbx
    have hszx := hbx.size
    clear hS hSd cStr cLen hlq hB hbx
    rcases Nat.eq_zero_or_pos gk with hg0 | hg0
    · obtain rfl : q = c := by omega
      have hqq : decide ((q : Int) < (q : Int)) = false := by simp
      clear hg0 hqg
      go_wp2_with (first
        | (go_at_call 141; refine HLEN.out.mono ?_; rintro e w' ⟨rfl, hw⟩; rw [hw])
        | (go_at_call 83; refine HSTR.out.mono ?_; rintro e W3 ⟨rfl, h3, b3⟩))
      go_ret
      exact ⟨rep_str HS.out.symm, HBX.out.trans b3⟩
    · obtain ⟨k, hk1, hkq, hkc, hmin⟩ := Lib.chunk_ok c q c 1 hq1 (by omega) (by omega)
      have hqc : (q : Int) < (c : Int) := by omega
      have hmin3 : ∀ (ts : Array TypeId) (t : TypeId) (W : World), (Builtin.min_ ts t #[.int .i64 ((c : Int) - (q : Int)), .int .i64 (q : Int), .int .i64 (c : Int)]).run Try.prog W = .ok (.int .i64 (k : Int)) W := fun ts t W => by
        rw [run_min_int3]
        congr 2
        have : min (min (c * 1 - q * 1) (q * 1)) (c * 1) = k * 1 := hmin
        omega
      have hkS : (k : Int) ≤ (S.size : Int) := by omega
      clear hmin
      go_wp2_with (first
        | (go_at_call 141; refine HLEN.out.mono ?_; rintro e w' ⟨rfl, hw⟩; rw [hw])
        | (go_at_call 83; refine HSTR.out.mono ?_; rintro e W3 ⟨rfl, h3, b3⟩))
      refine (writeString w.heap.size w.heap.size _ (S.extract 0 k) W3 h3 (by rw [HLQ.out, ByteArray.size_extract]; omega) (Nat.le_trans hszx b3.size)).mono ?_
      rintro e W4 ⟨rfl, h4, b4, -⟩
      have H4 := Lib.hid (show Lib.BuilderAtF 95 5 w.heap.size w.heap.size (.pointer (some ⟨w.heap.size, 0, none⟩)) (Lib.byteCells (Lib.repeatL [117] (q + k))) W4 by
        have hst := Lib.step_ok [117] q k hkq
        simp only [List.length_cons, List.length_nil, Nat.zero_add, Nat.mul_one] at hst
        rw [Lib.strCells_eq, ← Lib.byteCells_append, Lib.extract_data, HSD.out] at h4
        simp only [List.drop_zero, Nat.sub_zero] at h4
        rw [hst] at h4
        exact h4)
      have HB4 := Lib.hid (b3.trans b4)
      clear h3 h4 b3 b4
      go_wp2_with fail
      go_roundg (c - (q + k))
      case measure => omega
      case rel => exact ⟨q + k, by omega, by omega, Or.inr H4.out, HBX.out.trans HB4.out⟩


set_option maxHeartbeats 1600000 in
set_option maxRecDepth 1000000 in
theorem repeatD (c : Nat) (w : World) (hc2 : 2 ≤ c) (hc : c ≤ 8) :
    Calls Try.prog 135 #[.string ⟨#[100]⟩, .int .i64 c] w fun e w' => e = .returned (.string ⟨(Lib.repeatL [100] c).toArray⟩) ∧ Below w.heap.size w w' := by
  have hMul := Try.bits_Mul 1 c (by omega) (by omega) w
  rw [Nat.one_mul, Nat.div_eq_of_lt (by omega : c < 18446744073709551616), Nat.mod_eq_of_lt (by omega : c < 18446744073709551616)] at hMul
  have e0 : ((c : Int) == 0) = false := beq_eq_false_iff_ne.2 (by omega)
  have e1 : ((c : Int) == 1) = false := beq_eq_false_iff_ne.2 (by omega)
  have t32 : ((((⟨#[100]⟩ : ByteArray)[0]'(by decide)).toNat : Int) == 32) = false := by decide
  have t45 : ((((⟨#[100]⟩ : ByteArray)[0]'(by decide)).toNat : Int) == 45) = false := by decide
  have t48 : ((((⟨#[100]⟩ : ByteArray)[0]'(by decide)).toNat : Int) == 48) = false := by decide
  have t61 : ((((⟨#[100]⟩ : ByteArray)[0]'(by decide)).toNat : Int) == 61) = false := by decide
  have t9 : ((((⟨#[100]⟩ : ByteArray)[0]'(by decide)).toNat : Int) == 9) = false := by decide
  have HM := Lib.hid hMul
  clear hMul
  go_enter Try.func135, Try.ntmps135
  go_wp2_with (go_at_call 137; refine HM.out.mono ?_; rintro e w' ⟨rfl, hw⟩; rw [hw])
  have b0 : Below w.heap.size w (w.alloc (.cells #[.pointer none, .slice none 0 0] 95)) := (Below.refl _ w).alloc (Nat.le_refl _) _
  refine (Try.Builder_Grow_fresh w.heap.size w.heap.size c (w.alloc (.cells #[.pointer none, .slice none 0 0] 95)) (Nat.le_refl _) (heap_alloc_new w _) b0.size (by omega)).mono ?_
  rintro e W1 ⟨rfl, h1, b1⟩
  go_wp2_with fail
  refine (writeString w.heap.size w.heap.size [] ⟨#[100]⟩ W1 (Lib.IsBuilderF.of (Or.inr h1)) (by decide) (Nat.le_trans b0.size b1.size)).mono ?_
  rintro e W2 ⟨rfl, h2, b2, -⟩
  have H2 := Lib.hid (show Lib.IsBuilderF 95 5 w.heap.size w.heap.size (Lib.byteCells (Lib.repeatL [100] 1)) W2 by
    rw [List.nil_append, Lib.strCells_eq] at h2
    rw [Lib.repeatL_one]
    exact Or.inr h2)
  have HB := Lib.hid (show Below w.heap.size w W2 from b0.trans (b1.trans b2))
  clear h1 h2 b0 b1 b2
  go_wp2_with fail
  go_loopg [] (c - 1) (fun g wx => ∃ q : Nat, 1 ≤ q ∧ q + g = c ∧ Lib.IsBuilderF 95 5 w.heap.size w.heap.size (Lib.byteCells (Lib.repeatL [100] q)) wx ∧ Below w.heap.size w wx)
  case atStart => exact ⟨1, Nat.le_refl _, by omega, H2.out, HB.out⟩
  case round =>
    obtain ⟨q, hq1, hqg, hB, hbx⟩ := hrel
    have hlq : (Lib.byteCells (Lib.repeatL [100] q)).length = q := by rw [Lib.byteCells_length, Lib.repeatL_length]; simp
    have cLen := Try.Builder_Len_f w.heap.size w.heap.size _ wr hB
    rw [hlq] at cLen
    have HLEN := Lib.hid cLen
    have HLQ := Lib.hid hlq
    obtain ⟨S, hS⟩ : ∃ S : ByteArray, (⟨(Lib.repeatL [100] q).toArray⟩ : ByteArray) = S := ⟨_, rfl⟩
    have hSd : S.data.toList = Lib.repeatL [100] q := by rw [← hS]
    have hSz : S.size = q := by rw [Lib.size_eq, hSd, Lib.repeatL_length]; simp
    have cStr := Try.Builder_String_any_f w.heap.size w.heap.size (Lib.repeatL [100] q) wr hB hbx.size
    rw [hS] at cStr
    have HSTR := Lib.hid cStr
    have HS := Lib.hid hS
    have HSD := Lib.hid hSd
    have HBX := Lib.hid hbx
    have hszx := hbx.size
    clear hS hSd cStr cLen hlq hB hbx
    rcases Nat.eq_zero_or_pos gk with hg0 | hg0
    · obtain rfl : q = c := by omega
      have hqq : decide ((q : Int) < (q : Int)) = false := by simp
      clear hg0 hqg
      go_wp2_with (first
        | (go_at_call 141; refine HLEN.out.mono ?_; rintro e w' ⟨rfl, hw⟩; rw [hw])
        | (go_at_call 83; refine HSTR.out.mono ?_; rintro e W3 ⟨rfl, h3, b3⟩))
      go_ret
      exact ⟨rep_str HS.out.symm, HBX.out.trans b3⟩
    · obtain ⟨k, hk1, hkq, hkc, hmin⟩ := Lib.chunk_ok c q c 1 hq1 (by omega) (by omega)
      have hqc : (q : Int) < (c : Int) := by omega
      have hmin3 : ∀ (ts : Array TypeId) (t : TypeId) (W : World), (Builtin.min_ ts t #[.int .i64 ((c : Int) - (q : Int)), .int .i64 (q : Int), .int .i64 (c : Int)]).run Try.prog W = .ok (.int .i64 (k : Int)) W := fun ts t W => by
        rw [run_min_int3]
        congr 2
        have : min (min (c * 1 - q * 1) (q * 1)) (c * 1) = k * 1 := hmin
        omega
      have hkS : (k : Int) ≤ (S.size : Int) := by omega
      clear hmin
      go_wp2_with (first
        | (go_at_call 141; refine HLEN.out.mono ?_; rintro e w' ⟨rfl, hw⟩; rw [hw])
        | (go_at_call 83; refine HSTR.out.mono ?_; rintro e W3 ⟨rfl, h3, b3⟩))
      refine (writeString w.heap.size w.heap.size _ (S.extract 0 k) W3 h3 (by rw [HLQ.out, ByteArray.size_extract]; omega) (Nat.le_trans hszx b3.size)).mono ?_
      rintro e W4 ⟨rfl, h4, b4, -⟩
      have H4 := Lib.hid (show Lib.BuilderAtF 95 5 w.heap.size w.heap.size (.pointer (some ⟨w.heap.size, 0, none⟩)) (Lib.byteCells (Lib.repeatL [100] (q + k))) W4 by
        have hst := Lib.step_ok [100] q k hkq
        simp only [List.length_cons, List.length_nil, Nat.zero_add, Nat.mul_one] at hst
        rw [Lib.strCells_eq, ← Lib.byteCells_append, Lib.extract_data, HSD.out] at h4
        simp only [List.drop_zero, Nat.sub_zero] at h4
        rw [hst] at h4
        exact h4)
      have HB4 := Lib.hid (b3.trans b4)
      clear h3 h4 b3 b4
      go_wp2_with fail
      go_roundg (c - (q + k))
      case measure => omega
      case rel => exact ⟨q + k, by omega, by omega, Or.inr H4.out, HBX.out.trans HB4.out⟩


set_option maxRecDepth 1000000 in
theorem repeat_zero (s : ByteArray) (w : World) : Calls Try.prog 135 #[.string s, .int .i64 0] w fun e w' => e = .returned (.string ⟨#[]⟩) ∧ w = w' := by
  go_enter Try.func135, Try.ntmps135
  go_wp2
  go_ret
  exact ⟨rfl, rfl⟩
set_option maxRecDepth 1000000 in
theorem repeat_one (s : ByteArray) (w : World) : Calls Try.prog 135 #[.string s, .int .i64 1] w fun e w' => e = .returned (.string s) ∧ w = w' := by
  go_enter Try.func135, Try.ntmps135
  go_wp2
  go_ret
  exact ⟨rfl, rfl⟩
/-- k letters c. -/
def repS (c : UInt8) (k : Nat) : ByteArray := ⟨(Lib.repeatL [c] k).toArray⟩
theorem repU (c : Nat) (w : World) (hc : c ≤ 8) : Calls Try.prog 135 #[.string ⟨#[117]⟩, .int .i64 c] w fun e w' => e = .returned (.string (repS 117 c)) ∧ Below w.heap.size w w' := by
  by_cases h0 : c = 0
  · subst h0; exact (repeat_zero _ w).mono fun _ _ h => ⟨h.1, h.2 ▸ Below.refl _ _⟩
  by_cases h1 : c = 1
  · subst h1; exact (repeat_one _ w).mono fun _ _ h => ⟨h.1, h.2 ▸ Below.refl _ _⟩
  exact repeatU c w (by omega) hc
theorem repD (c : Nat) (w : World) (hc : c ≤ 8) : Calls Try.prog 135 #[.string ⟨#[100]⟩, .int .i64 c] w fun e w' => e = .returned (.string (repS 100 c)) ∧ Below w.heap.size w w' := by
  by_cases h0 : c = 0
  · subst h0; exact (repeat_zero _ w).mono fun _ _ h => ⟨h.1, h.2 ▸ Below.refl _ _⟩
  by_cases h1 : c = 1
  · subst h1; exact (repeat_one _ w).mono fun _ _ h => ⟨h.1, h.2 ▸ Below.refl _ _⟩
  exact repeatD c w (by omega) hc

end Go.Proofs.Ytknojbcpjjhegaa
