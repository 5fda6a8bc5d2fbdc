/- Merged by program out of: Bld Rep Impl3N Paths3M Part24M Mea33 LawMea33. -/
import Derived.Test.YtgaggpdlpcldeaaRows
import Derived.WalkKit
import Derived.Shelf.Strings.BuilderK
import Derived.Test.YtgaggpdlpcldeaaShelfB
import Derived.Lib.RepeatB
import Derived.Deep.LoopGhost
import Derived.Laws.Cover1
import Derived.Lib.Hide
import Derived.Laws.Tables
import Derived.Laws.CopyOwn
import Derived.Lib.BufferWrite
import Derived.Lib.SlBuf
import Derived.ProofKit
import Derived.Below
import Derived.Laws.StructEq
import Derived.Laws.BytesArg
import Derived.OneCell
import Derived.Deep.AppendLies
import Derived.Test.YtgaggpdlpcldeaaKA
import Derived.Test.YtgaggpdlpcldeaaKB
import Derived.Test.YtgaggpdlpcldeaaKC
import Derived.Test.YtgaggpdlpcldeaaKD
import Derived.Test.YtgaggpdlpcldeaaKE
section
namespace Go.Proofs.Ytgaggpdlpcldeaa
open Go.RowKit
set_option linter.unusedVariables false

theorem bld_size : (Try.prog.info? 73).map (·.size) = some 2 := by kernel_rfl
theorem bld_lies : liesAt Try.prog Try.prog.depth 73 (2 / Try.prog.cellsOf 73) 0 73 1 = true := by kernel_rfl
theorem bld_byte : (Try.prog.info? 5).map (fun i => (i.zero, i.size, i.bytes)) = some (some (.int .u8 0), 1, 1) := by kernel_rfl

set_option maxHeartbeats 1000000 in
set_option maxRecDepth 100000 in
theorem cc_used (b : Nat) (w : World) (h0 : w.cell? ⟨b, 0, none⟩ = some (.pointer (some ⟨b, 0, none⟩))) :
    Calls Try.prog 63 #[.pointer (some ⟨b, 0, none⟩)] w fun e w' => e = .returned (.tuple #[]) ∧ w' = w := by
  obtain ⟨j, hj, _⟩ := Option.map_eq_some_iff.1 bld_size
  go_enter Try.func63, Try.ntmps63
  go_wp2
  rw [Lib.run_neq_ptr_same w _ Try.underlying71 hj]
  go_wp2
  go_end0
  exact ⟨rfl, rfl⟩

set_option maxHeartbeats 1000000 in
set_option maxRecDepth 100000 in
theorem cc_fresh (b : Nat) (w : World) (h0 : w.cell? ⟨b, 0, none⟩ = some (.pointer none)) (hsh : w.shape? b = some (73, 2)) (hfz : w.frozen? ⟨b, 0, none⟩ = false) :
    Calls Try.prog 63 #[.pointer (some ⟨b, 0, none⟩)] w fun e w' => e = .returned (.tuple #[]) ∧ w' = w.setCell ⟨b, 0, none⟩ (.pointer (some ⟨b, 0, none⟩)) := by
  obtain ⟨j, hj, hjs⟩ := Option.map_eq_some_iff.1 bld_size
  go_enter Try.func63, Try.ntmps63
  go_wp2
  rw [Lib.run_to_unsafe w ⟨b, 0, none⟩ Try.underlying71 Try.underlying91 hj (by rw [hjs]; decide) hsh (Nat.zero_lt_succ 1)]
  simp only [Result.andThen]
  rw [Oper.upon_value]
  go_wp2
  rw [run_callFunc_extern Try.func66 (by kernel_rfl) (by kernel_rfl) (by kernel_rfl) (e := Extern.AbiNoEscape.same) (by kernel_rfl)]
  rw [Lib.run_noEscape]
  simp only [Result.andThen]
  rw [Oper.upon_value]
  go_wp2
  rw [Lib.run_from_unsafe w ⟨b, 0, none⟩ Try.underlying91 Try.underlying71 hj hsh bld_lies]
  simp only [Result.andThen]
  rw [Oper.upon_value]
  go_wp2
  go_end0
  exact ⟨rfl, rfl⟩

theorem copyCheck (B b : Nat) (bs : List Value) (w : World) (h : Lib.IsBuilderF 73 5 B b bs w) :
    Calls Try.prog 63 #[.pointer (some ⟨b, 0, none⟩)] w fun e w' => e = .returned (.tuple #[]) ∧ (Lib.BuilderAtF 73 5 B b (.pointer (some ⟨b, 0, none⟩)) bs w' ∧ Below B w w' ∧ Lib.OthersKept 5 (some b) w w') := by
  rcases h with h | h
  · refine (cc_fresh b w h.cell0 h.shape h.frozen0).mono ?_
    rintro e w' ⟨rfl, rfl⟩
    exact ⟨rfl, h.used _, (Below.refl B w).setCell (p := ⟨b, 0, none⟩) h.1 _, (Lib.OthersKept.refl _ _ w).setCell ⟨b, 0, none⟩ rfl _⟩
  · refine (cc_used b w h.cell0).mono ?_
    rintro e w' ⟨rfl, rfl⟩
    exact ⟨rfl, h, Below.refl B _, Lib.OthersKept.refl _ _ _⟩

end Go.Proofs.Ytgaggpdlpcldeaa
end

section
namespace Go.Proofs.Ytgaggpdlpcldeaa
open Go.RowKit
set_option linter.unusedVariables false

theorem rep_str {a b : ByteArray} (h : a = b) : Ending.returned (.string a) = .returned (.string b) := by rw [h]
set_option maxHeartbeats 2000000 in
set_option maxRecDepth 100000 in
theorem writeString (B b : Nat) (bs : List Value) (s : ByteArray) (w : World) (h : Lib.IsBuilderF 73 5 B b bs w) (hlen : bs.length + s.size ≤ 140737488355328) (hBw : B ≤ w.heap.size) :
    Calls Try.prog 55 #[.pointer (some ⟨b, 0, none⟩), .string s] w fun e w' => e = .returned (.tuple #[.int .i64 s.size, .nilIface]) ∧ (Lib.BuilderAtF 73 5 B b (.pointer (some ⟨b, 0, none⟩)) (bs ++ Lib.strCells s) w' ∧ Below B w w' ∧ Lib.OthersKept 5 (some b) w w') := by
  obtain ⟨i0, hi, hz0, hz1, hz2⟩ := info_parts bld_byte
  go_enter Try.func55, Try.ntmps55
  go_wp2_with (go_at_call 63; refine (copyCheck B b bs _ h).mono ?_)
  rintro e w1 ⟨rfl, h1, hb1, hk1⟩
  obtain ⟨hB, v, hbk, hown, hne⟩ := h1
  have c0 : w1.cell? ⟨b, 0, none⟩ = some (.pointer (some ⟨b, 0, none⟩)) := by rw [Lib.cell_of_heap hbk]; rfl
  have c1 : w1.cell? ⟨b, 1, none⟩ = some v := by rw [Lib.cell_of_heap hbk]; rfl
  go_wp2_with (at_builtin; refine Lib.wpList_append_own_stringF _ rfl _ _ 51 9 rfl B 5 i0 Try.underlying51 Try.underlying9 hi hz0 hz1 hz2 _ _ _ rfl hown s rfl ?c3 ?c4 ?c5 ?_)
  case c3 => unfold maxLen; omega
  case c4 => omega
  case c5 => have := hb1.size; omega
  intro v' w2 hown' hgrow _
  have hlt : b < w1.heap.size := by
    rcases Nat.lt_or_ge b w1.heap.size with h' | h'
    · exact h'
    · simp [Array.getElem?_eq_none h'] at hbk
  have hb2 : w2.heap[b]? = some (.cells #[.pointer (some ⟨b, 0, none⟩), v] 73 (0, 0)) := by
    rw [hgrow.block b hlt (fun e => hne e.symm)]
    exact hbk
  have d0 : w2.cell? ⟨b, 0, none⟩ = some (.pointer (some ⟨b, 0, none⟩)) := by rw [Lib.cell_of_heap hb2]; rfl
  have d1 : w2.cell? ⟨b, 1, none⟩ = some v := by rw [Lib.cell_of_heap hb2]; rfl
  have f1 : w2.frozen? ⟨b, 1, none⟩ = false := Lib.frozen_of_heap hb2 1
  obtain ⟨ao, n', cap, rfl⟩ : ∃ ao n' cap, v' = .slice ao n' cap := by
    rcases hown'.2 with ⟨hv, _⟩ | ⟨g, cap, cur, fz, hv, _⟩
    · exact ⟨_, _, _, hv⟩
    · exact ⟨_, _, _, hv⟩
  go_wp2
  go_ret2
  refine ⟨rfl, ?_, ?_, (hk1.grown hgrow (Lib.ownsRowF_kind hown)).setCell ⟨b, 1, none⟩ rfl _⟩
  · exact Lib.BuilderAtF.put (T := 73) (e := 5) hB hb2 (bs' := bs ++ Lib.strCells s) (by simpa [Lib.strCells_length] using hown') (by decide)
  · exact (hb1.grown hgrow (by have := hb1.size; omega) (fun k hk => (hown.lt k hk).1)).setCell (p := ⟨b, 1, none⟩) hB _


set_option maxHeartbeats 1600000 in
set_option maxRecDepth 1000000 in
theorem repeatU (c : Nat) (w : World) (hc2 : 2 ≤ c) (hc : c ≤ 8) :
    Calls Try.prog 48 #[.string ⟨#[117]⟩, .int .i64 c] w fun e w' => e = .returned (.string ⟨(Lib.repeatL [117] c).toArray⟩) ∧ Below w.heap.size w w' := by
  have hMul := Try.bits_Mul 1 c (by omega) (by omega) w
  rw [Nat.one_mul, Nat.div_eq_of_lt (by omega : c < 18446744073709551616), Nat.mod_eq_of_lt (by omega : c < 18446744073709551616)] at hMul
  have e0 : ((c : Int) == 0) = false := beq_eq_false_iff_ne.2 (by omega)
  have e1 : ((c : Int) == 1) = false := beq_eq_false_iff_ne.2 (by omega)
  have t32 : ((((⟨#[117]⟩ : ByteArray)[0]'(by decide)).toNat : Int) == 32) = false := by decide
  have t45 : ((((⟨#[117]⟩ : ByteArray)[0]'(by decide)).toNat : Int) == 45) = false := by decide
  have t48 : ((((⟨#[117]⟩ : ByteArray)[0]'(by decide)).toNat : Int) == 48) = false := by decide
  have t61 : ((((⟨#[117]⟩ : ByteArray)[0]'(by decide)).toNat : Int) == 61) = false := by decide
  have t9 : ((((⟨#[117]⟩ : ByteArray)[0]'(by decide)).toNat : Int) == 9) = false := by decide
  have HM := Lib.hid hMul
  clear hMul
  go_enter Try.func48, Try.ntmps48
  go_wp2_with (go_at_call 52; refine HM.out.mono ?_; rintro e w' ⟨rfl, hw⟩; rw [hw])
  have b0 : Below w.heap.size w (w.alloc (.cells #[.pointer none, .slice none 0 0] 73)) := (Below.refl _ w).alloc (Nat.le_refl _) _
  refine (Try.Builder_Grow_fresh w.heap.size w.heap.size c (w.alloc (.cells #[.pointer none, .slice none 0 0] 73)) (Nat.le_refl _) (heap_alloc_new w _) b0.size (by omega)).mono ?_
  rintro e W1 ⟨rfl, h1, b1⟩
  go_wp2_with fail
  refine (writeString w.heap.size w.heap.size [] ⟨#[117]⟩ W1 (Lib.IsBuilderF.of (Or.inr h1)) (by decide) (Nat.le_trans b0.size b1.size)).mono ?_
  rintro e W2 ⟨rfl, h2, b2, -⟩
  have H2 := Lib.hid (show Lib.IsBuilderF 73 5 w.heap.size w.heap.size (Lib.byteCells (Lib.repeatL [117] 1)) W2 by
    rw [List.nil_append, Lib.strCells_eq] at h2
    rw [Lib.repeatL_one]
    exact Or.inr h2)
  have HB := Lib.hid (show Below w.heap.size w W2 from b0.trans (b1.trans b2))
  clear h1 h2 b0 b1 b2
  go_wp2_with fail
  go_loopg [] (c - 1) (fun g wx => ∃ q : Nat, 1 ≤ q ∧ q + g = c ∧ Lib.IsBuilderF 73 5 w.heap.size w.heap.size (Lib.byteCells (Lib.repeatL [117] q)) wx ∧ Below w.heap.size w wx)
  case atStart => exact ⟨1, Nat.le_refl _, by omega, H2.out, HB.out⟩
  case round =>
    obtain ⟨q, hq1, hqg, hB, hbx⟩ := hrel
    have hlq : (Lib.byteCells (Lib.repeatL [117] q)).length = q := by rw [Lib.byteCells_length, Lib.repeatL_length]; simp
    have cLen := Try.Builder_Len_f w.heap.size w.heap.size _ wr hB
    rw [hlq] at cLen
    have HLEN := Lib.hid cLen
    have HLQ := Lib.hid hlq
    obtain ⟨S, hS⟩ : ∃ S : ByteArray, (⟨(Lib.repeatL [117] q).toArray⟩ : ByteArray) = S := ⟨_, rfl⟩
    have hSd : S.data.toList = Lib.repeatL [117] q := by rw [← hS]
    have hSz : S.size = q := by rw [Lib.size_eq, hSd, Lib.repeatL_length]; simp
    have cStr := Try.Builder_String_any_f w.heap.size w.heap.size (Lib.repeatL [117] q) wr hB hbx.size
    rw [hS] at cStr
    have HSTR := Lib.hid cStr
    have HS := Lib.hid hS
    have HSD := Lib.hid hSd
    have HBX := Lib.hid hbx
    have hszx := hbx.size
    clear hS hSd cStr cLen hlq hB hbx
    rcases Nat.eq_zero_or_pos gk with hg0 | hg0
    · obtain rfl : q = c := by omega
      have hqq : decide ((q : Int) < (q : Int)) = false := by simp
      clear hg0 hqg
      go_wp2_with (first
        | (go_at_call 56; refine HLEN.out.mono ?_; rintro e w' ⟨rfl, hw⟩; rw [hw])
        | (go_at_call 57; refine HSTR.out.mono ?_; rintro e W3 ⟨rfl, h3, b3⟩))
      go_ret
      exact ⟨rep_str HS.out.symm, HBX.out.trans b3⟩
    · obtain ⟨k, hk1, hkq, hkc, hmin⟩ := Lib.chunk_ok c q c 1 hq1 (by omega) (by omega)
      have hqc : (q : Int) < (c : Int) := by omega
      have hmin3 : ∀ (ts : Array TypeId) (t : TypeId) (W : World), (Builtin.min_ ts t #[.int .i64 ((c : Int) - (q : Int)), .int .i64 (q : Int), .int .i64 (c : Int)]).run Try.prog W = .ok (.int .i64 (k : Int)) W := fun ts t W => by
        rw [run_min_int3]
        congr 2
        have : min (min (c * 1 - q * 1) (q * 1)) (c * 1) = k * 1 := hmin
        omega
      have hkS : (k : Int) ≤ (S.size : Int) := by omega
      clear hmin
      go_wp2_with (first
        | (go_at_call 56; refine HLEN.out.mono ?_; rintro e w' ⟨rfl, hw⟩; rw [hw])
        | (go_at_call 57; refine HSTR.out.mono ?_; rintro e W3 ⟨rfl, h3, b3⟩))
      refine (writeString w.heap.size w.heap.size _ (S.extract 0 k) W3 h3 (by rw [HLQ.out, ByteArray.size_extract]; omega) (Nat.le_trans hszx b3.size)).mono ?_
      rintro e W4 ⟨rfl, h4, b4, -⟩
      have H4 := Lib.hid (show Lib.BuilderAtF 73 5 w.heap.size w.heap.size (.pointer (some ⟨w.heap.size, 0, none⟩)) (Lib.byteCells (Lib.repeatL [117] (q + k))) W4 by
        have hst := Lib.step_ok [117] q k hkq
        simp only [List.length_cons, List.length_nil, Nat.zero_add, Nat.mul_one] at hst
        rw [Lib.strCells_eq, ← Lib.byteCells_append, Lib.extract_data, HSD.out] at h4
        simp only [List.drop_zero, Nat.sub_zero] at h4
        rw [hst] at h4
        exact h4)
      have HB4 := Lib.hid (b3.trans b4)
      clear h3 h4 b3 b4
      go_wp2_with fail
      go_roundg (c - (q + k))
      case measure => omega
      case rel => exact ⟨q + k, by omega, by omega, Or.inr H4.out, HBX.out.trans HB4.out⟩


set_option maxHeartbeats 1600000 in
set_option maxRecDepth 1000000 in
theorem repeatD (c : Nat) (w : World) (hc2 : 2 ≤ c) (hc : c ≤ 8) :
    Calls Try.prog 48 #[.string ⟨#[100]⟩, .int .i64 c] w fun e w' => e = .returned (.string ⟨(Lib.repeatL [100] c).toArray⟩) ∧ Below w.heap.size w w' := by
  have hMul := Try.bits_Mul 1 c (by omega) (by omega) w
  rw [Nat.one_mul, Nat.div_eq_of_lt (by omega : c < 18446744073709551616), Nat.mod_eq_of_lt (by omega : c < 18446744073709551616)] at hMul
  have e0 : ((c : Int) == 0) = false := beq_eq_false_iff_ne.2 (by omega)
  have e1 : ((c : Int) == 1) = false := beq_eq_false_iff_ne.2 (by omega)
  have t32 : ((((⟨#[100]⟩ : ByteArray)[0]'(by decide)).toNat : Int) == 32) = false := by decide
  have t45 : ((((⟨#[100]⟩ : ByteArray)[0]'(by decide)).toNat : Int) == 45) = false := by decide
  have t48 : ((((⟨#[100]⟩ : ByteArray)[0]'(by decide)).toNat : Int) == 48) = false := by decide
  have t61 : ((((⟨#[100]⟩ : ByteArray)[0]'(by decide)).toNat : Int) == 61) = false := by decide
  have t9 : ((((⟨#[100]⟩ : ByteArray)[0]'(by decide)).toNat : Int) == 9) = false := by decide
  have HM := Lib.hid hMul
  clear hMul
  go_enter Try.func48, Try.ntmps48
  go_wp2_with (go_at_call 52; refine HM.out.mono ?_; rintro e w' ⟨rfl, hw⟩; rw [hw])
  have b0 : Below w.heap.size w (w.alloc (.cells #[.pointer none, .slice none 0 0] 73)) := (Below.refl _ w).alloc (Nat.le_refl _) _
  refine (Try.Builder_Grow_fresh w.heap.size w.heap.size c (w.alloc (.cells #[.pointer none, .slice none 0 0] 73)) (Nat.le_refl _) (heap_alloc_new w _) b0.size (by omega)).mono ?_
  rintro e W1 ⟨rfl, h1, b1⟩
  go_wp2_with fail
  refine (writeString w.heap.size w.heap.size [] ⟨#[100]⟩ W1 (Lib.IsBuilderF.of (Or.inr h1)) (by decide) (Nat.le_trans b0.size b1.size)).mono ?_
  rintro e W2 ⟨rfl, h2, b2, -⟩
  have H2 := Lib.hid (show Lib.IsBuilderF 73 5 w.heap.size w.heap.size (Lib.byteCells (Lib.repeatL [100] 1)) W2 by
    rw [List.nil_append, Lib.strCells_eq] at h2
    rw [Lib.repeatL_one]
    exact Or.inr h2)
  have HB := Lib.hid (show Below w.heap.size w W2 from b0.trans (b1.trans b2))
  clear h1 h2 b0 b1 b2
  go_wp2_with fail
  go_loopg [] (c - 1) (fun g wx => ∃ q : Nat, 1 ≤ q ∧ q + g = c ∧ Lib.IsBuilderF 73 5 w.heap.size w.heap.size (Lib.byteCells (Lib.repeatL [100] q)) wx ∧ Below w.heap.size w wx)
  case atStart => exact ⟨1, Nat.le_refl _, by omega, H2.out, HB.out⟩
  case round =>
    obtain ⟨q, hq1, hqg, hB, hbx⟩ := hrel
    have hlq : (Lib.byteCells (Lib.repeatL [100] q)).length = q := by rw [Lib.byteCells_length, Lib.repeatL_length]; simp
    have cLen := Try.Builder_Len_f w.heap.size w.heap.size _ wr hB
    rw [hlq] at cLen
    have HLEN := Lib.hid cLen
    have HLQ := Lib.hid hlq
    obtain ⟨S, hS⟩ : ∃ S : ByteArray, (⟨(Lib.repeatL [100] q).toArray⟩ : ByteArray) = S := ⟨_, rfl⟩
    have hSd : S.data.toList = Lib.repeatL [100] q := by rw [← hS]
    have hSz : S.size = q := by rw [Lib.size_eq, hSd, Lib.repeatL_length]; simp
    have cStr := Try.Builder_String_any_f w.heap.size w.heap.size (Lib.repeatL [100] q) wr hB hbx.size
    rw [hS] at cStr
    have HSTR := Lib.hid cStr
    have HS := Lib.hid hS
    have HSD := Lib.hid hSd
    have HBX := Lib.hid hbx
    have hszx := hbx.size
    clear hS hSd cStr cLen hlq hB hbx
    rcases Nat.eq_zero_or_pos gk with hg0 | hg0
    · obtain rfl : q = c := by omega
      have hqq : decide ((q : Int) < (q : Int)) = false := by simp
      clear hg0 hqg
      go_wp2_with (first
        | (go_at_call 56; refine HLEN.out.mono ?_; rintro e w' ⟨rfl, hw⟩; rw [hw])
        | (go_at_call 57; refine HSTR.out.mono ?_; rintro e W3 ⟨rfl, h3, b3⟩))
      go_ret
      exact ⟨rep_str HS.out.symm, HBX.out.trans b3⟩
    · obtain ⟨k, hk1, hkq, hkc, hmin⟩ := Lib.chunk_ok c q c 1 hq1 (by omega) (by omega)
      have hqc : (q : Int) < (c : Int) := by omega
      have hmin3 : ∀ (ts : Array TypeId) (t : TypeId) (W : World), (Builtin.min_ ts t #[.int .i64 ((c : Int) - (q : Int)), .int .i64 (q : Int), .int .i64 (c : Int)]).run Try.prog W = .ok (.int .i64 (k : Int)) W := fun ts t W => by
        rw [run_min_int3]
        congr 2
        have : min (min (c * 1 - q * 1) (q * 1)) (c * 1) = k * 1 := hmin
        omega
      have hkS : (k : Int) ≤ (S.size : Int) := by omega
      clear hmin
      go_wp2_with (first
        | (go_at_call 56; refine HLEN.out.mono ?_; rintro e w' ⟨rfl, hw⟩; rw [hw])
        | (go_at_call 57; refine HSTR.out.mono ?_; rintro e W3 ⟨rfl, h3, b3⟩))
      refine (writeString w.heap.size w.heap.size _ (S.extract 0 k) W3 h3 (by rw [HLQ.out, ByteArray.size_extract]; omega) (Nat.le_trans hszx b3.size)).mono ?_
      rintro e W4 ⟨rfl, h4, b4, -⟩
      have H4 := Lib.hid (show Lib.BuilderAtF 73 5 w.heap.size w.heap.size (.pointer (some ⟨w.heap.size, 0, none⟩)) (Lib.byteCells (Lib.repeatL [100] (q + k))) W4 by
        have hst := Lib.step_ok [100] q k hkq
        simp only [List.length_cons, List.length_nil, Nat.zero_add, Nat.mul_one] at hst
        rw [Lib.strCells_eq, ← Lib.byteCells_append, Lib.extract_data, HSD.out] at h4
        simp only [List.drop_zero, Nat.sub_zero] at h4
        rw [hst] at h4
        exact h4)
      have HB4 := Lib.hid (b3.trans b4)
      clear h3 h4 b3 b4
      go_wp2_with fail
      go_roundg (c - (q + k))
      case measure => omega
      case rel => exact ⟨q + k, by omega, by omega, Or.inr H4.out, HBX.out.trans HB4.out⟩


set_option maxRecDepth 1000000 in
theorem repeat_zero (s : ByteArray) (w : World) : Calls Try.prog 48 #[.string s, .int .i64 0] w fun e w' => e = .returned (.string ⟨#[]⟩) ∧ w = w' := by
  go_enter Try.func48, Try.ntmps48
  go_wp2
  go_ret
  exact ⟨rfl, rfl⟩
set_option maxRecDepth 1000000 in
theorem repeat_one (s : ByteArray) (w : World) : Calls Try.prog 48 #[.string s, .int .i64 1] w fun e w' => e = .returned (.string s) ∧ w = w' := by
  go_enter Try.func48, Try.ntmps48
  go_wp2
  go_ret
  exact ⟨rfl, rfl⟩
/-- k letters c. -/
def repS (c : UInt8) (k : Nat) : ByteArray := ⟨(Lib.repeatL [c] k).toArray⟩
theorem repU (c : Nat) (w : World) (hc : c ≤ 8) : Calls Try.prog 48 #[.string ⟨#[117]⟩, .int .i64 c] w fun e w' => e = .returned (.string (repS 117 c)) ∧ Below w.heap.size w w' := by
  by_cases h0 : c = 0
  · subst h0; exact (repeat_zero _ w).mono fun _ _ h => ⟨h.1, h.2 ▸ Below.refl _ _⟩
  by_cases h1 : c = 1
  · subst h1; exact (repeat_one _ w).mono fun _ _ h => ⟨h.1, h.2 ▸ Below.refl _ _⟩
  exact repeatU c w (by omega) hc
theorem repD (c : Nat) (w : World) (hc : c ≤ 8) : Calls Try.prog 48 #[.string ⟨#[100]⟩, .int .i64 c] w fun e w' => e = .returned (.string (repS 100 c)) ∧ Below w.heap.size w w' := by
  by_cases h0 : c = 0
  · subst h0; exact (repeat_zero _ w).mono fun _ _ h => ⟨h.1, h.2 ▸ Below.refl _ _⟩
  by_cases h1 : c = 1
  · subst h1; exact (repeat_one _ w).mono fun _ _ h => ⟨h.1, h.2 ▸ Below.refl _ _⟩
  exact repeatD c w (by omega) hc

end Go.Proofs.Ytgaggpdlpcldeaa
end

section
namespace Go.Proofs.Ytgaggpdlpcldeaa
open Go.ChangeShapes Go.WideShapes Go.ChangeAt Go.RowKit
set_option linter.unusedVariables false

def cU : List UInt8 → Nat
  | [] => 0
  | c :: l => (if c.toNat = 117 then 1 else 0) + cU l
def cD : List UInt8 → Nat
  | [] => 0
  | c :: l => (if c.toNat = 117 then 0 else 1) + cD l
theorem c_len (l : List UInt8) : cU l + cD l = l.length := by
  induction l with
  | nil => rfl
  | cons c l ih => rw [cU, cD, List.length_cons]; split <;> omega
theorem ends_cnt : ∀ (l : List UInt8) (h u d : Nat), ends h u d l → u = cU l ∧ d = cD l := by
  intro l
  induction l with
  | nil =>
    intro h u d he
    have := he.2.2
    simp only [List.length_nil] at this
    exact ⟨by rw [cU]; omega, by rw [cD]; omega⟩
  | cons c l ih =>
    intro h u d he
    by_cases e : c.toNat = 117
    · obtain ⟨h1, h2⟩ := ends_up he e
      obtain ⟨i1, i2⟩ := ih _ _ _ h2
      rw [cU, cD, if_pos e, if_pos e]; omega
    · obtain ⟨h1, h2, h3⟩ := ends_down he e
      obtain ⟨i1, i2⟩ := ih _ _ _ h3
      rw [cU, cD, if_neg e, if_neg e]; omega
theorem suf_any {s : ByteArray} (hd : dyck s = true) : ∀ j, j ≤ s.size → ∃ h u d, ends h u d (rest s j) := by
  intro j
  induction j with
  | zero => intro _; exact ⟨_, _, _, ends_start hd⟩
  | succ j ih =>
    intro hj
    obtain ⟨h, u, d, he⟩ := ih (by omega)
    rw [rest_cons s j hj] at he
    by_cases e : s[j].toNat = 117
    · exact ⟨_, _, _, (ends_up he e).2⟩
    · exact ⟨_, _, _, (ends_down he e).2.2⟩
theorem suf_ends {s : ByteArray} (hd : dyck s = true) (j : Nat) (hj : j ≤ s.size) : ∃ h, ends h (cU (rest s j)) (cD (rest s j)) (rest s j) := by
  obtain ⟨h, u, d, he⟩ := suf_any hd j hj
  obtain ⟨e1, e2⟩ := ends_cnt _ _ _ _ he
  rw [e1, e2] at he
  exact ⟨h, he⟩
theorem c_start {s : ByteArray} (hd : dyck s = true) : cU (rest s 0) = s.size / 2 ∧ cD (rest s 0) = s.size / 2 := by
  obtain ⟨e1, e2⟩ := ends_cnt _ _ _ _ (ends_start hd)
  exact ⟨e1.symm, e2.symm⟩
theorem cD_mono (s : ByteArray) : ∀ j, cD (rest s j) ≤ cD (rest s 0) := by
  intro j
  induction j with
  | zero => exact Nat.le_refl _
  | succ j ih =>
    by_cases h : j < s.size
    · rw [rest_cons s j h, cD] at ih; omega
    · rw [rest_end s (j + 1) (by omega)]; exact Nat.zero_le _
theorem byte_eq {a : UInt8} {n : Nat} (h : a.toNat = n) (hn : n < 256) : a = UInt8.ofNat n := by
  apply UInt8.toNat_inj.1
  rw [h]
  simp
  omega
/-- The next word behind the whole of s, out of that behind a suffix. -/
theorem nx_lift {s : ByteArray} {i : Nat} {x : List UInt8} (hd : dyck s = true) (hi : i ≤ s.size) (hx : nxL (rest s i) (cU (rest s i)) (cD (rest s i)) = some x) :
    ∀ k, k ≤ i → nxL (rest s (i - k)) (cU (rest s (i - k))) (cD (rest s (i - k))) = some ((rest s (i - k)).take k ++ x) := by
  intro k
  induction k with
  | zero => intro _; simpa using hx
  | succ k ih =>
    intro hk
    have h1 := ih (by omega)
    obtain ⟨j, hj⟩ : ∃ j, j = i - (k + 1) := ⟨_, rfl⟩
    rw [← hj]
    rw [show i - k = j + 1 by omega] at h1
    have hl := dyck_letter hd j (by omega)
    rw [rest_cons s j (by omega), List.take_succ_cons]
    rcases hl with e | e
    · rw [nxL_up _ _ _ _ e, cU, cD, if_pos e, if_pos e, show 1 + cU (rest s (j + 1)) - 1 = cU (rest s (j + 1)) by omega, Nat.zero_add, h1, byte_eq e (by omega)]; rfl
    · have e' : s[j].toNat ≠ 117 := by omega
      rw [nxL_down _ _ _ _ e', cU, cD, if_neg e', if_neg e', show 1 + cD (rest s (j + 1)) - 1 = cD (rest s (j + 1)) by omega, Nat.zero_add, h1, byte_eq e (by omega)]; rfl
/-- What nextLetters answers: the next word, or the word itself. -/
def nxS (s : ByteArray) : List UInt8 := (nxL (rest s 0) (cU (rest s 0)) (cD (rest s 0))).getD (rest s 0)

def lrow (l : List UInt8) (q : Nat) : Int := ((l.getD q 0).toNat : Int)
def cells16 (l : List UInt8) : Array Value := ((List.range 16).map fun q => Value.int .u8 (lrow l q)).toArray
theorem cells16_size (l : List UInt8) : (cells16 l).size = 16 := by simp [cells16]
theorem cells16_get (l : List UInt8) (q : Nat) (h : q < 16) : (cells16 l)[q]? = some (.int .u8 (lrow l q)) := by simp [cells16, h]
theorem cells16_one (l : List UInt8) : (cells16 l).all (·.oneCell') = true := Array.all_eq_true_iff_forall_mem.2 (fun v hv => by
  simp only [cells16, List.mem_toArray, List.mem_map] at hv
  obtain ⟨q, -, rfl⟩ := hv
  rfl)
theorem cells16_eq {C : Array Value} {l : List UInt8} (h : C.size = 16) (hc : ∀ q, q < 16 → C[q]? = some (.int .u8 (lrow l q))) : C = cells16 l := by
  apply Array.ext (by rw [h, cells16_size])
  intro i hi hi'
  have e1 := hc i (by omega)
  have e2 := cells16_get l i (by omega)
  rw [Array.getElem?_eq_getElem hi] at e1
  rw [Array.getElem?_eq_getElem hi'] at e2
  rw [← e2] at e1
  exact Option.some.inj e1
/-- Block g holds the letters l, the places behind them 0. -/
def TabL (w : World) (g : Nat) (l : List UInt8) : Prop := w.heap[g]? = some (.cells (cells16 l) 60 (0, 0))
theorem sizeL : (Try.prog.info? 60).map (·.size) = some 16 := by kernel_rfl
theorem TabL.cell {w : World} {g : Nat} {l : List UInt8} (h : TabL w g l) {q : Nat} (hq : q < 16) : w.cell? ⟨g, q, none⟩ = some (.int .u8 (lrow l q)) ∧ w.frozen? ⟨g, q, none⟩ = false := by
  refine ⟨?_, by unfold TabL at h; simp [World.frozen?, h]⟩
  rw [cell_of_row w g q _ _ (0, 0) h]
  exact cells16_get l q hq

/-- The row when place j has become d and the rest has been copied behind it. -/
theorem next_row {s : ByteArray} {j : Nat} {R : List UInt8} (hj : j < s.size) (h16 : s.size ≤ 16) (hR : j + 1 + R.length = s.size) :
    ((((cells16 s.data.toList).setIfInBounds j (.int .u8 100)).toList.take (j + 1) ++ Lib.byteCells R ++ ((cells16 s.data.toList).setIfInBounds j (.int .u8 100)).toList.drop (j + 1 + R.length)).toArray) = cells16 (s.data.toList.take j ++ (100 :: R)) := by
  have hS : s.data.toList.length = s.size := by simp
  have hc := cells16_size s.data.toList
  apply cells16_eq
  · simp [Lib.byteCells_length, hc]; omega
  · intro q hq
    have hget : ∀ q, q < 16 → ((cells16 s.data.toList).setIfInBounds j (.int .u8 100)).toList[q]? = some (.int .u8 (if q = j then 100 else lrow s.data.toList q)) := by
      intro q hq
      rw [Array.getElem?_toList]
      by_cases e : q = j
      · subst e
        rw [Array.getElem?_setIfInBounds_self_of_lt (by omega), if_pos rfl]
      · rw [Array.getElem?_setIfInBounds_ne (by omega), cells16_get _ _ hq, if_neg e]
    rw [List.getElem?_toArray]
    have hl1 : (((cells16 s.data.toList).setIfInBounds j (.int .u8 100)).toList.take (j + 1)).length = j + 1 := by simp [hc]; omega
    have hlb := Lib.byteCells_length R
    by_cases h1 : q < j + 1
    · rw [List.append_assoc, List.getElem?_append_left (by omega), List.getElem?_take, if_pos h1, hget q hq]
      congr 2
      unfold lrow
      by_cases e : q = j
      · subst e
        rw [if_pos rfl, List.getD_eq_getElem?_getD, List.getElem?_append_right (by simp; omega)]
        simp [show min q s.size = q by omega]
      · rw [if_neg e, List.getD_eq_getElem?_getD, List.getD_eq_getElem?_getD, List.getElem?_append_left (by simp; omega), List.getElem?_take, if_pos (by omega)]
    · by_cases h2 : q < j + 1 + R.length
      · rw [List.append_assoc, List.getElem?_append_right (by omega), hl1, List.getElem?_append_left (by omega)]
        unfold Lib.byteCells lrow
        rw [List.getElem?_map, List.getD_eq_getElem?_getD, List.getElem?_append_right (by simp; omega)]
        rw [show (s.data.toList.take j).length = j by simp; omega, show q - j = (q - (j + 1)) + 1 by omega, List.getElem?_cons_succ, List.getElem?_eq_getElem (by omega)]
        rfl
      · rw [List.append_assoc, List.getElem?_append_right (by omega), hl1, List.getElem?_append_right (by omega), List.getElem?_drop, hlb]
        rw [show j + 1 + R.length + (q - (j + 1) - R.length) = q by omega, hget q hq, if_neg (by omega)]
        congr 2
        unfold lrow
        rw [List.getD_eq_getElem?_getD, List.getD_eq_getElem?_getD, List.getElem?_eq_none (by omega), List.getElem?_eq_none (by simp; omega)]

theorem zeroL (w : World) : (zeroValue 60).run Try.prog w = .ok (.agg (cells16 [])) w := by kernel_rfl

set_option maxRecDepth 100000 in
set_option maxHeartbeats 3200000 in
theorem nextLetters (s : ByteArray) (w : World) (hd : dyck s = true) : Calls Try.prog 49 #[.agg (cells16 s.data.toList), .int .i64 s.size] w fun e w' => e = .returned (.agg (cells16 (nxS s))) ∧ Below w.heap.size w w' := by
  have h16 := dyck_size hd
  have hz := zeroL
  have HD := Lib.hid hd
  clear hd
  generalize hcs : cells16 s.data.toList = cs
  generalize hzz : cells16 [] = zz at hz
  have HCS := Lib.hid hcs
  have HZZ := Lib.hid hzz
  clear hcs hzz
  go_enter Try.func49, Try.ntmps49
  go_wp2
  have HG := Lib.hid (show ((w.alloc (.cells cs 60)).alloc (.cells zz 60)).heap[w.heap.size]? = some (.cells cs 60 (0, 0)) from heap_alloc2_old w _ _)
  have HR := Lib.hid (show ((w.alloc (.cells cs 60)).alloc (.cells zz 60)).heap[w.heap.size + 1]? = some (.cells zz 60 (0, 0)) from heap_alloc2_new w _ _)
  have HB := Lib.hid (((Below.refl w.heap.size w).alloc (Nat.le_refl _) (.cells cs 60)).alloc (by simp) (.cells zz 60))
  have hz2 : ((w.alloc (.cells cs 60)).alloc (.cells zz 60)).heap.size = w.heap.size + 2 := by simp
  have HZ2 := Lib.hid hz2
  clear hz2 hz
  generalize (w.alloc (.cells cs 60)).alloc (.cells zz 60) = W0 at *
  have HZS := Lib.hid (show zz.size = 16 by rw [← HZZ.out]; exact cells16_size _)
  go_loop [5, 6, 7] (fun x y z => ∃ (i : Nat) (a : Int), a + 1 = i ∧ i ≤ s.size ∧ z = .int .i64 a ∧ x = .int .i64 (cU (rest s i)) ∧ y = .int .i64 (cD (rest s i)) ∧ nxL (rest s i) (cU (rest s i)) (cD (rest s i)) = none) (fun _ _ z => (intOf z + 1).toNat)
  case atStart => exact ⟨s.size, (s.size : Int) - 1, by omega, Nat.le_refl _, rfl, by rw [rest_end s _ (Nat.le_refl _)]; rfl, by rw [rest_end s _ (Nat.le_refl _)]; rfl, by rw [rest_end s _ (Nat.le_refl _)]; rfl⟩
  case round =>
    obtain ⟨i, a, ha, hi, rfl, rfl, rfl, hn⟩ := hrel
    have HN := Lib.hid hn
    have hcl := c_len (rest s i)
    have hrl : (rest s i).length = s.size - i := by unfold rest; simp
    have HRL := Lib.hid hrl
    have hu8 : cU (rest s i) ≤ 16 := by omega
    have hd8 : cD (rest s i) ≤ 16 := by omega
    clear hn hrl hcl
    by_cases h0 : i = 0
    · have hneg : ¬ (0 : Int) ≤ a := by omega
      have HX := Lib.hid (show nxS s = s.data.toList by unfold nxS; rw [h0] at HN; rw [HN.out]; rfl)
      clear h0
      go_wp2_with (first
        | (refine wpList_load_row rfl _ _ rfl w.heap.size rfl 60 cs (0, 0) _ HG.out Try.underlying60 rfl (by rw [← HCS.out, cells16_size]; exact sizeL) ?_)
        | (refine wpList_store_row rfl _ _ _ rfl (w.heap.size + 1) cs rfl rfl 60 zz HR.out (by rw [← HCS.out, cells16_size]; exact sizeL) (by rw [HZS.out, ← HCS.out, cells16_size]) (by rw [← HCS.out]; exact cells16_one _) ?_))
      refine bodyPost_ret (v := .agg cs) (results_cell_row Try.results49 _ _ (w.heap.size + 1) 60 cs (0, 0) _ rfl (setRow_heap _ _ zz _ _ (0, 0) HR.out) Try.underlying60 rfl (by rw [← HCS.out, cells16_size]; exact sizeL)) rfl ⟨by rw [HX.out, HCS.out], below_setRow HB.out (by omega) _⟩
    · obtain ⟨j, rfl⟩ : ∃ j, i = j + 1 := ⟨i - 1, by omega⟩
      obtain rfl : a = (j : Int) := by omega
      clear ha
      have hjs : j < s.size := by omega
      have hl := dyck_letter HD.out j hjs
      have hcell : W0.cell? ⟨w.heap.size, j, none⟩ = some (.int .u8 (s[j].toNat : Int)) := by
        rw [cell_of_row W0 w.heap.size j cs _ (0, 0) HG.out, ← HCS.out, cells16_get _ _ (by omega)]
        unfold lrow
        rw [List.getD_eq_getElem?_getD, List.getElem?_eq_getElem (by simpa using hjs), Option.getD_some, at_list s j hjs]
      have hf : W0.frozen? ⟨w.heap.size, j, none⟩ = false := by simp [World.frozen?, HG.out]
      have HC := Lib.hid (rest_cons s j hjs)
      have hj16 : (j : Int) < 16 := by omega
      rcases hl with e1 | e1
      · have HU := Lib.hid (show cU (rest s j) = cU (rest s (j + 1)) + 1 by rw [HC.out, cU, if_pos e1]; omega)
        have HDD := Lib.hid (show cD (rest s j) = cD (rest s (j + 1)) by rw [HC.out, cD, if_pos e1]; omega)
        have HE := Lib.hid (show nxL (rest s j) (cU (rest s j)) (cD (rest s j)) = if cU (rest s j) < cD (rest s j) then some (100 :: frL (cU (rest s j)) (cD (rest s j) - 1)) else none by
          conv => lhs; rw [HC.out]
          rw [nxL_up _ _ _ _ e1, ← HC.out, HU.out, Nat.add_sub_cancel, HDD.out, HN.out])
        rw [e1] at hcell
        have HE1 := Lib.hid e1
        clear e1
        by_cases hlt : cU (rest s (j + 1)) + 1 < cD (rest s (j + 1))
        · have hlti : (cU (rest s (j + 1)) : Int) + 1 < (cD (rest s (j + 1)) : Int) := by omega
          have hU8 : cU (rest s (j + 1)) + 1 ≤ 8 := by
            have := c_start HD.out
            obtain ⟨h, he⟩ := suf_ends HD.out j (by omega)
            have h1 := he.2.1
            have h2 := he.2.2
            have h3 : (rest s j).length = s.size - j := by unfold rest; simp
            have h4 := HU.out
            omega
          have hD8 : cD (rest s (j + 1)) - 1 ≤ 8 := by
            obtain ⟨h, u, d, he⟩ := suf_any HD.out 0 (by omega)
            have := c_start HD.out
            have hmono : cD (rest s (j + 1)) ≤ cD (rest s 0) := cD_mono s (j + 1)
            omega
          have hRl : j + 1 + (cU (rest s (j + 1)) + 1 + (cD (rest s (j + 1)) - 1)) = s.size := by
            have h1 := c_len (rest s (j + 1))
            have h2 := HRL.out
            omega
          have HX := Lib.hid (show nxS s = s.data.toList.take j ++ (100 :: frL (cU (rest s (j + 1)) + 1) (cD (rest s (j + 1)) - 1)) by
            have h1 := nx_lift HD.out (by omega) (show nxL (rest s j) (cU (rest s j)) (cD (rest s j)) = some _ by rw [HE.out, HU.out, HDD.out, if_pos hlt]) j (Nat.le_refl _)
            rw [Nat.sub_self] at h1
            unfold nxS
            rw [h1]; rfl)
          have hdm : (cD (rest s (j + 1)) : Int) - 1 = ((cD (rest s (j + 1)) - 1 : Nat) : Int) := by omega
          have HNR := Lib.hid (next_row (s := s) (j := j) (R := frL (cU (rest s (j + 1)) + 1) (cD (rest s (j + 1)) - 1)) hjs h16 (by rw [frL_len]; exact hRl))
          have HFL := Lib.hid (frL_len (cU (rest s (j + 1)) + 1) (cD (rest s (j + 1)) - 1))
          have HFR := Lib.hid (show (repS 117 (cU (rest s (j + 1)) + 1) ++ repS 100 (cD (rest s (j + 1)) - 1)).data.toList = frL (cU (rest s (j + 1)) + 1) (cD (rest s (j + 1)) - 1) by
            unfold repS frL
            simp)
          have HL1 := Lib.hid (show (repS 117 (cU (rest s (j + 1)) + 1)).size ≤ 8 by unfold repS; rw [Lib.size_eq]; simp [Lib.repeatL_length]; omega)
          have HL2 := Lib.hid (show (repS 100 (cD (rest s (j + 1)) - 1)).size ≤ 8 by unfold repS; rw [Lib.size_eq]; simp [Lib.repeatL_length]; omega)
          generalize hUU : cU (rest s (j + 1)) = U at *
          generalize hDD2 : cD (rest s (j + 1)) = D at *
          clear hUU hDD2
          go_wp2_with fail
          refine (repU (U + 1) _ hU8).mono ?_
          rintro e w1 ⟨rfl, hb1⟩
          have HB1 := Lib.hid hb1
          have hw2 : IntKind.i64.wrap ((D : Int) - 1) = ((D - 1 : Nat) : Int) := by rw [hdm]; exact IntWalk.i64_in _ (by omega)
          clear hb1
          go_wp2_with fail
          refine (repD (D - 1) _ hD8).mono ?_
          rintro e w2 ⟨rfl, hb2⟩
          have HB2 := Lib.hid hb2
          clear hb2
          have hlen12 : ((repS 117 (U + 1)).size + (repS 100 (D - 1)).size) = U + 1 + (D - 1) := by
            have h1 := HFL.out
            rw [← HFR.out] at h1
            simpa using h1
          generalize repS 117 (U + 1) = R1 at *
          generalize repS 100 (D - 1) = R2 at *
          have hR12 := HL1.out
          have hR22 := HL2.out
          have hsum : ¬ 9223372036854775807 < R1.size + R2.size := by omega
          have HRS := Lib.hid (show (R1 ++ R2).size = U + 1 + (D - 1) by rw [ByteArray.size_append]; exact hlen12)
          have HRL2 := Lib.hid hRl
          have hg1 : (W0.setCell ⟨w.heap.size, j, none⟩ (.int .u8 100)).heap[w.heap.size]? = some (.cells (cs.setIfInBounds j (.int .u8 100)) 60 (0, 0)) := by
            simp [World.setCell, Array.getElem?_modify, HG.out]
          have hr1 : (W0.setCell ⟨w.heap.size, j, none⟩ (.int .u8 100)).heap[w.heap.size + 1]? = some (.cells zz 60 (0, 0)) := by
            simp [World.setCell, Array.getElem?_modify, HR.out]
          have hz1 : (W0.setCell ⟨w.heap.size, j, none⟩ (.int .u8 100)).heap.size = w.heap.size + 2 := by simp [World.setCell, HZ2.out]
          have HB3 := Lib.hid (HB1.out.trans (HB2.out.mono HB1.out.size))
          have HG2 := Lib.hid ((HB3.out.block w.heap.size (by rw [hz1]; omega)).trans hg1)
          have HR2 := Lib.hid ((HB3.out.block (w.heap.size + 1) (by rw [hz1]; omega)).trans hr1)
          have HB4 := Lib.hid ((HB.out.setCell (p := ⟨w.heap.size, j, none⟩) (Nat.le_refl _) (.int .u8 100)).trans (HB3.out.mono (by rw [hz1]; omega)))
          clear hdm hw2 hRl hg1 hr1 hz1 hlen12 hR12 hR22
          have hj17 : (j : Int) + 1 ≤ 16 := by omega
          have hj18 : (0 : Int) ≤ (j : Int) + 1 := by omega
          have hj19 : ((j : Int) + 1).toNat = j + 1 := by omega
          have hj20 : j + 1 < 16 := by have := HRL2.out; omega
          have hj21 : ¬ (16 = j + 1) := by omega
          have hj22 : ¬ (j + 1 = 16) := by omega
          have hcopy : (Builtin.copy_ #[51, 9] 3 #[.slice (some ⟨w.heap.size, j + 1, none⟩) (15 - j) (15 - j), .string (R1 ++ R2)]).run Try.prog w2 = .ok (goInt (R1 ++ R2).size) (w2.setRow w.heap.size (cells16 (s.data.toList.take j ++ (100 :: frL (U + 1) (D - 1))))) := by
            have h := Lib.run_copy_row_string (P := Try.prog) w2 51 9 3 5 w.heap.size (j + 1) (15 - j) (15 - j) (R1 ++ R2) _ 60 Try.underlying51 (by kernel_rfl) HG2.out (by rw [HRS.out]; have := HRL2.out; omega) (by rw [HRS.out, ← HCS.out]; have := cells16_size s.data.toList; have := HRL2.out; simp; omega)
            rw [h, HFR.out, HRS.out, ← HFL.out, ← HCS.out, HNR.out]
          have HCP := Lib.hid (show nxS s = s.data.toList.take j ++ (100 :: frL (U + 1) (D - 1)) from HX.out)
          have HX1 := Lib.hid (cells16_size (s.data.toList.take j ++ (100 :: frL (U + 1) (D - 1))))
          have HX2 := Lib.hid (cells16_one (s.data.toList.take j ++ (100 :: frL (U + 1) (D - 1))))
          have HX3 := Lib.hid (show cells16 (nxS s) = cells16 (s.data.toList.take j ++ (100 :: frL (U + 1) (D - 1))) by rw [HCP.out])
          generalize cells16 (s.data.toList.take j ++ (100 :: frL (U + 1) (D - 1))) = xs at hcopy HX1 HX2 HX3
          have HL := Lib.hid (setRow_heap w2 w.heap.size _ xs _ _ HG2.out)
          have HO := Lib.hid ((setRow_other w2 w.heap.size (w.heap.size + 1) xs (by omega)).trans HR2.out)
          have HB5 := Lib.hid (below_setRow HB4.out (Nat.le_refl _) xs)
          go_wp2_with (first
            | (refine wpList_load_row rfl _ _ rfl w.heap.size rfl 60 xs (0, 0) _ HL.out Try.underlying60 rfl (by rw [HX1.out]; exact sizeL) ?_)
            | (refine wpList_store_row rfl _ _ _ rfl (w.heap.size + 1) xs rfl rfl 60 zz HO.out (by rw [HX1.out]; exact sizeL) (by rw [HZS.out, HX1.out]) HX2.out ?_))
          refine bodyPost_ret (v := .agg xs) (results_cell_row Try.results49 _ _ (w.heap.size + 1) 60 xs (0, 0) _ rfl (setRow_heap _ _ zz _ _ (0, 0) HO.out) Try.underlying60 rfl (by rw [HX1.out]; exact sizeL)) rfl ⟨by rw [HX3.out], below_setRow HB5.out (by omega) _⟩
        · have HX := Lib.hid (show nxL (rest s j) (cU (rest s j)) (cD (rest s j)) = none by rw [HE.out, HU.out, HDD.out, if_neg hlt])
          have hlti : ¬ ((cU (rest s (j + 1)) : Int) + 1 < (cD (rest s (j + 1)) : Int)) := by omega
          go_wp2
          refine ⟨⟨j, (j : Int) - 1, by omega, by omega, rfl, by rw [HU.out]; simp, by rw [HDD.out], HX.out⟩, by simp [intOf]⟩
      · have e2 : s[j].toNat ≠ 117 := by omega
        have HU := Lib.hid (show cU (rest s j) = cU (rest s (j + 1)) by rw [HC.out, cU, if_neg e2]; omega)
        have HDD := Lib.hid (show cD (rest s j) = cD (rest s (j + 1)) + 1 by rw [HC.out, cD, if_neg e2]; omega)
        have HX := Lib.hid (show nxL (rest s j) (cU (rest s j)) (cD (rest s j)) = none by
          conv => lhs; rw [HC.out]
          rw [nxL_down _ _ _ _ e2, ← HC.out, HDD.out, Nat.add_sub_cancel, HU.out, HN.out])
        rw [e1] at hcell
        clear e1 e2
        go_wp2
        refine ⟨⟨j, (j : Int) - 1, by omega, by omega, rfl, by rw [HU.out], by rw [HDD.out]; simp, HX.out⟩, by simp [intOf]⟩

end Go.Proofs.Ytgaggpdlpcldeaa
end

section
namespace Go.Proofs.Ytgaggpdlpcldeaa
section SArr16
open Go.ChangeShapes Go.WideShapes Go.ChangeAt Go.RowKit
theorem cell16 (cs : Array Value) (v : Value) (q : Nat) (hv : cs[q]? = some v) (w : World) : (part 5 cs q).run Try.prog w = .ok v w := by
  simp [part, Try.isAgg5, hv, Sem.run_bind, go_sem]
theorem eqInt (d : Nat) (a b : Int) (w : World) : (Op.equalIn (d + 1) 5 (.int .u8 a) (.int .u8 b)).run Try.prog w = .ok (a == b) w := run_equalIn_int w d 5 .u8 .u8 a b Try.underlying5
theorem eqL (d : Nat) (xs ys : Array Value) (w : World) (f g : Nat → Int) (L : List Nat) (hx : ∀ q ∈ L, xs[q]? = some (.int .u8 (f q))) (hy : ∀ q ∈ L, ys[q]? = some (.int .u8 (g q))) :
    (forIn (m := Sem) L ((none : Option Bool), ()) fun i __s => do
            let __do_lift ← part 5 xs i
            let __do_lift_1 ← part 5 ys i
            let __do_lift ← Op.equalIn (d + 1) 5 __do_lift __do_lift_1
            if __do_lift = false then pure (ForInStep.done (some false, ())) else pure (ForInStep.yield (none, ()))).run Try.prog w =
      .ok (if (L.all fun q => f q == g q) = true then (none, ()) else (some false, ())) w := by
  induction L with
  | nil => simp
  | cons q L ih =>
    have h1 := cell16 xs _ q (hx q (by simp)) w
    have h2 := cell16 ys _ q (hy q (by simp)) w
    have ih' := ih (fun p hp => hx p (by simp [hp])) (fun p hp => hy p (by simp [hp]))
    rw [List.forIn_cons]
    by_cases e : f q = g q
    · simp only [Sem.run_bind, h1, h2, Result.andThen_ok, eqInt, e, List.all_cons, beq_self_eq_true, Bool.true_and]
      simp only [Bool.true_eq_false, if_false, Sem.run_pure, Result.andThen_ok]
      exact ih'
    · have e' : (f q == g q) = false := by simp [e]
      simp only [Sem.run_bind, h1, h2, Result.andThen_ok, eqInt, e', List.all_cons, Bool.false_and]
      simp
theorem eq16 (d : Nat) (xs ys : Array Value) (w : World) (f g : Nat → Int) (hx : ∀ q, q < 16 → xs[q]? = some (.int .u8 (f q))) (hy : ∀ q, q < 16 → ys[q]? = some (.int .u8 (g q))) :
    (Op.equalIn (d + 2) 60 (.agg xs) (.agg ys)).run Try.prog w = .ok ((List.range' 0 16).all fun q => f q == g q) w := by
  have hz := Try.sizeOf5
  have hL := eqL d xs ys w f g (List.range' 0 16) (fun q hq => hx q (by simp [List.mem_range'] at hq; omega)) (fun q hq => hy q (by simp [List.mem_range'] at hq; omega))
  rw [Op.equalIn]
  simp only [Sem.run_bind, run_underlying Try.underlying60, Result.andThen_ok, hz]
  simp only [Std.Legacy.Range.forIn_eq_forIn_range', Std.Legacy.Range.size]
  simp only [Nat.mul_one, Bool.not_eq_true', Nat.sub_zero, Nat.reduceAdd, Nat.reduceSub, Nat.div_one]
  rw [hL]
  simp only [Result.andThen_ok]
  cases (List.range' 0 16).all fun q => f q == g q <;> rfl
theorem eqlArr (xs ys : Array Value) (w : World) (f g : Nat → Int) (hx : ∀ q, q < 16 → xs[q]? = some (.int .u8 (f q))) (hy : ∀ q, q < 16 → ys[q]? = some (.int .u8 (g q))) :
    (binOp .eql 60 (.agg xs) (.agg ys)).run Try.prog w = .ok (.bool ((List.range' 0 16).all fun q => f q == g q)) w := by
  rw [run_eql_struct, show (10000 : Nat) = 9998 + 2 from rfl, eq16 9998 xs ys w f g hx hy]
  rfl
end SArr16

section SImpl3Q
open Go.ChangeShapes Go.WideShapes Go.ChangeAt Go.RowKit
set_option linter.unusedVariables false

theorem nx_ne : ∀ (l : List UInt8) (u d : Nat) (x : List UInt8), nxL l u d = some x → x ≠ l := by
  intro l
  induction l with
  | nil => intro u d x h; rw [nxL] at h; cases h
  | cons c l ih =>
    intro u d x h
    by_cases e : c.toNat = 117
    · rw [nxL_up _ _ _ _ e] at h
      rcases hx : nxL l (u - 1) d with _ | y
      · rw [hx] at h
        by_cases hlt : u < d
        · simp only [hlt, if_true, Option.some.injEq] at h
          subst h
          intro hh
          simp only [List.cons.injEq] at hh
          rw [← hh.1] at e
          exact absurd e (by decide)
        · simp [hlt] at h
      · rw [hx] at h
        simp only [Option.some.injEq] at h
        subst h
        intro hh
        simp only [List.cons.injEq] at hh
        exact ih _ _ _ hx hh.2
    · rw [nxL_down _ _ _ _ e] at h
      rcases hx : nxL l u (d - 1) with _ | y
      · rw [hx] at h; cases h
      · rw [hx] at h
        simp only [Option.some.injEq] at h
        subst h
        intro hh
        simp only [List.cons.injEq] at hh
        exact ih _ _ _ hx hh.2
theorem nx_len : ∀ (l : List UInt8) (h u d : Nat) (x : List UInt8), ends h u d l → nxL l u d = some x → x.length = l.length := by
  intro l
  induction l with
  | nil => intro h u d x _ hx; rw [nxL] at hx; cases hx
  | cons c l ih =>
    intro h u d x he hx
    have hlen := he.2.2
    by_cases e : c.toNat = 117
    · obtain ⟨h1, h2⟩ := ends_up he e
      rw [nxL_up _ _ _ _ e] at hx
      rcases hy : nxL l (u - 1) d with _ | y
      · rw [hy] at hx
        by_cases hlt : u < d
        · simp only [hlt, if_true, Option.some.injEq] at hx
          subst hx
          rw [List.length_cons, frL_len]
          rw [List.length_cons] at hlen ⊢
          omega
        · simp [hlt] at hx
      · rw [hy] at hx
        simp only [Option.some.injEq] at hx
        subst hx
        rw [List.length_cons, List.length_cons, ih _ _ _ _ h2 hy]
    · obtain ⟨h1, h2, h3⟩ := ends_down he e
      rw [nxL_down _ _ _ _ e] at hx
      rcases hy : nxL l u (d - 1) with _ | y
      · rw [hy] at hx; cases hx
      · rw [hy] at hx
        simp only [Option.some.injEq] at hx
        subst hx
        rw [List.length_cons, List.length_cons, ih _ _ _ _ h3 hy]
theorem next_none {s : ByteArray} (hd : dyck s = true) (h : nxL (rest s 0) (cU (rest s 0)) (cD (rest s 0)) = none) : nextOk s = false ∧ nextP s = ⟨#[]⟩ ∧ nxS s = s.data.toList := by
  obtain ⟨c1, c2⟩ := c_start hd
  have h16 := dyck_size hd
  have hx : nxS s = s.data.toList := by unfold nxS; rw [h]; rfl
  rw [c1, c2] at h
  have hr := (nx_rank _ _ _ _ (ends_start hd) (by omega) (by omega)).1 h
  have hrk : rankP s = rkL (rest s 0) (s.size / 2) (s.size / 2) := if_pos hd
  have hno := unr_no (n := ((s.size / 2 : Nat) : Int)) (k := rankP s + 1) (fun hg => by
    have := hg.2.2.2
    rw [hrk] at this
    simp only [Int.toNat_natCast] at this
    omega)
  exact ⟨by unfold nextOk; rw [if_pos hd]; exact hno.1, by unfold nextP; rw [if_pos hd]; exact hno.2, hx⟩
theorem next_some {s : ByteArray} {x : List UInt8} (hd : dyck s = true) (h : nxL (rest s 0) (cU (rest s 0)) (cD (rest s 0)) = some x) : nextOk s = true ∧ nextP s = ⟨x.toArray⟩ ∧ nxS s = x ∧ x ≠ s.data.toList ∧ x.length = s.size := by
  obtain ⟨c1, c2⟩ := c_start hd
  have h16 := dyck_size hd
  have hx : nxS s = x := by unfold nxS; rw [h]; rfl
  have hne := nx_ne _ _ _ _ h
  rw [c1, c2] at h
  have hl := nx_len _ _ _ _ _ (ends_start hd) h
  obtain ⟨r1, r2⟩ := (nx_rank _ _ _ _ (ends_start hd) (by omega) (by omega)).2 x h
  have hrk : rankP s = rkL (rest s 0) (s.size / 2) (s.size / 2) := if_pos hd
  have h0 := (rankP_bd hd).1
  have hyes := unr_yes (n := ((s.size / 2 : Nat) : Int)) (k := rankP s + 1) ⟨by omega, by omega, by omega, by simp only [Int.toNat_natCast]; rw [hrk]; exact r1⟩
  refine ⟨by unfold nextOk; rw [if_pos hd]; exact hyes.1, ?_, hx, hne, by rw [hl, rest_zero]; simp⟩
  unfold nextP
  rw [if_pos hd, hyes.2]
  simp only [Int.toNat_natCast]
  rw [hrk, r2]
theorem first_row {s : ByteArray} (h16 : s.size ≤ 16) : ((cells16 []).toList.take 0 ++ Lib.byteCells s.data.toList ++ (cells16 []).toList.drop (0 + s.size)).toArray = cells16 s.data.toList := by
  have hS : s.data.toList.length = s.size := by simp
  have hlb := Lib.byteCells_length s.data.toList
  have hc := cells16_size []
  apply cells16_eq
  · simp [Lib.byteCells_length, hc]; omega
  · intro q hq
    rw [List.getElem?_toArray, List.take_zero, List.nil_append]
    by_cases h : q < s.size
    · rw [List.getElem?_append_left (by omega)]
      unfold Lib.byteCells lrow
      rw [List.getElem?_map, List.getD_eq_getElem?_getD, List.getElem?_eq_getElem (by omega)]
      rfl
    · rw [List.getElem?_append_right (by omega), List.getElem?_drop, hlb, hS, show 0 + s.size + (q - s.size) = q by omega, Array.getElem?_toList, cells16_get _ _ hq]
      congr 2
      unfold lrow
      rw [List.getD_eq_getElem?_getD, List.getD_eq_getElem?_getD, List.getElem?_eq_none (by simp), List.getElem?_eq_none (by omega)]
theorem all_same (l : List UInt8) : ((List.range' 0 16).all fun q => lrow l q == lrow l q) = true := by simp
theorem all_other {x l : List UInt8} (hne : x ≠ l) (h1 : x.length = l.length) (h2 : l.length ≤ 16) : ((List.range' 0 16).all fun q => lrow x q == lrow l q) = false := by
  rw [Bool.eq_false_iff]
  intro h
  apply hne
  rw [List.all_eq_true] at h
  apply List.ext_getElem h1
  intro i hi hi'
  have := h i (by simp [List.mem_range']; omega)
  simp only [beq_iff_eq, lrow] at this
  rw [List.getD_eq_getElem?_getD, List.getD_eq_getElem?_getD, List.getElem?_eq_getElem hi, List.getElem?_eq_getElem hi'] at this
  simp only [Option.getD_some] at this
  exact UInt8.toNat_inj.1 (by omega)
theorem out_str {x : List UInt8} : strOfNums ((List.range x.length).map (lrow x)) = ⟨x.toArray⟩ := by
  unfold strOfNums
  congr 2
  apply List.ext_getElem (by simp)
  intro i h1 h2
  simp [lrow, h2]
theorem TabL.conv {w : World} {g n : Nat} {x : List UInt8} (h : TabL w g x) (hl : x.length = n) (hn : n ≤ 16) (c : Nat) : (convert 51 9 (.slice (some ⟨g, 0, none⟩) n c)).run Try.prog w = .ok (.string ⟨x.toArray⟩) w := by
  rw [← out_str, hl]
  refine run_convert_bytes_arg w 51 5 Try.underlying51 Try.underlying5 g 0 n c _ (by simp) (fun i hi => ?_) 9 Try.underlying9
  rw [Nat.zero_add, (h.cell (by omega)).1]
  simp [List.getD, hi]

set_option maxRecDepth 100000 in
set_option maxHeartbeats 3200000 in
theorem nextPathI (s : ByteArray) (w : World) : Calls Try.prog 45 #[.string s] w fun e w' => e = .returned (.tuple #[.string (nextP s), .bool (nextOk s)]) ∧ Below w.heap.size w w' := by
  rcases hd : dyck s with _ | _
  · have HP := Lib.hid (show nextOk s = false ∧ nextP s = ⟨#[]⟩ by unfold nextOk nextP; rw [hd]; exact ⟨rfl, rfl⟩)
    have HD := Lib.hid hd
    clear hd
    go_enter Try.func45, Try.ntmps45
    go_wp2_with fail
    (with_reducible refine (isDyckI_no s _ HD.out).mono ?_)
    rintro e w' ⟨rfl, hb⟩
    go_wp2
    go_ret2
    exact ⟨ret_sb HP.out.2.symm HP.out.1.symm, hb⟩
  · have HD := Lib.hid hd
    have h16 := dyck_size hd
    have hz := zeroL
    have HFR := Lib.hid (first_row h16)
    have HC0 := Lib.hid (cells16_size [])
    have HC1 := Lib.hid (cells16_size s.data.toList)
    clear hd
    generalize hzz : cells16 [] = zz at hz HFR HC0
    have HZZ := Lib.hid hzz
    clear hzz
    go_enter Try.func45, Try.ntmps45
    go_wp2_with fail
    (with_reducible refine (isDyckI_yes s _ HD.out).mono ?_)
    rintro e w1 ⟨rfl, hb⟩
    have HB1 := Lib.hid hb
    have z1 := hb.size
    clear hb
    have hg0 : (w1.alloc (.cells zz 60)).heap[w1.heap.size]? = some (.cells zz 60 (0, 0)) := heap_alloc_new w1 _
    have hcopy : (Builtin.copy_ #[51, 9] 3 #[.slice (some ⟨w1.heap.size, 0, none⟩) 16 16, .string s]).run Try.prog (w1.alloc (.cells zz 60)) = .ok (goInt s.size) ((w1.alloc (.cells zz 60)).setRow w1.heap.size (cells16 s.data.toList)) := by
      have h := Lib.run_copy_row_string (P := Try.prog) (w1.alloc (.cells zz 60)) 51 9 3 5 w1.heap.size 0 16 16 s zz 60 Try.underlying51 (by kernel_rfl) hg0 h16 (by rw [HC0.out]; omega)
      rw [h, HFR.out]
    have hBW := Lib.hid (below_setRow (HB1.out.alloc z1 (.cells zz 60)) z1 (cells16 s.data.toList))
    have hGW := Lib.hid (setRow_heap _ w1.heap.size zz (cells16 s.data.toList) _ (0, 0) hg0)
    have hZW := Lib.hid (show ((w1.alloc (.cells zz 60)).setRow w1.heap.size (cells16 s.data.toList)).heap.size = w1.heap.size + 1 by simp)
    have hNL := Lib.hid (fun w => nextLetters s w HD.out)
    have HONE := Lib.hid (cells16_one (nxS s))
    have HX0 := Lib.hid (cells16_size (nxS s))
    have HCMP := Lib.hid (fun w : World => eqlArr (cells16 (nxS s)) (cells16 s.data.toList) w (lrow (nxS s)) (lrow s.data.toList) (fun q hq => cells16_get _ q hq) (fun q hq => cells16_get _ q hq))
    have HTL := Lib.hid (show ∀ (w : World) (g : Nat), w.heap[g]? = some (.cells (cells16 (nxS s)) 60 (0, 0)) → TabL w g (nxS s) from fun _ _ h => h)
    clear hg0
    generalize cells16 s.data.toList = cs at *
    generalize cells16 (nxS s) = xs at *
    generalize (w1.alloc (.cells zz 60)).setRow w1.heap.size cs = W2 at *
    go_wp2_with (refine wpList_load_row rfl _ _ rfl w1.heap.size rfl 60 cs (0, 0) _ hGW.out Try.underlying60 rfl (by rw [HC1.out]; exact sizeL) ?_)
    clear hcopy
    refine (hNL.out _).mono ?_
    rintro e w3 ⟨rfl, hb⟩
    have HB3 := Lib.hid (hBW.out.trans (hb.mono (by rw [hZW.out]; omega)))
    have HG3 := Lib.hid ((hb.block w1.heap.size (by rw [hZW.out]; omega)).trans hGW.out)
    have hlt3 : w1.heap.size < w3.heap.size := by have := hb.size; rw [hZW.out] at this; omega
    clear hb
    have HZ3 := Lib.hid (show (w3.alloc (.cells zz 60)).heap[w3.heap.size]? = some (.cells zz 60 (0, 0)) from heap_alloc_new w3 _)
    have HG4 := Lib.hid (show ((w3.alloc (.cells zz 60)).setRow w3.heap.size xs).heap[w1.heap.size]? = some (.cells cs 60 (0, 0)) by
      rw [setRow_other _ _ _ _ (by omega), Lib.alloc_old _ _ _ hlt3]; exact HG3.out)
    have HX4 := Lib.hid (setRow_heap _ w3.heap.size zz xs _ (0, 0) HZ3.out)
    have HB4 := Lib.hid (below_setRow (HB3.out.alloc (by omega) (.cells zz 60)) (show w.heap.size ≤ w3.heap.size by omega) xs)
    have hT4 := HTL.out _ _ HX4.out
    rcases hnx : nxL (rest s 0) (cU (rest s 0)) (cD (rest s 0)) with _ | x
    · obtain ⟨n1, n2, n3⟩ := next_none HD.out hnx
      have HN := Lib.hid (And.intro n1 n2)
      have hcmp := HCMP.out
      rw [n3, all_same] at hcmp
      clear n1 n2 n3 hnx hT4
      go_wp2_with (first
        | (refine wpList_store_row rfl _ _ _ rfl w3.heap.size xs rfl rfl 60 zz HZ3.out (by rw [HX0.out]; exact sizeL) (by rw [HC0.out, HX0.out]) HONE.out ?_)
        | (refine wpList_load_row rfl _ _ rfl w3.heap.size rfl 60 xs (0, 0) _ HX4.out Try.underlying60 rfl (by rw [HX0.out]; exact sizeL) ?_)
        | (refine wpList_load_row rfl _ _ rfl w1.heap.size rfl 60 cs (0, 0) _ HG4.out Try.underlying60 rfl (by rw [HC1.out]; exact sizeL) ?_))
      go_ret2
      exact ⟨ret_sb HN.out.2.symm HN.out.1.symm, HB4.out⟩
    · obtain ⟨n1, n2, n3, n4, n5⟩ := next_some HD.out hnx
      have HN := Lib.hid (And.intro n1 n2)
      have hcmp := HCMP.out
      rw [n3, all_other n4 (by rw [n5]; simp) (by simpa using h16)] at hcmp
      rw [n3] at hT4
      have hcv := hT4.conv n5 h16 16
      have hs16 : (s.size : Int) ≤ 16 := by omega
      clear n1 n2 n3 n4 n5 hnx hT4
      go_wp2_with (first
        | (refine wpList_store_row rfl _ _ _ rfl w3.heap.size xs rfl rfl 60 zz HZ3.out (by rw [HX0.out]; exact sizeL) (by rw [HC0.out, HX0.out]) HONE.out ?_)
        | (refine wpList_load_row rfl _ _ rfl w3.heap.size rfl 60 xs (0, 0) _ HX4.out Try.underlying60 rfl (by rw [HX0.out]; exact sizeL) ?_)
        | (refine wpList_load_row rfl _ _ rfl w1.heap.size rfl 60 cs (0, 0) _ HG4.out Try.underlying60 rfl (by rw [HC1.out]; exact sizeL) ?_))
      go_ret2
      exact ⟨ret_sb HN.out.2.symm HN.out.1.symm, HB4.out⟩
end SImpl3Q

section SImpl3R0
open Go.ChangeShapes Go.WideShapes Go.ChangeAt Go.RowKit
set_option linter.unusedVariables false

theorem ends_cons_up {h u d : Nat} {l : List UInt8} (he : ends (h + 1) u d l) : ends h (u + 1) d (117 :: l) := by
  obtain ⟨h1, h2, h3⟩ := he
  exact ⟨by rw [df_up _ _ _ rfl]; exact h1, by omega, by rw [List.length_cons]; omega⟩
theorem ends_cons_down {h u d : Nat} {l : List UInt8} (he : ends h u d l) : ends (h + 1) u (d + 1) (100 :: l) := by
  obtain ⟨h1, h2, h3⟩ := he
  exact ⟨by rw [df_down _ _ _ rfl]; exact h1, by omega, by rw [List.length_cons]; omega⟩
theorem frL_ends : ∀ (u d h : Nat), h + u = d → ends h u d (frL u d) := by
  intro u
  induction u with
  | zero =>
    intro d
    induction d with
    | zero =>
      intro h hh
      obtain rfl : h = 0 := by omega
      exact ⟨rfl, rfl, rfl⟩
    | succ d ih =>
      intro h hh
      obtain rfl : h = d + 1 := by omega
      rw [frL_none]
      exact ends_cons_down (ih d (by omega))
  | succ u ih =>
    intro d h hh
    rw [frL_up]
    exact ends_cons_up (ih d (h + 1) (by omega))
theorem nx_ends : ∀ (l : List UInt8) (h u d : Nat) (x : List UInt8), ends h u d l → nxL l u d = some x → ends h u d x := by
  intro l
  induction l with
  | nil => intro h u d x _ hx; rw [nxL] at hx; cases hx
  | cons c l ih =>
    intro h u d x he hx
    have hhu := he.2.1
    by_cases e : c.toNat = 117
    · obtain ⟨h1, h2⟩ := ends_up he e
      obtain ⟨u, rfl⟩ : ∃ k, u = k + 1 := ⟨u - 1, by omega⟩
      rw [nxL_up _ _ _ _ e] at hx
      rcases hy : nxL l (u + 1 - 1) d with _ | y
      · rw [hy] at hx
        by_cases hlt : u + 1 < d
        · simp only [hlt, if_true, Option.some.injEq] at hx
          subst hx
          obtain ⟨d, rfl⟩ : ∃ k, d = k + 1 := ⟨d - 1, by omega⟩
          obtain ⟨h, rfl⟩ : ∃ k, h = k + 1 := ⟨h - 1, by omega⟩
          exact ends_cons_down (frL_ends _ _ _ (by omega))
        · simp [hlt] at hx
      · rw [hy] at hx
        simp only [Option.some.injEq] at hx
        subst hx
        exact ends_cons_up (ih _ _ _ _ h2 hy)
    · obtain ⟨h1, h2, h3⟩ := ends_down he e
      obtain ⟨d, rfl⟩ : ∃ k, d = k + 1 := ⟨d - 1, by omega⟩
      obtain ⟨h, rfl⟩ : ∃ k, h = k + 1 := ⟨h - 1, by omega⟩
      rw [nxL_down _ _ _ _ e] at hx
      rcases hy : nxL l u (d + 1 - 1) with _ | y
      · rw [hy] at hx; cases hx
      · rw [hy] at hx
        simp only [Option.some.injEq] at hx
        subst hx
        exact ends_cons_down (ih _ _ _ _ h3 hy)

/-- From l on the next words are r, which begins with l. -/
inductive Runs (u d : Nat) : List UInt8 → List (List UInt8) → Prop
  | last (l : List UInt8) : nxL l u d = none → Runs u d l [l]
  | more (l x : List UInt8) (r : List (List UInt8)) : nxL l u d = some x → Runs u d x r → Runs u d l (l :: r)
theorem Runs.down {u d : Nat} {l : List UInt8} {r : List (List UInt8)} (h : Runs u d l r) : Runs u (d + 1) (100 :: l) (r.map (100 :: ·)) := by
  induction h with
  | last l hn => exact .last _ (by rw [nxL_down _ _ _ _ (by decide), Nat.add_sub_cancel, hn])
  | more l x r hs _ ih => exact .more _ (100 :: x) _ (by rw [nxL_down _ _ _ _ (by decide), Nat.add_sub_cancel, hs]) ih
theorem Runs.up {u d : Nat} {l : List UInt8} {r : List (List UInt8)} (h : Runs u d l r) (hn : ¬ u + 1 < d) : Runs (u + 1) d (117 :: l) (r.map (117 :: ·)) := by
  induction h with
  | last l h0 => exact .last _ (by rw [nxL_up _ _ _ _ rfl, Nat.add_sub_cancel, h0]; simp [hn])
  | more l x r hs _ ih => exact .more _ (117 :: x) _ (by rw [nxL_up _ _ _ _ rfl, Nat.add_sub_cancel, hs]) ih
theorem Runs.both {u d : Nat} {l : List UInt8} {r r2 : List (List UInt8)} (h : Runs u d l r) (hn : u + 1 < d) (h2 : Runs (u + 1) d (100 :: frL (u + 1) (d - 1)) r2) : Runs (u + 1) d (117 :: l) (r.map (117 :: ·) ++ r2) := by
  induction h with
  | last l h0 => exact .more _ _ _ (by rw [nxL_up _ _ _ _ rfl, Nat.add_sub_cancel, h0]; simp [hn]) h2
  | more l x r hs _ ih => exact .more _ (117 :: x) _ (by rw [nxL_up _ _ _ _ rfl, Nat.add_sub_cancel, hs]) ih
def listF : Nat → Nat → Nat → List (List UInt8)
  | 0, _, _ => [[]]
  | f + 1, u, d => (if 0 < u then (listF f (u - 1) d).map (117 :: ·) else []) ++ (if u < d then (listF f u (d - 1)).map (100 :: ·) else [])
theorem list_runs : ∀ (f u d : Nat), u + d = f → u ≤ d → Runs u d (frL u d) (listF f u d) := by
  intro f
  induction f with
  | zero =>
    intro u d h1 h2
    have hu : u = 0 := by omega
    have hd : d = 0 := by omega
    subst hu hd
    exact .last _ rfl
  | succ f ih =>
    intro u d h1 h2
    rw [listF]
    rcases u with _ | u
    · obtain ⟨d, rfl⟩ : ∃ k, d = k + 1 := ⟨d - 1, by omega⟩
      rw [if_neg (by omega), if_pos (by omega), List.nil_append, frL_none, Nat.add_sub_cancel]
      exact (ih 0 d (by omega) (by omega)).down
    · have i1 := ih u d (by omega) (by omega)
      rw [if_pos (by omega), frL_up, Nat.add_sub_cancel]
      by_cases hlt : u + 1 < d
      · rw [if_pos hlt]
        obtain ⟨d, rfl⟩ : ∃ k, d = k + 1 := ⟨d - 1, by omega⟩
        have i2 := (ih (u + 1) d (by omega) (by omega)).down
        exact i1.both hlt i2
      · rw [if_neg hlt, List.append_nil]
        exact i1.up hlt
theorem str_add (s : ByteArray) (c : UInt8) (l : List UInt8) : (s ++ ⟨#[c]⟩) ++ ⟨l.toArray⟩ = s ++ ⟨(c :: l).toArray⟩ := by
  rw [ByteArray.append_assoc]
  congr 1
theorem all_list : ∀ (f : Nat) (s : ByteArray) (u d : Nat), allF f s u d = (listF f u d).map fun l => s ++ ⟨l.toArray⟩ := by
  intro f
  induction f with
  | zero =>
    intro s u d
    rw [allF, listF]
    have : (⟨([] : List UInt8).toArray⟩ : ByteArray) = ByteArray.empty := rfl
    simp [this]
  | succ f ih =>
    intro s u d
    rw [allF, listF, List.map_append]
    congr 1
    · split
      · rw [ih, List.map_map]
        apply List.map_congr_left
        intro l _
        exact str_add s 117 l
      · rfl
    · split
      · rw [ih, List.map_map]
        apply List.map_congr_left
        intro l _
        exact str_add s 100 l
      · rfl
def strL (l : List UInt8) : ByteArray := ⟨l.toArray⟩
theorem paths_list (m : Nat) (hm : m ≤ 6) : pathsP m = (listF (m + m) m m).map strL := by
  unfold pathsP
  rw [if_pos (by omega)]
  simp only [Int.toNat_natCast]
  rw [all_list]
  apply List.map_congr_left
  intro l _
  show ByteArray.empty ++ _ = _
  rw [ByteArray.empty_append]; rfl
theorem str_dyck {l : List UInt8} {m : Nat} (he : ends 0 m m l) (hm : m ≤ 6) : dyck (strL l) = true ∧ (strL l).size = m + m ∧ rest (strL l) 0 = l := by
  have hs : (strL l).size = m + m := by unfold strL; rw [str_len]; exact he.2.2
  have hr : rest (strL l) 0 = l := rfl
  exact ⟨by rw [dyck_short (by omega)]; exact he.1, hs, hr⟩

theorem Runs.pos {u d : Nat} {l : List UInt8} {r : List (List UInt8)} (h : Runs u d l r) : ∃ t, r = l :: t := by
  cases h with
  | last _ _ => exact ⟨[], rfl⟩
  | more _ x r _ _ => exact ⟨r, rfl⟩
/-- What the two answers of NextPath are, at a path of the letters l. -/
theorem next_letters {l : List UInt8} {m : Nat} (he : ends 0 m m l) (hm : m ≤ 6) : (nxL l m m = none → nextOk (strL l) = false) ∧ (∀ x, nxL l m m = some x → nextOk (strL l) = true ∧ nextP (strL l) = strL x) := by
  obtain ⟨hd, hs, hr⟩ := str_dyck he hm
  obtain ⟨c1, c2⟩ := c_start hd
  rw [hs, show (m + m) / 2 = m by omega] at c1 c2
  refine ⟨fun h => ?_, fun x h => ?_⟩
  · have h' : nxL (rest (strL l) 0) (cU (rest (strL l) 0)) (cD (rest (strL l) 0)) = none := by rw [c1, c2, hr]; exact h
    exact (next_none hd h').1
  · have h' : nxL (rest (strL l) 0) (cU (rest (strL l) 0)) (cD (rest (strL l) 0)) = some x := by rw [c1, c2, hr]; exact h
    obtain ⟨n1, n2, -⟩ := next_some hd h'
    exact ⟨n1, n2⟩

set_option maxRecDepth 100000 in
theorem firstPath (m : Nat) (w : World) (hm : m ≤ 6) : Calls Try.prog 44 #[.int .i64 m] w fun e w' => e = .returned (.string (strL (frL m m))) ∧ Below w.heap.size w w' := by
  have HF := Lib.hid (show repS 117 m ++ repS 100 m = strL (frL m m) by
    unfold repS strL frL
    rw [ByteArray.mk_append_mk])
  have h1 : (repS 117 m).size ≤ 8 := by unfold repS; rw [Lib.size_eq]; simp [Lib.repeatL_length]; omega
  have h2 : (repS 100 m).size ≤ 8 := by unfold repS; rw [Lib.size_eq]; simp [Lib.repeatL_length]; omega
  go_enter Try.func44, Try.ntmps44
  go_wp2_with fail
  refine (repU m _ (by omega)).mono ?_
  rintro e w1 ⟨rfl, hb1⟩
  have z1 := hb1.size
  go_wp2_with fail
  refine (repD m _ (by omega)).mono ?_
  rintro e w2 ⟨rfl, hb2⟩
  generalize repS 117 m = R1 at *
  generalize repS 100 m = R2 at *
  have hsum : ¬ 9223372036854775807 < R1.size + R2.size := by omega
  go_wp2
  go_ret
  exact ⟨ret_str HF.out, hb1.trans (hb2.mono z1)⟩
end SImpl3R0

section SPaths3
open Go.ChangeShapes Go.WideShapes Go.ChangeAt Go.RowKit
set_option linter.unusedVariables false

set_option maxRecDepth 100000 in
set_option maxHeartbeats 1600000 in
theorem listPathsI (m : Nat) (hm : m ≤ 6) (w : World) : Calls Try.prog 39 #[.int .i64 m] w (AnsS (pathsP m) w) := by
  have HP := Lib.hid (paths_list m hm)
  have HR := Lib.hid (list_runs (m + m) m m rfl (Nat.le_refl _))
  have HE := Lib.hid (frL_ends m m 0 (by omega))
  have HLEN := Lib.hid (show (pathsP m).length ≤ 4096 by
    unfold pathsP
    rw [if_pos (by omega)]
    simp only [Int.toNat_natCast]
    exact allF_small _ _ _ _ (by omega))
  go_enter Try.func39, Try.ntmps39
  go_wp2_with fail
  refine (firstPath m _ hm).mono ?_
  rintro e w1 ⟨rfl, hb⟩
  have HB1 := Lib.hid hb
  clear hb
  go_wp2
  go_loopg [3, 4, 5] ((listF (m + m) m m).length) (fun g v x y wr => ∃ (acc : List ByteArray), wr.ownsRow w.heap.size 9 1 v acc.length (acc.map Value.string) ∧ Below w.heap.size w wr ∧ ((∃ (l : List UInt8) (r : List (List UInt8)), x = .string (strL l) ∧ y = .bool true ∧ ends 0 m m l ∧ Runs m m l r ∧ r.length = g ∧ acc ++ r.map strL = pathsP m) ∨ (∃ s, x = .string s ∧ y = .bool false ∧ acc = pathsP m)))
  case atStart => exact ⟨[], ⟨rfl, .inl ⟨rfl, rfl⟩⟩, HB1.out, .inl ⟨_, _, rfl, rfl, HE.out, HR.out, rfl, by rw [HP.out]; rfl⟩⟩
  case round =>
    obtain ⟨acc, hown, hb, hcase⟩ := hrel
    have HB := Lib.hid hb
    have hB := hb.size
    clear hb
    rcases hcase with ⟨l, r, rfl, rfl, hends, hruns, hlen, hacc⟩ | ⟨s, rfl, rfl, hacc⟩
    · have HA := Lib.hid hacc
      have HEN := Lib.hid hends
      have HRU := Lib.hid hruns
      have HL := Lib.hid hlen
      have hal : acc.length ≤ 4096 := by
        have h := HLEN.out
        rw [← hacc, List.length_append] at h
        omega
      clear hacc hends hruns hlen
      go_wp2_with (at_builtin; go_must (refine wpAppStr rfl _ _ rfl w.heap.size _ _ _ rfl (hown.alloc _) wr.heap.size _ _ rfl (cell_one _ _ _) (by omega) (base_up hB) ?_); intro v' w' hown' hg')
      have HB2 := Lib.hid ((HB.out.alloc hB _).grown hg' (base_up hB) (fun k hk => (hown.lt k hk).1))
      refine (nextPathI (strL l) _).mono ?_
      rintro e w3 ⟨rfl, hb3⟩
      have HO3 := Lib.hid (ownsRow_keepB hown' hb3 (Nat.le_refl _))
      have HB3 := Lib.hid (HB2.out.trans (hb3.mono HB2.out.size))
      have HNX := Lib.hid (next_letters HEN.out hm)
      obtain ⟨t, ht⟩ := HRU.out.pos
      clear hown hg' hown' hb3
      rcases hnx : nxL l m m with _ | x
      · have hok := HNX.out.1 hnx
        rw [hok]
        have HT := Lib.hid (show r = [l] by
          have := HRU.out
          cases this with
          | last _ _ => rfl
          | more _ x r h _ => rw [hnx] at h; cases h)
        clear hnx hok ht
        go_wp2
        go_roundg 0
        case measure => have := HL.out; rw [HT.out] at this; simp at this; omega
        case rel => exact ⟨acc ++ [strL l], by simpa using HO3.out, HB3.out, .inr ⟨_, rfl, rfl, by rw [← HA.out, HT.out]; rfl⟩⟩
      · obtain ⟨hok, hp⟩ := HNX.out.2 x hnx
        rw [hok, hp]
        have HT := Lib.hid (show ∃ r', r = l :: r' ∧ Runs m m x r' by
          have := HRU.out
          cases this with
          | last _ h => rw [hnx] at h; cases h
          | more _ y r' h h' =>
            rw [hnx] at h
            obtain rfl : x = y := Option.some.inj h
            exact ⟨r', rfl, h'⟩)
        have HE2 := Lib.hid (nx_ends _ _ _ _ _ HEN.out hnx)
        clear hnx hok hp ht
        obtain ⟨r', hr, hr'⟩ := HT.out
        have HR1 := Lib.hid hr
        have HR2 := Lib.hid hr'
        clear hr hr'
        go_wp2
        go_roundg r'.length
        case measure => have := HL.out; rw [HR1.out] at this; simp at this; omega
        case rel => exact ⟨acc ++ [strL l], by simpa using HO3.out, HB3.out, .inl ⟨_, _, rfl, rfl, HE2.out, HR2.out, rfl, by rw [← HA.out, HR1.out]; simp⟩⟩
    · go_wp2
      go_ret
      refine ⟨_, rfl, ?_, HB.out⟩
      rw [← hacc]
      exact OwnS.of_row hown


set_option maxRecDepth 100000 in
set_option maxHeartbeats 800000 in
theorem pathsOfI2 (n : Int) (w : World) : Calls Try.prog 35 #[.int .i64 n] w (AnsS (pathsP n) w) := by
  by_cases h0 : n < 0
  · have HP := Lib.hid (show pathsP n = [] from if_neg (by omega))
    go_enter Try.func35, Try.ntmps35
    go_wp2
    go_ret
    exact ⟨_, rfl, by rw [HP.out]; exact ⟨_, _, rfl, .inl rfl⟩, Below.refl _ _⟩
  have h0b : decide (n < 0) = false := by simpa using h0
  by_cases h1 : 6 < n
  · have HP := Lib.hid (show pathsP n = [] from if_neg (by omega))
    go_enter Try.func35, Try.ntmps35
    go_wp2
    go_ret
    exact ⟨_, rfl, by rw [HP.out]; exact ⟨_, _, rfl, .inl rfl⟩, Below.refl _ _⟩
  have h1b : decide (6 < n) = false := by simpa using h1
  obtain ⟨m, rfl⟩ : ∃ m : Nat, n = m := ⟨n.toNat, by omega⟩
  have hm : m ≤ 6 := by omega
  have hmb : decide (6 < m) = false := by simp; omega
  have HL := Lib.hid (listPathsI m hm w)
  clear h0 h1
  go_enter Try.func35, Try.ntmps35
  go_wp2_with fail
  (with_reducible refine HL.out.mono ?_)
  rintro e w1 ⟨v, rfl, ho, hb⟩
  obtain ⟨A, c, rfl, -⟩ := id ho
  go_wp2
  go_ret
  exact ⟨_, rfl, ho, hb⟩
end SPaths3

end Go.Proofs.Ytgaggpdlpcldeaa
end

section
namespace Go.Proofs.Ytgaggpdlpcldeaa
section STbO
open Go.ChangeShapes Go.WideShapes Go.ChangeAt Go.RowKit
set_option linter.unusedVariables false

theorem infoRO : (Try.prog.info? 22).map (fun i => (i.zero, i.size, i.bytes)) = some (some (.slice none 0 0), 1, 24) := by kernel_rfl
theorem own_ty {w : World} {base sz n : Nat} {e : TypeId} {v : Value} {xs : List Value} (h : w.ownsRow base e sz v n xs) {o : Nat} (ho : v.ownBlock = some o) : ∃ cur, w.heap[o]? = some (.cells cur e (0, 0)) := by
  rcases h.2 with ⟨e, -⟩ | ⟨o', cap, cur, e, hb, hh, -⟩
  · subst e; cases ho
  · subst e
    simp only [Value.ownBlock, Option.some.injEq] at ho
    subst ho
    exact ⟨cur, hh⟩
/-- A slice of ints stays what it is when a row of another type grows. -/
theorem OwnI.other {w w' : World} {lo hi : Nat} {u v : Value} {xs : List Int} (h : OwnI w lo hi u xs) (hg : w.grownBy w' v.ownBlock) (hv : ∀ o, v.ownBlock = some o → ∃ cur, w.heap[o]? = some (.cells cur 22 (0, 0))) : OwnI w' lo hi u xs := by
  obtain ⟨A, cap, e, h⟩ := h
  refine ⟨A, cap, e, ?_⟩
  rcases h with h | ⟨g, C, h1, h2, h3, h4, h5⟩
  · exact .inl h
  · refine .inr ⟨g, C, h1, h2, h3, ?_, h5⟩
    refine (hg.block g (Array.getElem?_eq_some_iff.1 h4).1 fun e2 => ?_).trans h4
    obtain ⟨cur, hc⟩ := hv g e2.symm
    rw [h4] at hc
    simp at hc
/-- v is a table of the rows ls, which are the slices vs. -/
structure TbO (w : World) (base : Nat) (v : Value) (vs : List Value) (ls : List (List Int)) : Prop where
  len : vs.length = ls.length
  own : w.ownsRow base 22 1 v ls.length vs
  row : ∀ j, j < ls.length → OwnI w base w.heap.size (vs.getD j (.slice none 0 0)) (ls.getD j [])
variable {w : World} {base : Nat} {v : Value} {vs : List Value} {ls : List (List Int)}
theorem TbO.nil (w : World) (base : Nat) : TbO w base (.slice none 0 0) [] [] :=
  ⟨rfl, World.ownsRow_nil _ _ _ _, fun j h => by simp at h⟩
theorem TbO.made (w : World) (base : Nat) (hb : base ≤ w.heap.size) : TbO (w.alloc (.cells #[] 22)) base (.slice (some ⟨w.heap.size, 0, none⟩) 0 0) [] [] :=
  ⟨rfl, World.ownsRow_made w #[] 0 hb (Nat.zero_le _) (by simp), fun j h => by simp at h⟩
theorem TbO.keep {w' : World} (h : TbO w base v vs ls) (hb : Below w.heap.size w w') : TbO w' base v vs ls := by
  refine ⟨h.len, ?_, fun j hj => ((h.row j hj).keep hb (Nat.le_refl _)).wide (Nat.le_refl _) hb.size⟩
  obtain ⟨h0, h⟩ := h.own
  refine ⟨h0, ?_⟩
  rcases h with h | ⟨g, cap, cur, rfl, h1, h2, h3⟩
  · exact .inl h
  · exact .inr ⟨g, cap, cur, rfl, h1, (hb.block g (Array.getElem?_eq_some_iff.1 h2).1).trans h2, h3⟩
theorem TbO.lower {b0 : Nat} (h : TbO w base v vs ls) (hb : b0 ≤ base) : TbO w b0 v vs ls := by
  refine ⟨h.len, ?_, fun j hj => (h.row j hj).wide hb (Nat.le_refl _)⟩
  obtain ⟨h0, h⟩ := h.own
  refine ⟨h0, ?_⟩
  rcases h with h | ⟨g, cap, cur, e, h1, h2⟩
  · exact .inl h
  · exact .inr ⟨g, cap, cur, e, by omega, h2⟩
theorem TbO.alloc (h : TbO w base v vs ls) (o : Obj) : TbO (w.alloc o) base v vs ls := h.keep ((Below.refl _ _).alloc (Nat.le_refl _) o)
theorem TbO.form (h : TbO w base v vs ls) : ∃ A cap, v = .slice A ls.length cap := by
  rcases h.own.2 with ⟨e, h0⟩ | ⟨g, cap, cur, e, -⟩
  · exact ⟨none, 0, by rw [e, h0]⟩
  · exact ⟨_, cap, e⟩
theorem TbO.cell (h : TbO w base v vs ls) {j : Nat} (hj : j < ls.length) :
    ∃ o cap, v = .slice (some ⟨o, 0, none⟩) ls.length cap ∧ base ≤ o ∧ o < w.heap.size ∧ w.cell? ⟨o, j, none⟩ = some (vs.getD j (.slice none 0 0)) := by
  obtain ⟨o, cap, e, h1, h2⟩ := h.own.form (by omega)
  have hown := h.own
  rw [e] at hown
  refine ⟨o, cap, e, h1, h2, ?_⟩
  rw [hown.cellAt j (by omega), List.getD_eq_getElem?_getD, List.getElem?_eq_getElem (by have := h.len; omega)]
  rfl
/-- A row appended to a table. -/
theorem wpAppTO {w : World} {ops : Array Oper} {rest : List Oper} {o : Oper} {a : Act} {Q : Exit → Act → World → Prop} (hgd : o.guard = none) (s x : Operand)
    (ho : o.op = .call { callee := .builtin .append, args := #[s, x], argTypes := #[24, 24] })
    (base : Nat) (v : Value) (vs : List Value) (ls : List (List Int)) (hs : a.eval s = v) (hown : TbO w base v vs ls)
    (b : Nat) (c : Nat) (u : Value) (xs : List Int) (hx : a.eval x = .slice (some ⟨b, 0, none⟩) 1 c) (hcell : w.cell? ⟨b, 0, none⟩ = some u)
    (hu : OwnI w base w.heap.size u xs) (hn : ls.length ≤ 1099511627776) (hbase : base ≤ w.heap.size)
    (h : ∀ v' w', TbO w' base v' (vs ++ [u]) (ls ++ [xs]) → w.grownBy w' v.ownBlock → wpList Try.prog ops Q rest (a.put o.dst v') w') : wpList Try.prog ops Q (o :: rest) a w := by
  obtain ⟨i0, hi, hz0, hz1, hz2⟩ := info_parts infoRO
  have hu1 : u.oneCell' = true := by obtain ⟨A, cap, rfl, -⟩ := hu; rfl
  refine wpList_append_own _ hgd s x 24 ho base 22 i0 (.slice none 0 0) 1 24 Try.underlying24 hi hz0 hz1 hz2 rfl (by decide) v ls.length _ hs hown.own ⟨b, 0, none⟩ 1 c [u] hx rfl ?_ ?_ (by unfold maxLen; omega) (by omega) hbase ?_
  · intro j u hj
    match j, hj with
    | 0, hj => simp at hj; subst hj; simpa [Addr.add] using hcell
  · intro u' hu'; simp at hu'; subst hu'; exact hu1
  · intro v' w' h1 h2 _
    have hl := hown.len
    have hty : ∀ o, v.ownBlock = some o → ∃ cur, w.heap[o]? = some (.cells cur 22 (0, 0)) := fun o ho => own_ty hown.own ho
    refine h v' w' ⟨by simp [hl], by simpa using h1, fun j hj => ?_⟩ h2
    rw [List.length_append, List.length_singleton] at hj
    by_cases e : j < ls.length
    · rw [show (vs ++ [u]).getD j (.slice none 0 0) = vs.getD j (.slice none 0 0) by rw [List.getD_eq_getElem?_getD, List.getElem?_append_left (by omega), ← List.getD_eq_getElem?_getD],
        show (ls ++ [xs]).getD j [] = ls.getD j [] by rw [List.getD_eq_getElem?_getD, List.getElem?_append_left e, ← List.getD_eq_getElem?_getD]]
      exact ((hown.row j e).other h2 hty).wide (Nat.le_refl _) h2.size
    · obtain rfl : j = ls.length := by omega
      rw [show (ls ++ [xs]).getD ls.length [] = xs by simp [List.getD], show (vs ++ [u]).getD ls.length (.slice none 0 0) = u by rw [← hl]; simp [List.getD]]
      exact (hu.other h2 hty).wide (Nat.le_refl _) h2.size
end STbO

section SPathsSz
open Go.ChangeShapes Go.WideShapes Go.ChangeAt Go.RowKit
set_option linter.unusedVariables false

theorem allF_sz : ∀ (f : Nat) (s : ByteArray) (u d : Nat), ∀ x ∈ allF f s u d, x.size ≤ s.size + f := by
  intro f
  induction f with
  | zero => intro s u d x hx; simp [allF] at hx; subst hx; omega
  | succ f ih =>
    intro s u d x hx
    rw [allF, List.mem_append] at hx
    have one : ∀ c : UInt8, (s ++ ⟨#[c]⟩ : ByteArray).size = s.size + 1 := fun c => by rw [ByteArray.size_append]; rfl
    rcases hx with hx | hx
    · split at hx
      · have := ih _ _ _ x hx
        rw [one] at this; omega
      · simp at hx
    · split at hx
      · have := ih _ _ _ x hx
        rw [one] at this; omega
      · simp at hx
theorem paths_sz (n : Int) (i : Nat) : ((pathsP n).getD i E0).size ≤ 100 := by
  rw [List.getD_eq_getElem?_getD]
  rcases Nat.lt_or_ge i (pathsP n).length with h | h
  · rw [List.getElem?_eq_getElem h, Option.getD_some]
    have hm := List.getElem_mem h
    generalize (pathsP n)[i] = x at hm ⊢
    unfold pathsP at hm
    split at hm
    · have := allF_sz _ _ _ _ _ hm
      have h0 : (⟨#[]⟩ : ByteArray).size = 0 := rfl
      have h5 : n.toNat ≤ 8 := by omega
      omega
    · exact absurd hm List.not_mem_nil
  · rw [List.getElem?_eq_none h]; show (0 : Nat) ≤ 100; omega
theorem paths_len (n : Int) : (pathsP n).length ≤ 4096 := by
  unfold pathsP
  split
  · exact allF_small _ _ _ _ (by omega)
  · simp
end SPathsSz

section SPart24
open Go.ChangeShapes Go.WideShapes Go.ChangeAt Go.RowKit
set_option linter.unusedVariables false

theorem find_hit {p : ByteArray → Bool} : ∀ {L : List ByteArray} {i : Nat}, i < L.length → (∀ j, j < i → p (L.getD j E0) = false) → p (L.getD i E0) = true → L.find? p = some (L.getD i E0) := by
  intro L
  induction L with
  | nil => intro i hi _ _; simp at hi
  | cons a t ih =>
    intro i hi hno hy
    cases i with
    | zero => rw [List.find?_cons, show p a = true from hy]; rfl
    | succ i =>
      rw [List.find?_cons, show p a = false from hno 0 (by omega)]
      exact ih (by simpa using hi) (fun j hj => hno (j + 1) (by omega)) hy
theorem find_miss {p : ByteArray → Bool} {L : List ByteArray} (h : ∀ j, j < L.length → p (L.getD j E0) = false) : L.find? p = none := by
  rw [List.find?_eq_none]
  intro x hx
  obtain ⟨i, hi, rfl⟩ := List.mem_iff_getElem.1 hx
  have := h i hi
  rw [List.getD_eq_getElem?_getD, List.getElem?_eq_getElem hi] at this
  simpa using this
/-- A path makes a meander with a matching. -/
def hitB (xs : List Int) (s : ByteArray) : Bool := lpP xs (matchingP s) == 1
def mpF (xs : List Int) : Option ByteArray := (pathsP ((xs.length / 2 : Nat) : Int)).find? (hitB xs)
def mpOk (xs : List Int) : Bool := (mpF xs).isSome
def mpP (xs : List Int) : List Int := match mpF xs with
  | some s => matchingP s
  | none => []
theorem matchingP_len (s : ByteArray) : (matchingP s).length ≤ 16 := by
  unfold matchingP
  split
  · rw [mtL_len]; exact dyck_size (by assumption)
  · simp
theorem mpP_len (xs : List Int) : (mpP xs).length ≤ 16 := by
  unfold mpP
  split
  · exact matchingP_len _
  · simp
theorem hit_no {xs : List Int} (h : (crossP xs == 0) = false) (s : ByteArray) : hitB xs s = false := by
  unfold hitB lpP lpOk; rw [h]; rfl
theorem mp_none {xs : List Int} (h : mpF xs = none) : mpOk xs = false ∧ mpP xs = [] := by
  unfold mpOk mpP; rw [h]; exact ⟨rfl, rfl⟩
theorem mp_some {xs : List Int} {s : ByteArray} (h : mpF xs = some s) : mpOk xs = true ∧ mpP xs = matchingP s := by
  unfold mpOk mpP; rw [h]; exact ⟨rfl, rfl⟩
theorem mp_cross {xs : List Int} (h : (crossP xs == 0) = false) : mpF xs = none := by
  unfold mpF
  exact find_miss fun j _ => hit_no h _
theorem match_one {xs : List Int} (h : xs.length = 1) : matchP xs = false := by
  refine match_no (j := 0) (by omega) fun hh => ?_
  obtain ⟨h1, h2, h3, -⟩ := hh
  have : (xs.length : Int) - 1 = 0 := by omega
  exact h3 (by simp; omega)
theorem mp_zero {xs : List Int} (h : xs.length / 2 = 0) : mpF xs = none := by
  by_cases hc : (crossP xs == 0) = true
  · have hm := match_cross hc
    have : xs.length ≠ 1 := fun e => by rw [match_one e] at hm; cases hm
    have h0 : xs = [] := List.eq_nil_of_length_eq_zero (by omega)
    subst h0
    unfold mpF
    refine find_miss fun j hj => ?_
    unfold hitB lpP
    split
    · have e : lpN [] (matchingP ((pathsP ((([] : List Int).length / 2 : Nat) : Int)).getD j E0)) = 0 := rfl
      rw [e]; rfl
    · rfl
  · exact mp_cross (by simpa using hc)
theorem mp_long {xs : List Int} (h : 6 < xs.length / 2) : mpF xs = none := by
  unfold mpF pathsP
  rw [if_neg (by omega)]; rfl

set_option maxRecDepth 100000 in
set_option maxHeartbeats 1600000 in
theorem meanderPartner (A : Option Addr) (xs : List Int) (cap lo hi : Nat) (w : World) (hv : OwnI w lo hi (.slice A xs.length cap) xs) (hhi : hi ≤ w.heap.size) (hl : xs.length ≤ 1099511627776) :
    Calls Try.prog 12 #[.slice A xs.length cap] w (AnsIB (mpP xs) (mpOk xs) w) := by
  have HN := Lib.hid (noncrossing _ xs lo hi w hv hl)
  have HV := Lib.hid hv
  clear hv
  obtain ⟨H, hH⟩ : ∃ H : Nat, H = xs.length / 2 := ⟨_, rfl⟩
  have q1 : ((xs.length : Int)).tdiv 2 = (H : Int) := by rw [Int.tdiv_eq_ediv_of_nonneg (by omega)]; omega
  have q2 : (xs.length : Int) / 2 = (H : Int) := by omega
  have q3 : IntKind.i64.wrap (H : Int) = (H : Int) := IntWalk.i64_in _ (by omega)
  rcases hx : (crossP xs == 0) with _ | _
  · have HP := Lib.hid (mp_none (mp_cross hx))
    rw [hx] at HN
    clear hx hH
    go_enter Try.func12, Try.ntmps12
    go_wp2_with fail
    (with_reducible refine HN.out.mono ?_)
    rintro e w' ⟨rfl, hb⟩
    have HB := Lib.hid hb
    clear hb
    go_wp2
    go_ret2
    exact ⟨_, ret_ib rfl HP.out.1.symm, by rw [HP.out.2]; exact ⟨_, _, rfl, .inl rfl⟩, HB.out.alloc HB.out.size _⟩
  rw [hx] at HN
  by_cases hr : 1 ≤ (H : Int) ∧ (H : Int) ≤ 6
  · obtain ⟨L, hL⟩ : ∃ L, L = pathsP (H : Int) := ⟨_, rfl⟩
    have HF := Lib.hid (show mpF xs = L.find? (hitB xs) by unfold mpF; rw [hL, hH])
    have HPA := Lib.hid (fun W => pathsOf (H : Int) W)
    have HLN := Lib.hid (show L.length ≤ 4096 by rw [hL]; exact paths_len _)
    have HSZ := Lib.hid (fun j => show (L.getD j E0).size ≤ 100 by rw [hL]; exact paths_sz _ j)
    have HME := Lib.hid (fun A' s c' lo' hi' W (h : OwnI W lo hi (.slice A xs.length cap) xs) (h' : OwnI W lo' hi' (.slice A' (matchingP s).length c') (matchingP s)) (hh : hi ≤ W.heap.size) (hh' : hi' ≤ W.heap.size) => isMeander A A' xs (matchingP s) cap c' lo hi lo' hi' W h h' hh hh' hl (by have := matchingP_len s; omega))
    rw [← hL] at HPA
    have h1 := hr.1
    have h6 := hr.2
    clear hx hH hr hL
    go_enter Try.func12, Try.ntmps12
    go_wp2_with fail
    (with_reducible refine HN.out.mono ?_)
    rintro e w1 ⟨rfl, hb⟩
    have HB := Lib.hid hb
    have HV1 := Lib.hid (HV.out.keep hb hhi)
    have z1 := hb.size
    clear hb
    go_wp2_with fail
    (with_reducible refine (l1In_yes _ 1 6 _ h1 h6).mono ?_)
    rintro e w' ⟨rfl, rfl⟩
    go_wp2_with fail
    (with_reducible refine (HPA.out _).mono ?_)
    rintro e w2 ⟨v, rfl, ho, hb⟩
    obtain ⟨A2, c2, rfl, -⟩ := id ho
    have HO := Lib.hid ho
    have HB2 := Lib.hid (HB.out.trans (hb.mono z1))
    have HV2 := Lib.hid (HV1.out.keep hb (by omega))
    have z2 := hb.size
    clear ho hb
    have hln := HLN.out
    go_wp2
    go_loopw [6] (fun y wr => ∃ i : Nat, i ≤ L.length ∧ y = .int .i64 i ∧ Below w2.heap.size w2 wr ∧ ∀ j, j < i → hitB xs (L.getD j E0) = false) (fun y _ => L.length - (intOf y).toNat)
    case atStart => exact ⟨0, Nat.zero_le _, rfl, Below.refl _ _, fun j h => absurd h (Nat.not_lt_zero _)⟩
    case round =>
      obtain ⟨i, hi1, rfl, hb, hno⟩ := hrel
      have HBW := Lib.hid hb
      have HNO := Lib.hid hno
      have z3 := hb.size
      clear hb hno
      by_cases hlt : i < L.length
      · have hii : (i : Int) < (L.length : Int) := by omega
        obtain ⟨g1, p1, e1, -, -, hc1, -⟩ := (HO.out.keep HBW.out (Nat.le_refl _)).cell (j := i) hlt
        simp only [Value.slice.injEq] at e1
        obtain ⟨rfl, -, -⟩ := e1
        have HHIT := Lib.hid (fun hy => find_hit hlt HNO.out hy)
        have HSTEP := Lib.hid (fun (hy : hitB xs (L.getD i E0) = false) => show ∀ j, j < i + 1 → hitB xs (L.getD j E0) = false from fun j hj => by
          by_cases ej : j = i
          · subst ej; exact hy
          · exact HNO.out j (by omega))
        have hsz := HSZ.out i
        have HEQ := Lib.hid (fun s => show hitB xs s = (lpP xs (matchingP s) == 1) from rfl)
        generalize L.getD i E0 = s at *
        go_wp2_with fail
        (with_reducible refine (matchingOf s _ (by omega)).mono ?_)
        rintro e w3 ⟨u, rfl, ho, hb⟩
        obtain ⟨A3, c3, rfl, -⟩ := id ho
        have HO3 := Lib.hid ho
        have HB3 := Lib.hid (HBW.out.trans (hb.mono z3))
        have z4 := hb.size
        have HV3 := Lib.hid (HV2.out.keep HB3.out (by omega))
        clear ho hb
        go_wp2_with fail
        (with_reducible refine (HME.out _ s _ _ _ _ HV3.out HO3.out (by omega) (Nat.le_refl _)).mono ?_)
        rintro e w4 ⟨rfl, hb⟩
        have HB4 := Lib.hid (HB3.out.trans (hb.mono (by omega)))
        have HO4 := Lib.hid (HO3.out.keep hb (Nat.le_refl _))
        have z5 := hb.size
        clear hb
        rcases hh : hitB xs s with _ | _
        · have HS2 := Lib.hid (HSTEP.out hh)
          rw [show (lpP xs (matchingP s) == 1) = false from (HEQ.out s).symm.trans hh]
          clear hh
          go_wp2
          exact ⟨⟨i + 1, by omega, by simp, HB4.out, HS2.out⟩, by simp [intOf]; omega⟩
        · have HP := Lib.hid (mp_some (HF.out.trans (HHIT.out hh)))
          rw [show (lpP xs (matchingP s) == 1) = true from (HEQ.out s).symm.trans hh]
          clear hh
          go_wp2
          go_ret2
          exact ⟨_, ret_ib rfl HP.out.1.symm, by rw [HP.out.2]; exact HO4.out.wide (by omega) z5, HB2.out.trans (HB4.out.mono (by omega))⟩
      · obtain rfl : i = L.length := by omega
        have HP := Lib.hid (mp_none (HF.out.trans (find_miss HNO.out)))
        go_wp2
        go_ret2
        exact ⟨_, ret_ib rfl HP.out.1.symm, by rw [HP.out.2]; exact ⟨_, _, rfl, .inl rfl⟩, (HB2.out.trans (HBW.out.mono (by omega))).alloc (by omega) _⟩
  · have HP := Lib.hid (mp_none (show mpF xs = none by
      by_cases h0 : H = 0
      · exact mp_zero (by omega)
      · exact mp_long (by omega)))
    have HNY := Lib.hid (fun W => l1In_nay (H : Int) 1 6 W hr)
    clear hx hH hr
    go_enter Try.func12, Try.ntmps12
    go_wp2_with fail
    (with_reducible refine HN.out.mono ?_)
    rintro e w1 ⟨rfl, hb⟩
    have HB := Lib.hid hb
    clear hb
    go_wp2_with fail
    (with_reducible refine (HNY.out _).mono ?_)
    rintro e w' ⟨rfl, rfl⟩
    go_wp2
    go_ret2
    exact ⟨_, ret_ib rfl HP.out.1.symm, by rw [HP.out.2]; exact ⟨_, _, rfl, .inl rfl⟩, HB.out.alloc HB.out.size _⟩

/-- The matchings of the first i paths. -/
def mtT (L : List ByteArray) (i : Nat) : List (List Int) := (List.range i).map fun q => matchingP (L.getD q E0)
theorem mtT_len (L : List ByteArray) (i : Nat) : (mtT L i).length = i := by simp [mtT]
theorem mtT_succ (L : List ByteArray) (i : Nat) : mtT L (i + 1) = mtT L i ++ [matchingP (L.getD i E0)] := by simp [mtT, List.range_succ]
theorem mtT_at (L : List ByteArray) {i q : Nat} (h : q < i) : (mtT L i).getD q [] = matchingP (L.getD q E0) := by simp [mtT, List.getD, h]

set_option maxRecDepth 100000 in
set_option maxHeartbeats 1600000 in
theorem matchingsOfI (n : Int) (w : World) : Calls Try.prog 27 #[.int .i64 n] w fun e w' => ∃ v vs, e = .returned v ∧ TbO w' w.heap.size v vs (mtT (pathsP n) (pathsP n).length) ∧ Below w.heap.size w w' := by
  obtain ⟨L, hL⟩ : ∃ L, L = pathsP n := ⟨_, rfl⟩
  have HPA := Lib.hid (pathsOfI2 n w)
  have HLN := Lib.hid (show L.length ≤ 4096 by rw [hL]; exact paths_len _)
  have HSZ := Lib.hid (fun j => show (L.getD j E0).size ≤ 100 by rw [hL]; exact paths_sz _ j)
  rw [← hL] at HPA ⊢
  clear hL
  go_enter Try.func27, Try.ntmps27
  go_wp2_with fail
  (with_reducible refine HPA.out.mono ?_)
  rintro e w1 ⟨v, rfl, ho, hb⟩
  obtain ⟨A2, c2, rfl, -⟩ := id ho
  have HO := Lib.hid ho
  have HB := Lib.hid hb
  have z1 := hb.size
  clear ho hb
  have hln := HLN.out
  have HT0 := Lib.hid (show TbO w1 w1.heap.size (.slice none 0 0) [] (mtT L 0) from TbO.nil _ _)
  go_wp2
  go_loopw [3, 11] (fun v y wr => ∃ (i : Nat) (vs : List Value), i ≤ L.length ∧ y = .int .i64 i ∧ TbO wr w1.heap.size v vs (mtT L i) ∧ Below w1.heap.size w1 wr) (fun _ y _ => L.length - (intOf y).toNat)
  case atStart => exact ⟨0, [], Nat.zero_le _, rfl, HT0.out, Below.refl _ _⟩
  case round =>
    obtain ⟨i, vs, hi1, rfl, ht, hb1⟩ := hrel
    have HT := Lib.hid ht
    have HB1 := Lib.hid hb1
    have z3 := hb1.size
    clear ht hb1
    by_cases hlt : i < L.length
    · have hii : (i : Int) < (L.length : Int) := by omega
      obtain ⟨g1, p1, e1, -, -, hc1, -⟩ := (HO.out.keep HB1.out (Nat.le_refl _)).cell (j := i) hlt
      simp only [Value.slice.injEq] at e1
      obtain ⟨rfl, -, -⟩ := e1
      have hsz := HSZ.out i
      have HSU := Lib.hid (mtT_succ L i)
      have hll : (mtT L i).length ≤ 1099511627776 := by rw [mtT_len]; omega
      generalize L.getD i E0 = s at *
      generalize mtT L i = T at *
      go_wp2_with fail
      (with_reducible refine (matchingOfI s _ (by omega)).mono ?_)
      rintro e w3 ⟨u, rfl, ho, hb⟩
      obtain ⟨A3, c3, rfl, -⟩ := id ho
      have HO3 := Lib.hid (ho.wide z3 (Nat.le_refl _))
      have HT3 := Lib.hid (HT.out.keep hb)
      have HB4 := Lib.hid (HB1.out.trans (hb.mono z3))
      have z4 := hb.size
      have zw : w1.heap.size ≤ w3.heap.size := by omega
      have HUA := Lib.hid ((HO3.out.keep ((Below.refl w3.heap.size w3).alloc (Nat.le_refl _) (.cells #[.slice A3 (matchingP s).length c3] 22)) (Nat.le_refl _)).wide (Nat.le_refl _) (show w3.heap.size ≤ (w3.alloc (.cells #[.slice A3 (matchingP s).length c3] 22)).heap.size by simp))
      clear ho hb
      go_wp2_with (at_builtin; go_must (refine wpAppTO rfl _ _ rfl w1.heap.size u3 vs _ rfl (HT3.out.alloc _) w3.heap.size _ (.slice A3 (matchingP s).length c3) _ rfl (cell_one _ _ _) HUA.out (by omega) (base_up zw) ?_); intro v' w' hown' hg')
      have HBN := Lib.hid ((HB4.out.alloc zw (.cells #[.slice A3 (matchingP s).length c3] 22)).grown hg' (base_up zw) (fun k hk => (HT3.out.own.lt k hk).1))
      go_roundw
      case rel => exact ⟨i + 1, _, by omega, by simp, by rw [HSU.out]; exact hown', HBN.out⟩
      case measure => simp [intOf]; omega
    · obtain rfl : i = L.length := by omega
      go_wp2
      go_ret
      exact ⟨_, vs, rfl, HT.out.lower z1, HB.out.trans (HB1.out.mono z1)⟩

set_option maxRecDepth 100000 in
set_option maxHeartbeats 1600000 in
theorem meanderPartnerI (A : Option Addr) (xs : List Int) (cap lo hi : Nat) (w : World) (hv : OwnI w lo hi (.slice A xs.length cap) xs) (hhi : hi ≤ w.heap.size) (hl : xs.length ≤ 1099511627776) :
    Calls Try.prog 13 #[.slice A xs.length cap] w (AnsIB (mpP xs) (mpOk xs) w) := by
  have HV := Lib.hid hv
  clear hv
  obtain ⟨H, hH⟩ : ∃ H : Nat, H = xs.length / 2 := ⟨_, rfl⟩
  have q1 : ((xs.length : Int)).tdiv 2 = (H : Int) := by rw [Int.tdiv_eq_ediv_of_nonneg (by omega)]; omega
  have q2 : (xs.length : Int) / 2 = (H : Int) := by omega
  have q3 : IntKind.i64.wrap (H : Int) = (H : Int) := IntWalk.i64_in _ (by omega)
  obtain ⟨L, hL⟩ : ∃ L, L = pathsP (H : Int) := ⟨_, rfl⟩
  have HF := Lib.hid (show mpF xs = L.find? (hitB xs) by unfold mpF; rw [hL, hH])
  have HPA := Lib.hid (fun W => matchingsOfI (H : Int) W)
  have HLN := Lib.hid (show L.length ≤ 4096 by rw [hL]; exact paths_len _)
  have HML := Lib.hid (mtT_len L L.length)
  have HMA := Lib.hid (fun i (h : i < L.length) => mtT_at L h)
  have HME := Lib.hid (fun A' s c' lo' hi' W (h : OwnI W lo hi (.slice A xs.length cap) xs) (h' : OwnI W lo' hi' (.slice A' (matchingP s).length c') (matchingP s)) (hh : hi ≤ W.heap.size) (hh' : hi' ≤ W.heap.size) => isMeanderI A A' xs (matchingP s) cap c' lo hi lo' hi' W h h' hh hh' hl (by have := matchingP_len s; omega))
  rw [← hL] at HPA
  clear hH hL
  go_enter Try.func13, Try.ntmps13
  go_wp2_with fail
  (with_reducible refine (HPA.out _).mono ?_)
  rintro e w2 ⟨v, vs, rfl, ht, hb⟩
  obtain ⟨A2, c2, rfl⟩ := ht.form
  rw [HML.out]
  have HT := Lib.hid ht
  have HB2 := Lib.hid hb
  have HV2 := Lib.hid (HV.out.keep hb hhi)
  have z2 := hb.size
  clear ht hb
  have hln := HLN.out
  go_wp2
  go_loopw [11] (fun y wr => ∃ i : Nat, i ≤ L.length ∧ y = .int .i64 i ∧ Below w2.heap.size w2 wr ∧ ∀ j, j < i → hitB xs (L.getD j E0) = false) (fun y _ => L.length - (intOf y).toNat)
  case atStart => exact ⟨0, Nat.zero_le _, rfl, Below.refl _ _, fun j h => absurd h (Nat.not_lt_zero _)⟩
  case round =>
    obtain ⟨i, hi1, rfl, hb, hno⟩ := hrel
    have HBW := Lib.hid hb
    have HNO := Lib.hid hno
    have z3 := hb.size
    clear hb hno
    by_cases hlt : i < L.length
    · have hii : (i : Int) < (L.length : Int) := by omega
      obtain ⟨o, c, e1, -, ho, hc⟩ := HT.out.cell (j := i) (by rw [HML.out]; exact hlt)
      simp only [Value.slice.injEq] at e1
      obtain ⟨rfl, -, -⟩ := e1
      have hc1 := (HBW.out.cell (p := ⟨o, i, none⟩) ho).trans hc
      have hrow := HT.out.row i (by rw [HML.out]; exact hlt)
      rw [HMA.out i hlt] at hrow
      have HHIT := Lib.hid (fun hy => find_hit hlt HNO.out hy)
      have HSTEP := Lib.hid (fun (hy : hitB xs (L.getD i E0) = false) => show ∀ j, j < i + 1 → hitB xs (L.getD j E0) = false from fun j hj => by
        by_cases ej : j = i
        · subst ej; exact hy
        · exact HNO.out j (by omega))
      have HEQ := Lib.hid (fun s => show hitB xs s = (lpP xs (matchingP s) == 1) from rfl)
      generalize L.getD i E0 = s at *
      generalize vs.getD i (.slice none 0 0) = u at *
      obtain ⟨A3, c3, rfl, -⟩ := id hrow
      have HO3 := Lib.hid (hrow.keep HBW.out (Nat.le_refl _))
      have HV3 := Lib.hid (HV2.out.keep HBW.out (by omega))
      clear hrow hc
      go_wp2_with fail
      (with_reducible refine (HME.out _ s _ _ _ _ HV3.out HO3.out (by omega) (by omega)).mono ?_)
      rintro e w4 ⟨rfl, hb⟩
      have HB4 := Lib.hid (HBW.out.trans (hb.mono (by omega)))
      have HO4 := Lib.hid (HO3.out.keep hb (by omega))
      have z5 := hb.size
      clear hb
      rcases hh : hitB xs s with _ | _
      · have HS2 := Lib.hid (HSTEP.out hh)
        rw [show (lpP xs (matchingP s) == 1) = false from (HEQ.out s).symm.trans hh]
        clear hh
        go_wp2
        exact ⟨⟨i + 1, by omega, by simp, HB4.out, HS2.out⟩, by simp [intOf]; omega⟩
      · have HP := Lib.hid (mp_some (HF.out.trans (HHIT.out hh)))
        rw [show (lpP xs (matchingP s) == 1) = true from (HEQ.out s).symm.trans hh]
        clear hh
        go_wp2
        go_ret2
        exact ⟨_, ret_ib rfl HP.out.1.symm, by rw [HP.out.2]; exact HO4.out.wide (Nat.le_refl _) (by omega), HB2.out.trans (HB4.out.mono (by omega))⟩
    · obtain rfl : i = L.length := by omega
      have HP := Lib.hid (mp_none (HF.out.trans (find_miss HNO.out)))
      go_wp2
      go_ret2
      exact ⟨_, ret_ib rfl HP.out.1.symm, by rw [HP.out.2]; exact ⟨_, _, rfl, .inl rfl⟩, HB2.out.trans (HBW.out.mono (by omega))⟩
end SPart24

section SLawPlain24
open Go.ChangeShapes Go.WideShapes Go.ChangeAt Go.RowKit
set_option linter.unusedVariables false

end SLawPlain24

end Go.Proofs.Ytgaggpdlpcldeaa
end

section
namespace Go.Proofs.Ytgaggpdlpcldeaa
open Go.ChangeShapes Go.WideShapes Go.ChangeAt Go.RowKit
set_option linter.unusedVariables false

def meK (xs : List Int) : Int := if mpOk xs = true then 6 else 0
def meN (xs : List Int) : List Int := if mpOk xs = true then xs else []
theorem mp_nil {xs : List Int} (h : mpOk xs = false) : mpP xs = [] := by
  rcases e : mpF xs with _ | s
  · exact (mp_none e).2
  · rw [(mp_some e).1] at h; cases h
theorem me_yes {xs : List Int} (h : mpOk xs = true) : AnsCl (meK xs) ⟨#[]⟩ (meN xs) (mpP xs) (mpOk xs) = AnsCl 6 ⟨#[]⟩ xs (mpP xs) true := by unfold meK meN; simp only [h, if_true]
theorem me_no {xs : List Int} (h : mpOk xs = false) : AnsCl (meK xs) ⟨#[]⟩ (meN xs) (mpP xs) (mpOk xs) = AnsCl 0 ⟨#[]⟩ [] [] false := by
  unfold meK meN
  rw [mp_nil h]
  simp [h]
theorem meN_len (xs : List Int) : (meN xs).length ≤ 1048576 := by
  unfold meN
  split
  · rename_i h
    by_cases hl : 6 < xs.length / 2
    · rw [(mp_none (mp_long hl)).1] at h; cases h
    · omega
  · simp

set_option maxRecDepth 100000 in
set_option maxHeartbeats 3200000 in
theorem mea_no (A1 : Option Addr) (xs : List Int) (lo hi : Nat) (w : World) (hv : OwnI w lo hi (.slice A1 xs.length xs.length) xs) (hhi : hi ≤ w.heap.size) (hl : xs.length ≤ 1048576) (ho : mpOk xs = false) :
    Calls Try.prog 4 #[.slice A1 xs.length xs.length] w (AnsCl (meK xs) ⟨#[]⟩ (meN xs) (mpP xs) (mpOk xs) w) := by
  rw [me_no ho]
  have HX0 := Lib.hid (Rz.start w)
  have HV0 := Lib.hid (hv.keep HX0.out.bl hhi)
  have z0 : w.heap.size < (w.alloc (clO 0 ⟨#[]⟩ (.slice none 0 0) (.slice none 0 0))).heap.size := HX0.out.lt
  clear hv
  have HP := Lib.hid (fun w (hv : OwnI w lo hi (.slice A1 xs.length xs.length) xs) (hhi : hi ≤ w.heap.size) => meanderPartner _ xs _ lo hi w hv hhi (by omega))
  rw [ho] at HP
  go_enter Try.func4, Try.ntmps4
  go_wp2_with fail
  (with_reducible refine (HP.out _ HV0.out (by omega)).mono ?_)
  rintro e w1 ⟨v1, rfl, hq, hb⟩
  have z1 := hb.size
  have HX1 := Lib.hid (HX0.out.call hb (by omega))
  have HV1 := Lib.hid (HV0.out.keep hb (by omega))
  clear hb
  obtain ⟨A2, c2, rfl, -⟩ := id hq
  clear hq
  obtain ⟨⟨k0, k1, k2, k3, k4, k5, k6, -⟩, hfr, -, hsz⟩ := HX1.out
  have f0 := hfr 0 (by omega)
  have f1 := hfr 1 (by omega)
  have f2 := hfr 2 (by omega)
  have f3 := hfr 3 (by omega)
  have f4 := hfr 4 (by omega)
  have f5 := hfr 5 (by omega)
  have f6 := hfr 6 (by omega)
  clear hfr
  go_wp2
  (try simp only [Exit.inBlock, Exit.then])
  refine bodyPost_ret (v := .tuple #[clV 0 ⟨#[]⟩ (.slice none 0 0) (.slice none 0 0), .bool false]) ?_ rfl ⟨_, _, w1.heap.size, w1.heap.size, w1.heap.size, w1.heap.size, rfl, seven_own (own_none _ _ _) (by omega), seven_own (own_none _ _ _) (by omega), .inr (Nat.le_refl _), by omega, by omega, ?_, ?_, seven_below HX1.out.bl⟩
  · rw [results_cell_tmp rfl]
    go_simp
  · rw [seven_size]; omega
  · rw [seven_size]; omega

set_option maxRecDepth 100000 in
set_option maxHeartbeats 3200000 in
theorem mea_yes (A1 : Option Addr) (xs : List Int) (lo hi : Nat) (w : World) (hv : OwnI w lo hi (.slice A1 xs.length xs.length) xs) (hhi : hi ≤ w.heap.size) (hl : xs.length ≤ 1048576) (ho : mpOk xs = true) :
    Calls Try.prog 4 #[.slice A1 xs.length xs.length] w (AnsCl (meK xs) ⟨#[]⟩ (meN xs) (mpP xs) (mpOk xs) w) := by
  rw [me_yes ho]
  have HX0 := Lib.hid (Rz.start w)
  have HV0 := Lib.hid (hv.keep HX0.out.bl hhi)
  have z0 : w.heap.size < (w.alloc (clO 0 ⟨#[]⟩ (.slice none 0 0) (.slice none 0 0))).heap.size := HX0.out.lt
  clear hv
  have HP := Lib.hid (fun w (hv : OwnI w lo hi (.slice A1 xs.length xs.length) xs) (hhi : hi ≤ w.heap.size) => meanderPartner _ xs _ lo hi w hv hhi (by omega))
  rw [ho] at HP
  go_enter Try.func4, Try.ntmps4
  go_wp2_with fail
  (with_reducible refine (HP.out _ HV0.out (by omega)).mono ?_)
  rintro e w1 ⟨v1, rfl, hq, hb⟩
  have z1 := hb.size
  have HX1 := Lib.hid (HX0.out.call hb (by omega))
  have HV1 := Lib.hid (HV0.out.keep hb (by omega))
  have HO := Lib.hid hq
  clear hb
  obtain ⟨A2, c2, rfl, -⟩ := id hq
  clear hq
  go_wp2_with (at_builtin; go_must (refine wpCopy rfl _ _ rfl A1 xs.length lo hi xs HV1.out (by omega) rfl rfl hl ?_); intro g c w2 hr hb; have z2 := hb.size; have HX2 := Lib.hid (HX1.out.call hb (by omega)); have HN := Lib.hid (OwnI.of_row hr); have HO2 := Lib.hid (HO.out.keep hb (Nat.le_refl _)); clear hr hb; obtain ⟨⟨k0, k1, k2, k3, k4, k5, k6, -⟩, hfr, -, hsz⟩ := HX2.out; have f0 := hfr 0 (by omega); have f1 := hfr 1 (by omega); have f2 := hfr 2 (by omega); have f3 := hfr 3 (by omega); have f4 := hfr 4 (by omega); have f5 := hfr 5 (by omega); have f6 := hfr 6 (by omega); clear hfr)
  (try simp only [Exit.inBlock, Exit.then])
  refine bodyPost_ret (v := .tuple #[clV 6 ⟨#[]⟩ (.slice (some ⟨g, 0, none⟩) xs.length c) (.slice A2 (mpP xs).length c2), .bool true]) ?_ rfl ⟨_, _, w1.heap.size, w2.heap.size, _, w1.heap.size, rfl, seven_own (HN.out) (by omega), seven_own (HO2.out) (by omega), .inr (Nat.le_refl _), by omega, by omega, ?_, ?_, seven_below HX2.out.bl⟩
  · rw [results_cell_tmp rfl]
    go_simp
  · rw [seven_size]; omega
  · rw [seven_size]; omega

set_option maxRecDepth 100000 in
set_option maxHeartbeats 3200000 in
theorem meaI_no (A1 : Option Addr) (xs : List Int) (lo hi : Nat) (w : World) (hv : OwnI w lo hi (.slice A1 xs.length xs.length) xs) (hhi : hi ≤ w.heap.size) (hl : xs.length ≤ 1048576) (ho : mpOk xs = false) :
    Calls Try.prog 6 #[.slice A1 xs.length xs.length] w (AnsCl (meK xs) ⟨#[]⟩ (meN xs) (mpP xs) (mpOk xs) w) := by
  rw [me_no ho]
  have HX0 := Lib.hid (Rz.start w)
  have HV0 := Lib.hid (hv.keep HX0.out.bl hhi)
  have z0 : w.heap.size < (w.alloc (clO 0 ⟨#[]⟩ (.slice none 0 0) (.slice none 0 0))).heap.size := HX0.out.lt
  clear hv
  have HP := Lib.hid (fun w (hv : OwnI w lo hi (.slice A1 xs.length xs.length) xs) (hhi : hi ≤ w.heap.size) => meanderPartnerI _ xs _ lo hi w hv hhi (by omega))
  rw [ho] at HP
  go_enter Try.func6, Try.ntmps6
  go_wp2_with fail
  (with_reducible refine (HP.out _ HV0.out (by omega)).mono ?_)
  rintro e w1 ⟨v1, rfl, hq, hb⟩
  have z1 := hb.size
  have HX1 := Lib.hid (HX0.out.call hb (by omega))
  have HV1 := Lib.hid (HV0.out.keep hb (by omega))
  clear hb
  obtain ⟨A2, c2, rfl, -⟩ := id hq
  clear hq
  obtain ⟨⟨k0, k1, k2, k3, k4, k5, k6, -⟩, hfr, -, hsz⟩ := HX1.out
  have f0 := hfr 0 (by omega)
  have f1 := hfr 1 (by omega)
  have f2 := hfr 2 (by omega)
  have f3 := hfr 3 (by omega)
  have f4 := hfr 4 (by omega)
  have f5 := hfr 5 (by omega)
  have f6 := hfr 6 (by omega)
  clear hfr
  go_wp2
  (try simp only [Exit.inBlock, Exit.then])
  refine bodyPost_ret (v := .tuple #[clV 0 ⟨#[]⟩ (.slice none 0 0) (.slice none 0 0), .bool false]) ?_ rfl ⟨_, _, w1.heap.size, w1.heap.size, w1.heap.size, w1.heap.size, rfl, seven_own (own_none _ _ _) (by omega), seven_own (own_none _ _ _) (by omega), .inr (Nat.le_refl _), by omega, by omega, ?_, ?_, seven_below HX1.out.bl⟩
  · rw [results_cell_tmp rfl]
    go_simp
  · rw [seven_size]; omega
  · rw [seven_size]; omega

set_option maxRecDepth 100000 in
set_option maxHeartbeats 3200000 in
theorem meaI_yes (A1 : Option Addr) (xs : List Int) (lo hi : Nat) (w : World) (hv : OwnI w lo hi (.slice A1 xs.length xs.length) xs) (hhi : hi ≤ w.heap.size) (hl : xs.length ≤ 1048576) (ho : mpOk xs = true) :
    Calls Try.prog 6 #[.slice A1 xs.length xs.length] w (AnsCl (meK xs) ⟨#[]⟩ (meN xs) (mpP xs) (mpOk xs) w) := by
  rw [me_yes ho]
  have HX0 := Lib.hid (Rz.start w)
  have HV0 := Lib.hid (hv.keep HX0.out.bl hhi)
  have z0 : w.heap.size < (w.alloc (clO 0 ⟨#[]⟩ (.slice none 0 0) (.slice none 0 0))).heap.size := HX0.out.lt
  clear hv
  have HP := Lib.hid (fun w (hv : OwnI w lo hi (.slice A1 xs.length xs.length) xs) (hhi : hi ≤ w.heap.size) => meanderPartnerI _ xs _ lo hi w hv hhi (by omega))
  rw [ho] at HP
  go_enter Try.func6, Try.ntmps6
  go_wp2_with fail
  (with_reducible refine (HP.out _ HV0.out (by omega)).mono ?_)
  rintro e w1 ⟨v1, rfl, hq, hb⟩
  have z1 := hb.size
  have HX1 := Lib.hid (HX0.out.call hb (by omega))
  have HV1 := Lib.hid (HV0.out.keep hb (by omega))
  have HO := Lib.hid hq
  clear hb
  obtain ⟨A2, c2, rfl, -⟩ := id hq
  clear hq
  go_wp2_with fail
  (with_reducible refine (cloneI _ xs _ lo hi _ HV1.out (by omega) hl).mono ?_)
  rintro e w2 ⟨v2, rfl, hr, hb⟩
  have z2 := hb.size
  have HX2 := Lib.hid (HX1.out.call hb (by omega))
  have HV2 := Lib.hid (HV1.out.keep hb (by omega))
  have HN := Lib.hid (OwnI.of_row hr)
  have HO2 := Lib.hid (HO.out.keep hb (Nat.le_refl _))
  clear hb
  obtain ⟨A3, c3, rfl, -⟩ := id HN.out
  clear hr
  obtain ⟨⟨k0, k1, k2, k3, k4, k5, k6, -⟩, hfr, -, hsz⟩ := HX2.out
  have f0 := hfr 0 (by omega)
  have f1 := hfr 1 (by omega)
  have f2 := hfr 2 (by omega)
  have f3 := hfr 3 (by omega)
  have f4 := hfr 4 (by omega)
  have f5 := hfr 5 (by omega)
  have f6 := hfr 6 (by omega)
  clear hfr
  go_wp2
  (try simp only [Exit.inBlock, Exit.then])
  refine bodyPost_ret (v := .tuple #[clV 6 ⟨#[]⟩ (.slice A3 xs.length c3) (.slice A2 (mpP xs).length c2), .bool true]) ?_ rfl ⟨_, _, w1.heap.size, w2.heap.size, _, w1.heap.size, rfl, seven_own (HN.out) (by omega), seven_own (HO2.out) (by omega), .inr (Nat.le_refl _), by omega, by omega, ?_, ?_, seven_below HX2.out.bl⟩
  · rw [results_cell_tmp rfl]
    go_simp
  · rw [seven_size]; omega
  · rw [seven_size]; omega

theorem claimOfMeander (A1 : Option Addr) (xs : List Int) (lo hi : Nat) (w : World) (hv : OwnI w lo hi (.slice A1 xs.length xs.length) xs) (hhi : hi ≤ w.heap.size) (hl : xs.length ≤ 1048576) :
    Calls Try.prog 4 #[.slice A1 xs.length xs.length] w (AnsCl (meK xs) ⟨#[]⟩ (meN xs) (mpP xs) (mpOk xs) w) := by
  rcases ho : mpOk xs with _ | _
  · have := mea_no A1 xs lo hi w hv hhi hl ho
    rw [ho] at this
    exact this
  · have := mea_yes A1 xs lo hi w hv hhi hl ho
    rw [ho] at this
    exact this
theorem claimOfMeanderI (A1 : Option Addr) (xs : List Int) (lo hi : Nat) (w : World) (hv : OwnI w lo hi (.slice A1 xs.length xs.length) xs) (hhi : hi ≤ w.heap.size) (hl : xs.length ≤ 1048576) :
    Calls Try.prog 6 #[.slice A1 xs.length xs.length] w (AnsCl (meK xs) ⟨#[]⟩ (meN xs) (mpP xs) (mpOk xs) w) := by
  rcases ho : mpOk xs with _ | _
  · have := meaI_no A1 xs lo hi w hv hhi hl ho
    rw [ho] at this
    exact this
  · have := meaI_yes A1 xs lo hi w hv hhi hl ho
    rw [ho] at this
    exact this

end Go.Proofs.Ytgaggpdlpcldeaa
end

section
namespace Go.Proofs.Ytgaggpdlpcldeaa
open Go.ChangeShapes Go.WideShapes Go.ChangeAt Go.RowKit
set_option linter.unusedVariables false

theorem boxed33 (w : World) (k : Int) (s : ByteArray) (u v : Value) : Cl (w.alloc (.cells #[.int .i64 k, .string s, .string ⟨#[]⟩, .slice none 0 0, u, v, .slice none 0 0] 26)) w.heap.size k s u v ∧ Below w.heap.size w (w.alloc (.cells #[.int .i64 k, .string s, .string ⟨#[]⟩, .slice none 0 0, u, v, .slice none 0 0] 26)) ∧ (w.alloc (.cells #[.int .i64 k, .string s, .string ⟨#[]⟩, .slice none 0 0, u, v, .slice none 0 0] 26)).heap.size = w.heap.size + 1 :=
  ⟨Cl.start w k s u v, (Below.refl _ w).alloc (Nat.le_refl _) _, by simp⟩

set_option maxRecDepth 100000 in
set_option maxHeartbeats 6400000 in
theorem lawClaimOfMeander (v0 : Value) (xs0 : List Int) (k : Int) (s : ByteArray) (xs ys : List Int) (R : Bool) (w : World) (hv0 : ArgI w v0 xs0) (mp0 : xs0.length ≤ 9223372036854775807) (hxl : xs.length ≤ 1048576) (hyl : ys.length ≤ 1048576)
    (hS : xs0.length ≤ 1048576 → ∀ u0 lo0 hi0, ∀ w, OwnI w lo0 hi0 (.slice u0 xs0.length xs0.length) xs0 → hi0 ≤ w.heap.size → Calls Try.prog 4 #[(.slice u0 xs0.length xs0.length)] w (AnsCl k s xs ys R w))
    (hI : xs0.length ≤ 1048576 → ∀ u0 lo0 hi0, ∀ w, OwnI w lo0 hi0 (.slice u0 xs0.length xs0.length) xs0 → hi0 ≤ w.heap.size → Calls Try.prog 6 #[(.slice u0 xs0.length xs0.length)] w (AnsCl k s xs ys R w)) :
    Calls Try.prog 3 #[v0] w fun e w' => e = .returned (.bool true) ∧ Below w.heap.size w w' := by
  obtain ⟨Aa0, ca0, rfl, -⟩ := id hv0
  by_cases hbig0 : 1048576 < xs0.length
  · have hbi0 : (1048576 : Int) < (xs0.length : Int) := by omega
    clear hS hI hv0
    go_enter Try.func3, Try.ntmps3
    go_wp2
    go_ret
    exact ⟨rfl, Below.refl _ _⟩
  have hsm0 : xs0.length ≤ 1048576 := by omega
  have HS := Lib.hid (hS hsm0)
  have HI := Lib.hid (hI hsm0)
  have HV0 := Lib.hid hv0
  clear hS hI hv0
  have hr1 : (R != R) = false := by simp
  have hq1 : (R == R) = true := by simp
  have hn0 : ¬ 1 + (xs0.length : Int) < 0 := by omega
  have hn1 : ¬ 1 + (xs.length : Int) + (ys.length : Int) < 0 := by omega
  have hn2 : (1 + (xs.length : Int) + (ys.length : Int) != 1 + (xs.length : Int) + (ys.length : Int)) = false := by simp
  have hn3 : (1 + (xs.length : Int) + (ys.length : Int) == 1 + (xs.length : Int) + (ys.length : Int)) = true := by simp
  have Hw0 := Lib.hid (Below.refl w.heap.size w)
  go_enter Try.func3, Try.ntmps3
  go_wp2_with fail
  (with_reducible refine (toIntC _ xs0 _ (HV0.out.keep Hw0.out) hsm0).mono ?_)
  rintro e w1 ⟨A1, rfl, ho, hb⟩
  have z1 := hb.size
  have Hw1 := Lib.hid (Hw0.out.trans (hb.mono Hw0.out.size))
  clear hb
  have T := Lib.hid ho
  clear ho
  go_wp2_with fail
  (with_reducible refine (HS.out _ _ _ _ T.out (by omega)).mono ?_)
  rintro e w2 ⟨xu2, xv2, l2, h2, p2, q2, rfl, oN, oO, d2, e21, e22, e23, e24, hb⟩
  have z2 := hb.size
  have T_2 := Lib.hid (T.out.keep hb (by omega))
  have Hw2 := Lib.hid (Hw1.out.trans (hb.mono Hw1.out.size))
  clear hb
  obtain ⟨u2, cu2, rfl, -⟩ := id oN
  obtain ⟨v2, cv2, rfl, -⟩ := id oO
  have W1 := Lib.hid oN
  have W2 := Lib.hid oO
  clear oN oO
  obtain ⟨BC, BB, BZ⟩ := boxed33 w2 k s (.slice u2 xs.length cu2) (.slice v2 ys.length cv2)
  have HBC := Lib.hid BC
  have HBB := Lib.hid BB
  clear BC BB
  go_wp2_with fail
  have BC := HBC.out
  have hb := HBB.out
  clear HBC HBB
  generalize (w2.alloc (.cells #[.int .i64 k, .string s, .string ⟨#[]⟩, .slice none 0 0, (.slice u2 xs.length cu2), (.slice v2 ys.length cv2), .slice none 0 0] 26)) = w3 at BC hb BZ ⊢
  have z3 := hb.size
  have W1_3 := Lib.hid (W1.out.keep hb (by omega))
  have W2_3 := Lib.hid (W2.out.keep hb (by omega))
  have M := Lib.hid BC
  have Hw3 := Lib.hid (Hw2.out.trans (hb.mono Hw2.out.size))
  clear hb BC
  (with_reducible refine (toIntC _ xs0 _ (HV0.out.keep Hw3.out) hsm0).mono ?_)
  rintro e w4 ⟨A4, rfl, ho, hb⟩
  have z4 := hb.size
  have W1_4 := Lib.hid (W1_3.out.keep hb (by omega))
  have W2_4 := Lib.hid (W2_3.out.keep hb (by omega))
  have M_4 := Lib.hid (M.out.keep hb (by omega))
  have Hw4 := Lib.hid (Hw3.out.trans (hb.mono Hw3.out.size))
  clear hb
  have X := Lib.hid ho
  clear ho
  go_wp2_with fail
  (with_reducible refine (HI.out _ _ _ _ X.out (by omega)).mono ?_)
  rintro e w5 ⟨xu5, xv5, l5, h5, p5, q5, rfl, oN, oO, d5, e51, e52, e53, e54, hb⟩
  have z5 := hb.size
  have W1_5 := Lib.hid (W1_4.out.keep hb (by omega))
  have W2_5 := Lib.hid (W2_4.out.keep hb (by omega))
  have M_5 := Lib.hid (M_4.out.keep hb (by omega))
  have X_5 := Lib.hid (X.out.keep hb (by omega))
  have Hw5 := Lib.hid (Hw4.out.trans (hb.mono Hw4.out.size))
  clear hb
  obtain ⟨u5, cu5, rfl, -⟩ := id oN
  obtain ⟨v5, cv5, rfl, -⟩ := id oO
  have G1 := Lib.hid oN
  have G2 := Lib.hid oO
  clear oN oO
  obtain ⟨BC, BB, BZ⟩ := boxed33 w5 k s (.slice u5 xs.length cu5) (.slice v5 ys.length cv5)
  have HBC := Lib.hid BC
  have HBB := Lib.hid BB
  clear BC BB
  obtain ⟨c0, c1, c2, c3, c4, c5, c6, -⟩ := HBC.out
  obtain ⟨m0, m1, m2, m3, m4, m5, m6, -⟩ := (M_5.out.keep HBB.out (by omega))
  go_wp2_with fail
  clear  c0 c1 c2 c3 c4 c5 c6 m0 m1 m2 m3 m4 m5 m6
  have BC := HBC.out
  have hb := HBB.out
  clear HBC HBB
  generalize (w5.alloc (.cells #[.int .i64 k, .string s, .string ⟨#[]⟩, .slice none 0 0, (.slice u5 xs.length cu5), (.slice v5 ys.length cv5), .slice none 0 0] 26)) = w6 at BC hb BZ ⊢
  have z6 := hb.size
  have W1_6 := Lib.hid (W1_5.out.keep hb (by omega))
  have W2_6 := Lib.hid (W2_5.out.keep hb (by omega))
  have M_6 := Lib.hid (M_5.out.keep hb (by omega))
  have X_6 := Lib.hid (X_5.out.keep hb (by omega))
  have G1_6 := Lib.hid (G1.out.keep hb (by omega))
  have G2_6 := Lib.hid (G2.out.keep hb (by omega))
  have N := Lib.hid BC
  have Hw6 := Lib.hid (Hw5.out.trans (hb.mono Hw5.out.size))
  clear hb BC
  (with_reducible refine (eqClaim_same k s (.slice u5 xs.length cu5) (.slice v5 ys.length cv5) (.slice u2 xs.length cu2) (.slice v2 ys.length cv2) xs ys _ _ _ _ _ _ _ _ _ G1_6.out G2_6.out W1_6.out W2_6.out (by omega) (by omega) (by omega) (by omega) hxl hyl).mono ?_)
  rintro e w7 ⟨rfl, hb⟩
  have z7 := hb.size
  have W1_7 := Lib.hid (W1_6.out.keep hb (by omega))
  have W2_7 := Lib.hid (W2_6.out.keep hb (by omega))
  have M_7 := Lib.hid (M_6.out.keep hb (by omega))
  have X_7 := Lib.hid (X_6.out.keep hb (by omega))
  have G1_7 := Lib.hid (G1_6.out.keep hb (by omega))
  have G2_7 := Lib.hid (G2_6.out.keep hb (by omega))
  have N_7 := Lib.hid (N.out.keep hb (by omega))
  have Hw7 := Lib.hid (Hw6.out.trans (hb.mono Hw6.out.size))
  clear hb
  go_wp2_with fail
  (with_reducible refine (toIntC _ xs0 _ (HV0.out.keep Hw7.out) hsm0).mono ?_)
  rintro e w8 ⟨A8, rfl, ho, hb⟩
  have z8 := hb.size
  have W1_8 := Lib.hid (W1_7.out.keep hb (by omega))
  have W2_8 := Lib.hid (W2_7.out.keep hb (by omega))
  have M_8 := Lib.hid (M_7.out.keep hb (by omega))
  have X_8 := Lib.hid (X_7.out.keep hb (by omega))
  have G1_8 := Lib.hid (G1_7.out.keep hb (by omega))
  have G2_8 := Lib.hid (G2_7.out.keep hb (by omega))
  have N_8 := Lib.hid (N_7.out.keep hb (by omega))
  have Hw8 := Lib.hid (Hw7.out.trans (hb.mono Hw7.out.size))
  clear hb
  have T := Lib.hid ho
  clear ho
  go_wp2_with fail
  (with_reducible refine (eqI_same _ _ _ _ _ _ xs0 _ X_8.out T.out (by omega)).mono ?_)
  rintro e w9 ⟨rfl, hb⟩
  have z9 := hb.size
  have W1_9 := Lib.hid (W1_8.out.keep hb (by omega))
  have W2_9 := Lib.hid (W2_8.out.keep hb (by omega))
  have M_9 := Lib.hid (M_8.out.keep hb (by omega))
  have X_9 := Lib.hid (X_8.out.keep hb (by omega))
  have G1_9 := Lib.hid (G1_8.out.keep hb (by omega))
  have G2_9 := Lib.hid (G2_8.out.keep hb (by omega))
  have N_9 := Lib.hid (N_8.out.keep hb (by omega))
  have T_9 := Lib.hid (T.out.keep hb (by omega))
  have Hw9 := Lib.hid (Hw8.out.trans (hb.mono Hw8.out.size))
  clear hb
  go_wp2_with fail
  (with_reducible refine (markO _ _ _ xs0 1 _ X_9.out (by omega) (by omega) (by omega)).mono ?_)
  rintro e w10 ⟨rfl, -, hb⟩
  have z10 := hb.size
  have W1_10 := Lib.hid (W1_9.out.apart hb (by omega))
  have W2_10 := Lib.hid (W2_9.out.apart hb (by omega))
  have M_10 := Lib.hid (M_9.out.apart hb (by omega))
  have G1_10 := Lib.hid (G1_9.out.apart hb (by omega))
  have G2_10 := Lib.hid (G2_9.out.apart hb (by omega))
  have N_10 := Lib.hid (N_9.out.apart hb (by omega))
  have Hw10 := Lib.hid (Hw9.out.trans (hb.below (by omega)))
  clear hb
  obtain ⟨m0, m1, m2, m3, m4, m5, m6, -⟩ := M_10.out
  obtain ⟨n0, n1, n2, n3, n4, n5, n6, -⟩ := N_10.out
  go_wp2_with fail
  (with_reducible refine (eqClaim_same k s (.slice u5 xs.length cu5) (.slice v5 ys.length cv5) (.slice u2 xs.length cu2) (.slice v2 ys.length cv2) xs ys _ _ _ _ _ _ _ _ _ G1_10.out G2_10.out W1_10.out W2_10.out (by omega) (by omega) (by omega) (by omega) hxl hyl).mono ?_)
  rintro e w11 ⟨rfl, hb⟩
  have z11 := hb.size
  clear m0 m1 m2 m3 m4 m5 m6
  clear n0 n1 n2 n3 n4 n5 n6
  have W1_11 := Lib.hid (W1_10.out.keep hb (by omega))
  have W2_11 := Lib.hid (W2_10.out.keep hb (by omega))
  have M_11 := Lib.hid (M_10.out.keep hb (by omega))
  have G1_11 := Lib.hid (G1_10.out.keep hb (by omega))
  have G2_11 := Lib.hid (G2_10.out.keep hb (by omega))
  have N_11 := Lib.hid (N_10.out.keep hb (by omega))
  have Hw11 := Lib.hid (Hw10.out.trans (hb.mono Hw10.out.size))
  clear hb
  obtain ⟨n0, n1, n2, n3, n4, n5, n6, -⟩ := N_11.out
  go_wp2_with fail
  (with_reducible refine (markClaim k s (.slice u5 xs.length cu5) (.slice v5 ys.length cv5) xs ys _ _ _ _ w4.heap.size w5.heap.size _ G1_11.out G2_11.out d5 (by omega) (by omega) (by omega) (by omega) (by omega) hxl hyl).mono ?_)
  rintro e w12 ⟨rfl, mg1, mg2, wx, hb, ha⟩
  have zx := hb.size
  clear n0 n1 n2 n3 n4 n5 n6
  have W1_12 := Lib.hid (W1_11.out.keep hb (by omega))
  have W2_12 := Lib.hid (W2_11.out.keep hb (by omega))
  have M_12 := Lib.hid (M_11.out.keep hb (by omega))
  have N_12 := Lib.hid (N_11.out.keep hb (by omega))
  have Hwx := Lib.hid (Hw11.out.trans (hb.mono Hw11.out.size))
  clear hb
  have z12 := ha.size
  have W1_12a := Lib.hid (W1_12.out.apart ha (by omega))
  have W2_12a := Lib.hid (W2_12.out.apart ha (by omega))
  have M_12a := Lib.hid (M_12.out.apart ha (by omega))
  have N_12a := Lib.hid (N_12.out.apart ha (by omega))
  have Hw12 := Lib.hid (Hwx.out.trans (ha.below (by omega)))
  have P1 := Lib.hid mg1
  have P2 := Lib.hid mg2
  clear ha mg1 mg2
  obtain ⟨n0, n1, n2, n3, n4, n5, n6, -⟩ := N_12a.out
  go_wp2_with fail
  (with_reducible refine (heldClaim k s (.slice u5 xs.length cu5) (.slice v5 ys.length cv5) xs.length ys.length _ _ _ _ _ P1.out P2.out (by omega) (by omega) hxl hyl).mono ?_)
  rintro e w13 ⟨rfl, hb⟩
  have z13 := hb.size
  clear n0 n1 n2 n3 n4 n5 n6
  have W1_13 := Lib.hid (W1_12a.out.keep hb (by omega))
  have W2_13 := Lib.hid (W2_12a.out.keep hb (by omega))
  have M_13 := Lib.hid (M_12a.out.keep hb (by omega))
  have N_13 := Lib.hid (N_12a.out.keep hb (by omega))
  have P1_13 := Lib.hid (P1.out.keep hb (by omega))
  have P2_13 := Lib.hid (P2.out.keep hb (by omega))
  have Hw13 := Lib.hid (Hw12.out.trans (hb.mono Hw12.out.size))
  clear hb
  go_wp2_with fail
  (with_reducible refine (toIntC _ xs0 _ (HV0.out.keep Hw13.out) hsm0).mono ?_)
  rintro e w14 ⟨A14, rfl, ho, hb⟩
  have z14 := hb.size
  have W1_14 := Lib.hid (W1_13.out.keep hb (by omega))
  have W2_14 := Lib.hid (W2_13.out.keep hb (by omega))
  have M_14 := Lib.hid (M_13.out.keep hb (by omega))
  have N_14 := Lib.hid (N_13.out.keep hb (by omega))
  have P1_14 := Lib.hid (P1_13.out.keep hb (by omega))
  have P2_14 := Lib.hid (P2_13.out.keep hb (by omega))
  have Hw14 := Lib.hid (Hw13.out.trans (hb.mono Hw13.out.size))
  clear hb
  have T := Lib.hid ho
  clear ho
  go_wp2_with fail
  (with_reducible refine (HI.out _ _ _ _ T.out (by omega)).mono ?_)
  rintro e w15 ⟨xu9, xv9, l15, h15, p15, q15, rfl, oN, oO, d15, e151, e152, e153, e154, hb⟩
  have z15 := hb.size
  have W1_15 := Lib.hid (W1_14.out.keep hb (by omega))
  have W2_15 := Lib.hid (W2_14.out.keep hb (by omega))
  have M_15 := Lib.hid (M_14.out.keep hb (by omega))
  have N_15 := Lib.hid (N_14.out.keep hb (by omega))
  have P1_15 := Lib.hid (P1_14.out.keep hb (by omega))
  have P2_15 := Lib.hid (P2_14.out.keep hb (by omega))
  have T_15 := Lib.hid (T.out.keep hb (by omega))
  have Hw15 := Lib.hid (Hw14.out.trans (hb.mono Hw14.out.size))
  clear hb
  obtain ⟨u9, cu9, rfl, -⟩ := id oN
  obtain ⟨v9, cv9, rfl, -⟩ := id oO
  have H1 := Lib.hid oN
  have H2 := Lib.hid oO
  clear oN oO
  obtain ⟨BC, BB, BZ⟩ := boxed33 w15 k s (.slice u9 xs.length cu9) (.slice v9 ys.length cv9)
  have HBC := Lib.hid BC
  have HBB := Lib.hid BB
  clear BC BB
  obtain ⟨c0, c1, c2, c3, c4, c5, c6, -⟩ := HBC.out
  obtain ⟨m0, m1, m2, m3, m4, m5, m6, -⟩ := (M_15.out.keep HBB.out (by omega))
  go_wp2_with fail
  clear  c0 c1 c2 c3 c4 c5 c6 m0 m1 m2 m3 m4 m5 m6
  have BC := HBC.out
  have hb := HBB.out
  clear HBC HBB
  generalize (w15.alloc (.cells #[.int .i64 k, .string s, .string ⟨#[]⟩, .slice none 0 0, (.slice u9 xs.length cu9), (.slice v9 ys.length cv9), .slice none 0 0] 26)) = w16 at BC hb BZ ⊢
  have z16 := hb.size
  have W1_16 := Lib.hid (W1_15.out.keep hb (by omega))
  have W2_16 := Lib.hid (W2_15.out.keep hb (by omega))
  have M_16 := Lib.hid (M_15.out.keep hb (by omega))
  have N_16 := Lib.hid (N_15.out.keep hb (by omega))
  have P1_16 := Lib.hid (P1_15.out.keep hb (by omega))
  have P2_16 := Lib.hid (P2_15.out.keep hb (by omega))
  have H1_16 := Lib.hid (H1.out.keep hb (by omega))
  have H2_16 := Lib.hid (H2.out.keep hb (by omega))
  have O := Lib.hid BC
  have Hw16 := Lib.hid (Hw15.out.trans (hb.mono Hw15.out.size))
  clear hb BC
  (with_reducible refine (eqClaim_same k s (.slice u9 xs.length cu9) (.slice v9 ys.length cv9) (.slice u2 xs.length cu2) (.slice v2 ys.length cv2) xs ys _ _ _ _ _ _ _ _ _ H1_16.out H2_16.out W1_16.out W2_16.out (by omega) (by omega) (by omega) (by omega) hxl hyl).mono ?_)
  rintro e w17 ⟨rfl, hb⟩
  have z17 := hb.size
  have W1_17 := Lib.hid (W1_16.out.keep hb (by omega))
  have W2_17 := Lib.hid (W2_16.out.keep hb (by omega))
  have M_17 := Lib.hid (M_16.out.keep hb (by omega))
  have N_17 := Lib.hid (N_16.out.keep hb (by omega))
  have P1_17 := Lib.hid (P1_16.out.keep hb (by omega))
  have P2_17 := Lib.hid (P2_16.out.keep hb (by omega))
  have H1_17 := Lib.hid (H1_16.out.keep hb (by omega))
  have H2_17 := Lib.hid (H2_16.out.keep hb (by omega))
  have O_17 := Lib.hid (O.out.keep hb (by omega))
  have Hw17 := Lib.hid (Hw16.out.trans (hb.mono Hw16.out.size))
  clear hb
  obtain ⟨n0, n1, n2, n3, n4, n5, n6, -⟩ := N_17.out
  go_wp2_with fail
  (with_reducible refine (heldClaim k s (.slice u5 xs.length cu5) (.slice v5 ys.length cv5) xs.length ys.length _ _ _ _ _ P1_17.out P2_17.out (by omega) (by omega) hxl hyl).mono ?_)
  rintro e w18 ⟨rfl, hb⟩
  have z18 := hb.size
  clear n0 n1 n2 n3 n4 n5 n6
  have W1_18 := Lib.hid (W1_17.out.keep hb (by omega))
  have W2_18 := Lib.hid (W2_17.out.keep hb (by omega))
  have M_18 := Lib.hid (M_17.out.keep hb (by omega))
  have N_18 := Lib.hid (N_17.out.keep hb (by omega))
  have P1_18 := Lib.hid (P1_17.out.keep hb (by omega))
  have P2_18 := Lib.hid (P2_17.out.keep hb (by omega))
  have H1_18 := Lib.hid (H1_17.out.keep hb (by omega))
  have H2_18 := Lib.hid (H2_17.out.keep hb (by omega))
  have O_18 := Lib.hid (O_17.out.keep hb (by omega))
  have Hw18 := Lib.hid (Hw17.out.trans (hb.mono Hw17.out.size))
  clear hb
  go_wp2
  go_ret
  exact ⟨rfl, Hw18.out⟩

end Go.Proofs.Ytgaggpdlpcldeaa
end
