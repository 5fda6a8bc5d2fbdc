/- bytes.Repeat at a slice of one byte. -/
import Derived.Test.YtefbbkogfoongaaShelfB
import Derived.Test.YtefbbkogfoongaaSpec2G
import Derived.Test.YtefbbkogfoongaaBytes
import Derived.Laws.CopyOwn
import Derived.Laws.Externs
import Derived.Lib.MakeNoZero
import Derived.Deep.RegionLaw
import Derived.BigRegion
namespace Go.Proofs.Ytefbbkogfoongaa
open Go.ChangeShapes Go.WideShapes Go.ChangeAt Go.RowKit
set_option linter.unusedVariables false

/-- Block g is a row whose first n cells are the bytes f. -/
def RowB (w : World) (g n : Nat) (f : Nat → Int) : Prop := ∃ C : List Value, w.heap[g]? = some (.cells C.toArray 5 (0, 0)) ∧ n ≤ C.length ∧ ∀ j, j < n → C[j]? = some (.int .u8 (f j))
/-- Of a row of room at least n the first k bytes are c. -/
def RowK (w : World) (g n k : Nat) (c : Int) : Prop := ∃ C : List Value, w.heap[g]? = some (.cells C.toArray 5 (0, 0)) ∧ n ≤ C.length ∧ k ≤ n ∧ ∀ j, j < k → C[j]? = some (.int .u8 c)
theorem RowK.full {w : World} {g n : Nat} {c : Int} (h : RowK w g n n c) : RowB w g n fun _ => c := by
  obtain ⟨C, h1, h2, -, h3⟩ := h
  exact ⟨C, h1, h2, h3⟩
theorem RowK.drew {w : World} {g n k : Nat} {c : Int} (h : RowK w g n k c) : RowK w.drew g n k c := h
theorem RowB.cell {w : World} {g m : Nat} {f : Nat → Int} (h : RowB w g m f) {j : Nat} (hj : j < m) : w.cell? ⟨g, j, none⟩ = some (.int .u8 (f j)) := by
  obtain ⟨C, h1, h2, h3⟩ := h
  rw [cell_of_row w g j _ 5 (0, 0) h1]
  rw [List.getElem?_toArray]
  exact h3 j hj
theorem RowB.free {w : World} {g m : Nat} {f : Nat → Int} (h : RowB w g m f) (j : Nat) : w.frozen? ⟨g, j, none⟩ = false := by
  obtain ⟨C, h1, h2, h3⟩ := h
  simp [World.frozen?, h1]
theorem RowB.set {w : World} {g m : Nat} {f : Nat → Int} (h : RowB w g m f) (q : Nat) (y : Int) (f' : Nat → Int) (hq : f' q = y) (ho : ∀ j, j ≠ q → f' j = f j) :
    RowB (w.setCell ⟨g, q, none⟩ (.int .u8 y)) g m f' := by
  obtain ⟨C, h1, h2, h3⟩ := h
  refine ⟨C.set q (.int .u8 y), by simp [World.setCell, Array.getElem?_modify, h1], by simpa using h2, fun j hj => ?_⟩
  by_cases e : j = q
  · subst e
    rw [List.getElem?_set_self (by omega), hq]
  · rw [List.getElem?_set_ne (by omega), h3 j hj, ho j e]
theorem RowB.conv {w : World} {g m : Nat} {f : Nat → Int} (h : RowB w g m f) : (convert 37 9 (.slice (some ⟨g, 0, none⟩) m m)).run Try.prog w = .ok (.string (strOfNums ((List.range m).map f))) w := by
  refine run_convert_bytes_arg w 37 5 Try.underlying37 Try.underlying5 g 0 m m _ (by simp) (fun i hi => ?_) 9 Try.underlying9
  rw [Nat.zero_add, h.cell hi]
  simp [List.getD, hi]
theorem RowB.lt {w : World} {g m : Nat} {f : Nat → Int} (h : RowB w g m f) : g < w.heap.size := by
  obtain ⟨C, h1, h2, h3⟩ := h
  rcases Nat.lt_or_ge g w.heap.size with h | h
  · exact h
  · rw [Array.getElem?_eq_none h] at h1; cases h1
theorem run_fromB (w : World) (g n len cap : Nat) (hn : n ≤ len) (hc : n < cap) : (Instr.slice 37 (.slice (some ⟨g, 0, none⟩) len cap) (some (.int .i64 (n : Int))) none none).run Try.prog w = .ok (.slice (some ⟨g, n, none⟩) (len - n) (cap - n)) w := by
  obtain ⟨i0, hi, -, -, -⟩ := info_parts infoB
  have he : Try.prog.elem 37 = 5 := by kernel_rfl
  have hcc : Try.prog.cellsOf 5 = 1 := by kernel_rfl
  have hu : Try.prog.underlying 37 = some (.slice (Try.prog.elem 37)) := by rw [he]; exact Try.underlying37
  rw [run_slice_l w _ _ len cap hu .i64 (n : Int) (by omega) (by omega), he, run_sizeOf w hi, hcc]
  have h1 : ¬ cap = n := by omega
  simp [sliced, Result.andThen, Addr.add_lit, h1]
theorem run_uptoB (w : World) (a : Option Addr) (len cap n : Nat) (h : n ≤ cap) : (Instr.slice 37 (.slice a len cap) none (some (.int .i64 (n : Int))) none).run Try.prog w = .ok (.slice a n cap) w := by
  obtain ⟨i0, hi, -, -, -⟩ := info_parts infoB
  have he : Try.prog.elem 37 = 5 := by kernel_rfl
  have hu : Try.prog.underlying 37 = some (.slice (Try.prog.elem 37)) := by rw [he]; exact Try.underlying37
  rw [run_slice_h w _ a len cap hu .i64 (n : Int) (by omega) (by omega), he, run_sizeOf w hi]
  cases a with
  | none => simp [sliced, Result.andThen]
  | some p => simp [sliced, Result.andThen, Addr.add]
theorem copy_b (w : World) (g n k m dl dc sl sc : Nat) (c : Int) (a : Addr) (hr : RowK w g n k c) (hm : m = Nat.min sl dl) (hkm : k + m ≤ n) (hsrc : ∀ q, q < m → w.cell? (a.add q) = some (.int .u8 c)) :
    ∃ W', (Builtin.copy_ #[37, 37] 3 #[.slice (some ⟨g, k, none⟩) dl dc, .slice (some a) sl sc]).run Try.prog w = .ok (.int .i64 (m : Int)) W' ∧ RowK W' g n (k + m) c ∧ Below g w W' := by
  obtain ⟨C, h1, h2, h3, h4⟩ := hr
  have h := run_copy_row (P := Try.prog) w 37 37 3 5 g k dl dc a sl sc C.toArray 5 (List.replicate m (.int .u8 c)) Try.underlying37 (by kernel_rfl) h1 (by rw [List.length_replicate, hm]) (fun q v hq => by
    have hl := (List.getElem?_eq_some_iff.1 hq).1
    rw [List.length_replicate] at hl
    have e := (List.getElem?_eq_some_iff.1 hq).2
    rw [List.getElem_replicate] at e
    rw [← e]
    exact hsrc q hl) (by rw [List.length_replicate]; simp; omega) (fun v hv => by rw [List.eq_of_mem_replicate hv]; rfl)
  rw [List.length_replicate] at h
  refine ⟨_, h, ⟨_, setRow_heap _ g _ _ 5 (0, 0) h1, ?_, hkm, fun j hj => ?_⟩, below_setRow (Below.refl _ _) (Nat.le_refl _) _⟩
  · simp; omega
  · rw [List.append_assoc]
    by_cases e : j < k
    · rw [List.getElem?_append_left (by simp; omega), List.getElem?_take, if_pos e]
      exact h4 j e
    · rw [List.getElem?_append_right (by simp; omega), List.getElem?_append_left (by simp; omega), List.getElem?_replicate, if_pos (by simp; omega)]

set_option maxRecDepth 100000 in
set_option maxHeartbeats 1600000 in
theorem repeatB (g0 n c : Nat) (w : World) (hc : w.cell? ⟨g0, 0, none⟩ = some (.int .u8 (c : Int))) (hg0 : g0 < w.heap.size) (hn : n ≤ 64) :
    Calls Try.prog 29 #[.slice (some ⟨g0, 0, none⟩) 1 1, .int .i64 (n : Int)] w fun e w' => ∃ g, e = .returned (.slice (some ⟨g, 0, none⟩) n n) ∧ w.heap.size ≤ g ∧ RowB w' g n (fun _ => (c : Int)) ∧ Below w.heap.size w w' := by
  by_cases hn0 : n = 0
  · subst hn0
    go_enter Try.func29, Try.ntmps29
    go_wp2
    go_ret
    exact ⟨w.heap.size, rfl, Nat.le_refl _, ⟨[], heap_alloc_new w _, Nat.le_refl _, fun j hj => absurd hj (Nat.not_lt_zero _)⟩, (Below.refl _ _).alloc (Nat.le_refl _) _⟩
  have hMul := Try.bits_Mul 1 n (by omega) (by omega) w
  rw [Nat.one_mul, Nat.div_eq_of_lt (by omega : n < 18446744073709551616), Nat.mod_eq_of_lt (by omega : n < 18446744073709551616)] at hMul
  have HM := Lib.hid hMul
  have HC := Lib.hid hc
  clear hMul hc
  have e0 : ((n : Int) == 0) = false := beq_eq_false_iff_ne.2 (by omega)
  have d0 : decide ((n : Int) < 0) = false := decide_eq_false (by omega)
  have d1 : ¬ (n : Int) < 0 := by omega
  have d2 : decide ((9223372036854775807 : Int) < (n : Int)) = false := decide_eq_false (by omega)
  have d3 : decide ((8192 : Int) < (n : Int)) = false := decide_eq_false (by omega)
  have v1 : IntKind.i64.wrap (n : Int) = (n : Int) := IntWalk.i64_in _ (by omega)
  obtain ⟨cs, hrun, hle, hmax⟩ := Lib.run_makeNoZero (P := Try.prog) w #[3] 37 5 Try.underlying37 n (by omega)
  have hcall : (callFunc 40 #[.int .i64 (n : Int)]).run Try.prog w = .ok (.value (.slice (some ⟨w.heap.size, 0, none⟩) n cs.size)) (w.drew.drew.alloc (.cells cs 5)) := by
    rw [run_callFunc_extern Try.func40 (by kernel_rfl) (by kernel_rfl) (by kernel_rfl) (e := Extern.BytealgMakeNoZero.makeNoZero #[3] #[37]) (by kernel_rfl), hrun]
    rfl
  clear hrun
  obtain ⟨w2, hw2⟩ : ∃ w2, w2 = w.drew.drew.alloc (.cells cs 5) := ⟨_, rfl⟩
  have HR2 := Lib.hid (show RowK w2 w.heap.size n 0 c by
    rw [hw2]
    exact ⟨cs.toList, heap_alloc_new w.drew.drew _, by simpa using hle, Nat.zero_le _, fun j hj => absurd hj (Nat.not_lt_zero _)⟩)
  have HB2 := Lib.hid (show Below w.heap.size w w2 by rw [hw2]; exact ((Below.refl _ w).drew.drew).alloc (Nat.le_refl _) _)
  rw [← hw2] at hcall
  clear hw2
  obtain ⟨W3, hcopy, hg3, hb3⟩ := copy_b w2 w.heap.size n 0 (min 1 n) n n 1 1 (c : Int) ⟨g0, 0, none⟩ HR2.out rfl (by omega) (fun q hq => by rw [show q = 0 by omega]; exact (HB2.out.cell (p := ⟨g0, 0, none⟩) hg0).trans HC.out)
  rw [Nat.zero_add] at hg3
  have HG3 := Lib.hid hg3
  have HB3 := Lib.hid (HB2.out.trans hb3)
  clear hg3 hb3
  have hs3 : ∀ W, (Instr.slice 37 (.slice (some ⟨w.heap.size, 0, none⟩) n cs.size) none (some (.int .i64 (n : Int))) (some (.int .i64 (n : Int)))).run Try.prog W = .ok (.slice (some ⟨w.heap.size, 0, none⟩) n n) W := fun W => by
    obtain ⟨i0, hi, -, -, -⟩ := info_parts infoB
    have he : Try.prog.elem 37 = 5 := by kernel_rfl
    have hu : Try.prog.underlying 37 = some (.slice (Try.prog.elem 37)) := by rw [he]; exact Try.underlying37
    rw [run_slice_hm W _ (some ⟨w.heap.size, 0, none⟩) n cs.size hu .i64 .i64 (n : Int) (n : Int) (by omega) (Int.le_refl _) (by omega), he, run_sizeOf W hi]
    simp [sliced, Result.andThen, Addr.add_lit]
  go_enter Try.func29, Try.ntmps29
  go_wp2_with (first | (go_at_call 39; refine HM.out.mono ?_; rintro e w' ⟨rfl, hw⟩; rw [hw]))
  go_loopw [10] (fun y wr => ∃ k : Nat, k ≤ n ∧ 0 < k ∧ y = .int .i64 (k : Int) ∧ RowK wr w.heap.size n k (c : Int) ∧ Below w.heap.size w wr) (fun y _ => n - (intOf y).toNat)
  case atStart => exact ⟨min 1 n, by omega, by omega, rfl, HG3.out, HB3.out⟩
  case round =>
    obtain ⟨k, hk, hk0, rfl, hg, hb⟩ := hrel
    have HG := Lib.hid hg
    have HB := Lib.hid hb
    clear hg hb HG3 HB3
    by_cases hlt : k < n
    · have hki : (k : Int) < (n : Int) := by omega
      obtain ⟨m, hm⟩ : ∃ m, m = min k (n - k) := ⟨_, rfl⟩
      have hs1 := fun W => run_fromB W w.heap.size k n n (by omega) hlt
      have hs2 := fun W => run_uptoB W (some ⟨w.heap.size, 0, none⟩) n n k hk
      have hmn : ∀ (ts : Array TypeId) (t : TypeId) (W : World), (Builtin.min_ ts t #[.int .i64 (k : Int), .int .i64 (n : Int)]).run Try.prog W = .ok (.int .i64 (k : Int)) W := fun ts t W => by
        rw [run_min_int2, if_neg (by omega)]
      have HM2 := Lib.hid (show 0 < m ∧ k + m ≤ n by omega)
      obtain ⟨W5, hcopy5, hg5, hb5⟩ := copy_b wr.drew w.heap.size n k m (n - k) (n - k) k n (c : Int) ⟨w.heap.size, 0, none⟩ HG.out hm (by omega) (fun q hq => by
        obtain ⟨C, h1, h2, h3, h4⟩ := HG.out.drew
        rw [add_flat, cell_of_row _ _ _ _ 5 (0, 0) h1, List.getElem?_toArray]
        exact h4 q (by omega))
      have HG5 := Lib.hid hg5
      have HB5 := Lib.hid (HB.out.drew.trans hb5)
      have v3 : IntKind.i64.wrap ((k : Int) + (m : Int)) = (k : Int) + (m : Int) := IntWalk.i64_in _ (by omega)
      clear hm hg5 hb5
      go_wp2
      go_region
      all_goals go_wp2
      all_goals exact ⟨⟨k + m, HM2.out.2, by omega, by simp, HG5.out, HB5.out⟩, by have := HM2.out; simp [intOf]; omega⟩
    · obtain rfl : k = n := by omega
      go_wp2
      go_ret
      exact ⟨_, rfl, Nat.le_refl _, HG.out.full, HB.out⟩

end Go.Proofs.Ytefbbkogfoongaa
