/- The contract of the program's makeBallots: the whole table of ballot numbers. -/
import Derived.Test.YtpggglcjocnjlaaGreatSpec3B
import Derived.Laws.Rows
import Derived.Laws.Tables
import Derived.Laws.CopyOwn
namespace Go.Proofs.YtpggglcjocnjlaaGreat
open Go.ChangeShapes Go.WideShapes Go.ChangeAt Go.RowKit
set_option linter.unusedVariables false

def Z256 : Array Value := Array.replicate 256 (.int .i64 0)
theorem zeroTab (w : World) : (zeroValue 75).run Tryz.prog w = .ok (.agg Z256) w := by kernel_rfl
theorem sizeTab : (Tryz.prog.info? 75).map (·.size) = some 256 := by kernel_rfl

/-- Block g holds the table f. -/
def TabB (w : World) (g : Nat) (f : Nat → Int) : Prop := ∃ C : Array Value, w.heap[g]? = some (.cells C 75 (0, 0)) ∧ C.size = 256 ∧ ∀ q, q < 256 → C[q]? = some (.int .i64 (f q))
theorem TabB.lt {w : World} {g : Nat} {f : Nat → Int} (h : TabB w g f) : g < w.heap.size := by
  obtain ⟨C, h1, -⟩ := h
  exact (Array.getElem?_eq_some_iff.1 h1).1
theorem TabB.cell {w : World} {g : Nat} {f : Nat → Int} (h : TabB w g f) {q : Nat} (hq : q < 256) : w.cell? ⟨g, q, none⟩ = some (.int .i64 (f q)) ∧ w.frozen? ⟨g, q, none⟩ = false := by
  obtain ⟨C, h1, -, h2⟩ := h
  refine ⟨?_, by simp [World.frozen?, h1]⟩
  rw [cell_of_row w g q C _ (0, 0) h1]
  exact h2 q hq
theorem TabB.keep {w w' : World} {g : Nat} {f : Nat → Int} (h : TabB w g f) (e : w'.heap[g]? = w.heap[g]?) : TabB w' g f := by
  obtain ⟨C, h1, h2⟩ := h
  exact ⟨C, e.trans h1, h2⟩
theorem TabB.alloc {w : World} {g : Nat} {f : Nat → Int} (h : TabB w g f) (o : Obj) : TabB (w.alloc o) g f :=
  h.keep (by
    have := h.lt
    rw [show (w.alloc o).heap = w.heap.push o from rfl, Array.getElem?_push, if_neg (by omega)])
theorem TabB.below {w w' : World} {g B : Nat} {f : Nat → Int} (h : TabB w g f) (hb : Below B w w') (hg : g < B) : TabB w' g f := h.keep (hb.block g hg)
theorem TabB.set {w : World} {g k : Nat} {f f' : Nat → Int} {y : Int} (h : TabB w g f) (hk : k < 256) (hy : f' k = y) (ho : ∀ q, q < 256 → q ≠ k → f' q = f q) : TabB (w.setCell ⟨g, k, none⟩ (.int .i64 y)) g f' := by
  obtain ⟨C, h1, h0, h2⟩ := h
  refine ⟨C.setIfInBounds k (.int .i64 y), by simp [World.setCell, Array.getElem?_modify, h1], by simpa using h0, fun q hq => ?_⟩
  by_cases e : q = k
  · subst e
    rw [Array.getElem?_setIfInBounds_self_of_lt (by omega), hy]
  · rw [Array.getElem?_setIfInBounds_ne (by omega), h2 q hq, ho q hq e]
theorem TabB.other {w : World} {g g' k : Nat} {f : Nat → Int} (h : TabB w g f) (hne : g' ≠ g) (y : Value) : TabB (w.setCell ⟨g', k, none⟩ y) g f :=
  h.keep (by simp [World.setCell, Array.getElem?_modify, hne])
theorem TabB.same {w : World} {g : Nat} {f f' : Nat → Int} (h : TabB w g f) (ho : ∀ q, q < 256 → f' q = f q) : TabB w g f' := by
  obtain ⟨C, h1, h0, h2⟩ := h
  exact ⟨C, h1, h0, fun q hq => by rw [h2 q hq, ho q hq]⟩
theorem TabB.new (w : World) : TabB (w.alloc (.cells Z256 75)) w.heap.size fun _ => 0 := by
  refine ⟨Z256, by rw [show (w.alloc (.cells Z256 75)).heap = w.heap.push (.cells Z256 75) from rfl]; simp, by simp [Z256], fun q hq => ?_⟩
  simp [Z256, hq]

/-- The whole table. -/
def wyQ (q : Nat) : Int := wy (q / 16) (q % 16)
def ballotCells : Array Value := ((List.range 256).map fun q => Value.int .i64 (wyQ q)).toArray
theorem ballot_size : ballotCells.size = 256 := by simp [ballotCells]
theorem ballot_get (q : Nat) (h : q < 256) : ballotCells[q]? = some (.int .i64 (wyQ q)) := by simp [ballotCells, h]
theorem TabB.whole {w : World} {g : Nat} (h : TabB w g wyQ) : w.heap[g]? = some (.cells ballotCells 75 (0, 0)) := by
  obtain ⟨C, h1, h0, h2⟩ := h
  have : C = ballotCells := by
    apply Array.ext (by rw [h0, ballot_size])
    intro i hi hi'
    have e1 := h2 i (by omega)
    have e2 := ballot_get i (by omega)
    rw [Array.getElem?_eq_getElem hi] at e1
    rw [Array.getElem?_eq_getElem hi'] at e2
    rw [← e2] at e1
    exact Option.some.inj e1
  rw [h1, this]
theorem TabB.of {w : World} {g : Nat} (h : w.heap[g]? = some (.cells ballotCells 75 (0, 0))) : TabB w g wyQ := ⟨_, h, ballot_size, ballot_get⟩

/-- The table when the columns before k and the rows before r of column k are filled. -/
def blF (k r : Nat) : Nat → Int := fun q => if q % 16 < k ∨ (q % 16 = k ∧ q / 16 < r) then wyQ q else 0
theorem blF_in (k r q : Nat) (h : q % 16 < k ∨ (q % 16 = k ∧ q / 16 < r)) : blF k r q = wyQ q := if_pos h
theorem blF_out (k r q : Nat) (h : ¬ (q % 16 < k ∨ (q % 16 = k ∧ q / 16 < r))) : blF k r q = 0 := if_neg h
theorem blF_next (k r q : Nat) (hk : k < 16) (h : q ≠ r * 16 + k) : blF k (r + 1) q = blF k r q := by
  by_cases e : q % 16 < k ∨ (q % 16 = k ∧ q / 16 < r)
  · rw [blF_in _ _ _ e, blF_in _ _ _ (by omega)]
  · rw [blF_out _ _ _ e, blF_out _ _ _ (by omega)]
theorem blF_col (k q : Nat) : blF (k + 1) 0 q = blF k (k + 1) q := by
  by_cases e : q % 16 < k ∨ (q % 16 = k ∧ q / 16 < k + 1)
  · rw [blF_in _ _ _ e, blF_in _ _ _ (by omega)]
  · rw [blF_out _ _ _ e]
    by_cases e' : q % 16 = k
    · rw [blF_in _ _ _ (by omega)]
      exact wy_low _ _ (by omega)
    · rw [blF_out _ _ _ (by omega)]
theorem wyQ_at (u d : Nat) (h : d < 16) : wyQ (u * 16 + d) = wy u d := by
  unfold wyQ
  rw [show (u * 16 + d) / 16 = u by omega, show (u * 16 + d) % 16 = d by omega]
theorem wy_sum (p k : Nat) (h : p + 1 ≤ k + 1) : wy (p + 1) (k + 1) = wy p (k + 1) + wy (p + 1) k := by
  by_cases e : p = k
  · subst e
    rw [wy_diag, wy_low (p + 1) p (by omega)]; omega
  · exact wy_step p k (by omega)

set_option maxRecDepth 100000 in
set_option maxHeartbeats 3200000 in
theorem makeBallots (w : World) : Calls Tryz.prog 60 #[] w fun e w' => e = .returned (.agg ballotCells) ∧ Below w.heap.size w w' := by
  have hz := zeroTab
  have HN1 := Lib.hid (TabB.new (w.alloc (.cells Z256 75)))
  have HN0 := Lib.hid (TabB.new w)
  generalize Z256 = zz at hz HN1 HN0
  go_enter Tryz.func60, Tryz.ntmps60
  go_wp2
  have HB0 := Lib.hid (((Below.refl w.heap.size w).alloc (Nat.le_refl _) (.cells zz 75)).alloc (by simp) (.cells zz 75))
  have HR0 := Lib.hid (HN0.out.alloc (.cells zz 75))
  have hsz : (w.alloc (.cells zz 75)).heap.size = w.heap.size + 1 := by simp
  rw [hsz] at HN1
  clear hsz HN0
  go_loopw [4] (fun y wr => ∃ k : Nat, k ≤ 16 ∧ y = .int .i64 k ∧ TabB wr (w.heap.size + 1) (blF k 0) ∧ TabB wr w.heap.size (fun _ => 0) ∧ Below w.heap.size w wr) (fun y _ => 16 - (intOf y).toNat)
  case atStart => exact ⟨0, by omega, rfl, HN1.out.same (fun q hq => blF_out _ _ _ (by omega)), HR0.out, HB0.out⟩
  case round =>
    obtain ⟨k, hk, rfl, ht, hr, hb⟩ := hrel
    have HT := Lib.hid ht
    have HR := Lib.hid hr
    have HB := Lib.hid hb
    clear ht hr hb
    by_cases hlt : k < 16
    · have hki : (k : Int) < 16 := by omega
      obtain ⟨hc, hf⟩ := HT.out.cell (q := k) (by omega)
      generalize blF k 0 k = z0 at hc
      go_wp2
      have HT1 := Lib.hid (show TabB (wr.setCell ⟨w.heap.size + 1, k, none⟩ (.int .i64 1)) (w.heap.size + 1) (blF k 1) from HT.out.set (by omega) (by rw [blF_in _ _ _ (by omega)]; unfold wyQ; rw [show k / 16 = 0 by omega]; rfl) (fun q _ hne => blF_next _ _ _ hlt (by omega)))
      have HR1 := Lib.hid (show TabB (wr.setCell ⟨w.heap.size + 1, k, none⟩ (.int .i64 1)) w.heap.size (fun _ => 0) from HR.out.other (by omega) _)
      have HB1 := Lib.hid (HB.out.setCell (p := ⟨w.heap.size + 1, k, none⟩) (by simp) (.int .i64 1))
      generalize (wr.setCell ⟨w.heap.size + 1, k, none⟩ (.int .i64 1)) = wa at HT1 HR1 HB1
      go_loopw [3] (fun y wr => ∃ r : Nat, 1 ≤ r ∧ r ≤ k + 1 ∧ y = .int .i64 r ∧ TabB wr (w.heap.size + 1) (blF k r) ∧ TabB wr w.heap.size (fun _ => 0) ∧ Below w.heap.size w wr) (fun y _ => k + 1 - (intOf y).toNat)
      case atStart => exact ⟨1, by omega, by omega, rfl, HT1.out, HR1.out, HB1.out⟩
      case round =>
        obtain ⟨r, h1r, hrk, rfl, ht, hr, hb⟩ := hrel
        have HT2 := Lib.hid ht
        have HR2 := Lib.hid hr
        have HB2 := Lib.hid hb
        clear ht hr hb
        by_cases hle : r ≤ k
        · have hrki : (r : Int) ≤ (k : Int) := by omega
          obtain ⟨p, hp⟩ : ∃ p, r = p + 1 := ⟨r - 1, by omega⟩
          obtain ⟨q, hq⟩ : ∃ q, k = q + 1 := ⟨k - 1, by omega⟩
          have hrp : (r : Int) - 1 = (p : Int) := by omega
          have hkq : (k : Int) - 1 = (q : Int) := by omega
          obtain ⟨hc1, -⟩ := HT2.out.cell (q := p * 16 + k) (by omega)
          obtain ⟨hc2, -⟩ := HT2.out.cell (q := r * 16 + q) (by omega)
          obtain ⟨hc3, hf3⟩ := HT2.out.cell (q := r * 16 + k) (by omega)
          rw [blF_in _ _ _ (by omega), wyQ_at _ _ (by omega)] at hc1 hc2
          have HW := Lib.hid (show wy r k = wy p k + wy r q by rw [hp, hq]; exact wy_sum p q (by omega))
          have hbd1 := wy_fit p k (by omega) (by omega)
          have hbd2 := wy_fit r q (by omega) (by omega)
          have hpl : (p : Int) < 16 := by omega
          have hql : (q : Int) < 16 := by omega
          have hrl : (r : Int) < 16 := by omega
          have HP := Lib.hid hp
          have HQ := Lib.hid hq
          clear hp hq
          generalize blF k r (r * 16 + k) = z3 at hc3
          generalize wy p k = x at hc1 HW hbd1
          generalize wy r q = y at hc2 HW hbd2
          go_wp2
          go_region
          all_goals go_wp2
          all_goals refine ⟨⟨r + 1, by omega, by omega, by simp, ?_, ?_, (HB2.out.setCell (p := ⟨w.heap.size + 1, r * 16 + k, none⟩) (by simp) _).drew⟩, by simp [intOf]; omega⟩
          · exact (HT2.out.set (k := r * 16 + k) (f' := blF k (r + 1)) (by omega) (by rw [blF_in _ _ _ (by omega), wyQ_at _ _ (by omega)]; exact HW.out) (fun q _ hne => blF_next _ _ _ hlt hne)).keep rfl
          · exact (HR2.out.other (g' := w.heap.size + 1) (by omega) _).keep rfl
        · obtain rfl : r = k + 1 := by omega
          have hrki : ¬ ((k : Int) + 1 ≤ (k : Int)) := by omega
          go_wp2
          refine ⟨⟨k + 1, by omega, by simp, HT2.out.same (fun q _ => blF_col k q), HR2.out, HB2.out⟩, by simp [intOf]; omega⟩
    · obtain rfl : k = 16 := by omega
      have HW := Lib.hid (TabB.whole (HT.out.same (f' := wyQ) (fun q hq => (blF_in _ _ _ (by omega)).symm)))
      obtain ⟨C0, hC0, hC1, -⟩ := HR.out
      have HC0 := Lib.hid hC0
      have HC1 := Lib.hid hC1
      have HSZ := Lib.hid ballot_size
      have HALL := Lib.hid (show ballotCells.all (·.oneCell') = true from Array.all_eq_true_iff_forall_mem.2 (fun v hv => by
        simp only [ballotCells, List.mem_toArray, List.mem_map] at hv
        obtain ⟨q, -, rfl⟩ := hv
        rfl))
      clear hC0 hC1 hz
      obtain ⟨cs, hcs⟩ : ∃ cs, cs = ballotCells := ⟨_, rfl⟩
      have HCS := Lib.hid hcs
      rw [← hcs] at HW HSZ HALL
      clear hcs
      go_wp2_with (first
        | (refine wpList_load_row rfl _ _ rfl (w.heap.size + 1) rfl 75 cs (0, 0) _ HW.out Tryz.underlying75 rfl (by rw [HSZ.out]; exact sizeTab) ?_)
        | (refine wpList_store_row rfl _ _ _ rfl w.heap.size cs rfl rfl 75 C0 HC0.out (by rw [HSZ.out]; exact sizeTab) (by rw [HC1.out, HSZ.out]) HALL.out ?_))
      have hg : (wr.setRow w.heap.size cs).heap[w.heap.size]? = some (.cells cs 75 (0, 0)) := by
        simp [World.setRow, Array.getElem?_modify, HC0.out]
      refine bodyPost_ret (v := .agg cs) (results_cell_row Tryz.results60 _ _ w.heap.size 75 cs (0, 0) _ rfl hg Tryz.underlying75 rfl (by rw [HSZ.out]; exact sizeTab)) rfl ⟨by rw [HCS.out], below_setRow HB.out (Nat.le_refl _) _⟩

end Go.Proofs.YtpggglcjocnjlaaGreat
