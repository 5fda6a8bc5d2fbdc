/- The next permutation: plain; the program's slices.Reverse and toNext. -/
import Derived.Test.YtamepojgpeblpaaCopy31
import Derived.Test.YtamepojgpeblpaaFact31C
import Derived.BigQuiet
import Derived.BigRegion
namespace Go.Proofs.Ytamepojgpeblpaa
open Go.ChangeShapes Go.WideShapes Go.ChangeAt Go.RowKit
set_option linter.unusedVariables false

/-- A list from a place on turned round, when k pairs have changed places. -/
def rvF (l : List Int) (o m k : Nat) (q : Nat) : Int := if (o ≤ q ∧ q < o + k) ∨ (o + m ≤ q + k ∧ q < o + m) then l.getD (2 * o + m - 1 - q) 0 else l.getD q 0
def rvK (l : List Int) (o m k : Nat) : List Int := (List.range l.length).map (rvF l o m k)
theorem rvK_len (l : List Int) (o m k : Nat) : (rvK l o m k).length = l.length := by simp [rvK]
theorem rvK_at (l : List Int) (o m k : Nat) {q : Nat} (h : q < l.length) : (rvK l o m k).getD q 0 = rvF l o m k q := by simp [rvK, List.getD, h]
theorem rvK_zero (l : List Int) (o m : Nat) : rvK l o m 0 = l := by
  apply List.ext_getElem
  · rw [rvK_len]
  · intro i h1 h2
    rw [← getD_el h1, ← getD_el h2, rvK_at l o m 0 h2]
    unfold rvF
    rw [if_neg (by omega)]
/-- .. from a place on turned round. -/
def rvL (l : List Int) (o : Nat) : List Int := rvK l o (l.length - o) ((l.length - o) / 2)
theorem rvL_len (l : List Int) (o : Nat) : (rvL l o).length = l.length := rvK_len _ _ _ _

theorem run_fromN (w : World) (g n len cap : Nat) (hn : n ≤ len) (hc : n < cap) : (Instr.slice 22 (.slice (some ⟨g, 0, none⟩) len cap) (some (.int .i64 (n : Int))) none none).run Try.prog w = .ok (.slice (some ⟨g, n, none⟩) (len - n) (cap - n)) w := by
  obtain ⟨i0, hi, -, -, -⟩ := info_parts info3
  have he : Try.prog.elem 22 = 3 := by kernel_rfl
  have hcc : Try.prog.cellsOf 3 = 1 := by kernel_rfl
  have hu : Try.prog.underlying 22 = some (.slice (Try.prog.elem 22)) := by rw [he]; exact Try.underlying22
  rw [run_slice_l w _ _ len cap hu .i64 (n : Int) (by omega) (by omega), he, run_sizeOf w hi, hcc]
  simp [sliced, Result.andThen, Addr.add, show ¬ cap = n by omega]
  omega

set_option maxRecDepth 100000 in
set_option maxHeartbeats 3200000 in
theorem reverseI (g o m c cap : Nat) (l : List Int) (lo hi : Nat) (w : World) (hv : OwnI w lo hi (.slice (some ⟨g, 0, none⟩) l.length cap) l) (hom : o + m = l.length) (hm : 1 ≤ m) (hl : l.length ≤ 1048576) (hlo : lo ≤ g) :
    Calls Try.prog 69 #[.slice (some ⟨g, o, none⟩) m c] w fun e w' => e = .returned (.tuple #[]) ∧ OwnI w' lo hi (.slice (some ⟨g, 0, none⟩) l.length cap) (rvL l o) ∧ w.heap.size = w'.heap.size ∧ Below lo w w' := by
  have HV := Lib.hid hv
  have HOM := Lib.hid hom
  clear hv
  go_enter Try.func69, Try.ntmps69
  go_wp2
  go_loopw [2, 3] (fun x2 x3 wr => ∃ k : Nat, 2 * k ≤ m + 1 ∧ x2 = .int .i64 k ∧ x3 = .int .i64 ((m : Int) - 1 - (k : Int)) ∧ 2 * k ≤ m ∧ OwnI wr lo hi (.slice (some ⟨g, 0, none⟩) l.length cap) (rvK l o m k) ∧ w.heap.size = wr.heap.size ∧ Below lo w wr) (fun x2 _ _ => m - (intOf x2).toNat)
  case atStart => exact ⟨0, by omega, rfl, by simp, by omega, by rw [rvK_zero]; exact HV.out, rfl, Below.refl _ _⟩
  case round =>
    obtain ⟨k, hk, rfl, rfl, hk2, ho, hz, hb⟩ := hrel
    have HO := Lib.hid ho
    have HB := Lib.hid hb
    have HZ := Lib.hid hz
    have HL := Lib.hid (rvK_len l o m k)
    clear ho hb hz
    by_cases hlt : k + k + 1 < m
    · obtain ⟨j, hj⟩ : ∃ j, j = m - 1 - k := ⟨_, rfl⟩
      have hji : (m : Int) - 1 - (k : Int) = (j : Int) := by omega
      have hkj : (k : Int) < (j : Int) := by omega
      have hjm : (j : Int) < (m : Int) := by omega
      have hkm : (k : Int) < (m : Int) := by omega
      have hom2 := HOM.out
      obtain ⟨g1, p1, e1, -, -, hc1, hf1⟩ := HO.out.cell (j := o + k) (by rw [HL.out]; omega)
      simp only [Value.slice.injEq, Option.some.injEq, Addr.mk.injEq] at e1
      obtain ⟨⟨rfl, -⟩, -, -⟩ := e1
      obtain ⟨g2, p2, e2, -, -, hc2, hf2⟩ := HO.out.cell (j := o + j) (by rw [HL.out]; omega)
      simp only [Value.slice.injEq, Option.some.injEq, Addr.mk.injEq] at e2
      obtain ⟨⟨rfl, -⟩, -, -⟩ := e2
      have ea : (rvK l o m k).getD (o + k) 0 = l.getD (o + k) 0 := by rw [rvK_at _ _ _ _ (by omega)]; unfold rvF; rw [if_neg (by omega)]
      have eb : (rvK l o m k).getD (o + j) 0 = l.getD (o + j) 0 := by rw [rvK_at _ _ _ _ (by omega)]; unfold rvF; rw [if_neg (by omega)]
      have HN1 := Lib.hid (show ∀ q, q < l.length → (rvK l o m (k + 1)).getD q 0 = if q = o + k then l.getD (o + j) 0 else if q = o + j then l.getD (o + k) 0 else (rvK l o m k).getD q 0 from fun q hq => by
        rw [rvK_at _ _ _ _ hq, rvK_at _ _ _ _ hq]
        by_cases e1 : q = o + k
        · rw [if_pos e1]; unfold rvF; rw [if_pos (by omega)]; congr 1; omega
        · rw [if_neg e1]
          by_cases e2 : q = o + j
          · rw [if_pos e2]; unfold rvF; rw [if_pos (by omega)]; congr 1; omega
          · rw [if_neg e2]; unfold rvF
            by_cases e3 : (o ≤ q ∧ q < o + k) ∨ (o + m ≤ q + k ∧ q < o + m)
            · rw [if_pos e3, if_pos (by omega)]
            · rw [if_neg e3, if_neg (by omega)])
      have HL1 := Lib.hid (rvK_len l o m (k + 1))
      rw [ea] at hc1
      rw [eb] at hc2
      have hne : o + k ≠ o + j := by omega
      generalize rvK l o m k = L at *
      generalize hL1 : rvK l o m (k + 1) = L1 at *
      have HLL := Lib.hid hL1
      clear hL1
      generalize l.getD (o + k) 0 = a at *
      generalize l.getD (o + j) 0 = b at *
      have HO1 := Lib.hid (HO.out.set (j := o + k) (y := b) (ys := L.set (o + k) b) (by rw [HL.out]; omega) (by rw [List.length_set]) (by rw [getD_set L _ _ _ (by rw [HL.out]; omega), if_pos rfl]) (fun i hi hne => by rw [getD_set L _ _ _ (by rw [HL.out]; omega), if_neg (by omega)]))
      have HO2 := Lib.hid (HO1.out.set (j := o + j) (y := a) (ys := L1) (by rw [List.length_set, HL.out]; omega) (by rw [List.length_set, HL.out, HL1.out]) (by rw [HN1.out _ (by omega), if_neg (by omega), if_pos rfl]) (fun i hi hne => by
        rw [List.length_set, HL.out] at hi
        rw [HN1.out i hi, getD_set L _ _ _ (by rw [HL.out]; omega)]
        by_cases e : i = o + k
        · rw [if_pos e, if_pos e.symm]
        · rw [if_neg e, if_neg hne, if_neg (by omega)]))
      have HJ := Lib.hid hj
      clear ea eb hj hom2
      go_wp2
      go_region
      all_goals go_wp2
      all_goals go_roundw
      case rel => exact ⟨k + 1, by have := HJ.out; omega, by simp, by have := HJ.out; congr 1; push_cast; omega, by have := HJ.out; omega, by rw [HLL.out]; exact HO2.out, by simpa [World.setCell] using HZ.out, ((HB.out.setCell (p := ⟨g, o + k, none⟩) hlo _).setCell (p := ⟨g, o + j, none⟩) hlo _).drew⟩
      case measure => simp [intOf]; omega
    · have hge : ¬ ((k : Int) < (m : Int) - 1 - (k : Int)) := by omega
      have HE := Lib.hid (show rvK l o m k = rvL l o by
        have hom2 := HOM.out
        unfold rvL
        rw [show l.length - o = m by omega]
        apply List.ext_getElem
        · rw [rvK_len, rvK_len]
        · intro q h1 h2
          rw [← getD_el h1, ← getD_el h2]
          rw [rvK_len] at h1
          rw [rvK_at _ _ _ _ h1, rvK_at _ _ _ _ h1]
          unfold rvF
          by_cases e : (o ≤ q ∧ q < o + k) ∨ (o + m ≤ q + k ∧ q < o + m)
          · rw [if_pos e]
            by_cases e2 : (o ≤ q ∧ q < o + m / 2) ∨ (o + m ≤ q + m / 2 ∧ q < o + m)
            · rw [if_pos e2]
            · rw [if_neg e2]; congr 1; omega
          · rw [if_neg e]
            by_cases e2 : (o ≤ q ∧ q < o + m / 2) ∨ (o + m ≤ q + m / 2 ∧ q < o + m)
            · rw [if_pos e2]; congr 1; omega
            · rw [if_neg e2])
      go_wp2
      go_end0
      exact ⟨rfl, by rw [← HE.out]; exact HO.out, HZ.out, HB.out⟩

end Go.Proofs.Ytamepojgpeblpaa
