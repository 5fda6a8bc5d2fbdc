/- markIntS with its frame: only blocks from lo up to hi have changed. -/
import Derived.Test.YtkpnfonedfomaaaInts
namespace Go.Proofs.Ytkpnfonedfomaaa
open Go.ChangeShapes Go.WideShapes Go.ChangeAt Go.RowKit
set_option linter.unusedVariables false

structure Apart (lo hi : Nat) (w w' : World) : Prop where
  os : w'.os = w.os
  tape : w'.tape = w.tape
  output : w'.output = w.output
  size : w.heap.size ≤ w'.heap.size
  block : ∀ k, k < lo ∨ hi ≤ k → w'.heap[k]? = w.heap[k]?
theorem Apart.refl (lo hi : Nat) (w : World) : Apart lo hi w w := ⟨rfl, rfl, rfl, Nat.le_refl _, fun _ _ => rfl⟩
theorem Apart.setCell {lo hi : Nat} {a w : World} (h : Apart lo hi a w) {g k : Nat} (h1 : lo ≤ g) (h2 : g < hi) (y : Value) : Apart lo hi a (w.setCell ⟨g, k, none⟩ y) :=
  ⟨h.os, h.tape, h.output, by simpa [World.setCell] using h.size, fun q hq => (Below.heap_setCell w ⟨g, k, none⟩ y q (show q ≠ g by omega)).trans (h.block q hq)⟩
theorem Apart.below {lo hi B : Nat} {w w' : World} (h : Apart lo hi w w') (hB : B ≤ lo) : Below B w w' := ⟨h.os, h.tape, h.output, h.size, fun k hk => h.block k (.inl (by omega))⟩
theorem OwnI.apart {w w' : World} {lo hi lo' hi' : Nat} {v : Value} {xs : List Int} (h : OwnI w lo' hi' v xs) (ha : Apart lo hi w w') (hd : hi' ≤ lo ∨ hi ≤ lo') : OwnI w' lo' hi' v xs := by
  obtain ⟨A, cap, e, h⟩ := h
  refine ⟨A, cap, e, ?_⟩
  rcases h with h | ⟨g, C, h1, h2, h3, h4, h5⟩
  · exact .inl h
  · exact .inr ⟨g, C, h1, h2, h3, (ha.block g (by omega)).trans h4, h5⟩

set_option maxRecDepth 100000 in
set_option maxHeartbeats 800000 in
theorem markO (v : Value) (lo hi : Nat) (xs : List Int) (k : Int) (w : World) (hv : OwnI w lo hi v xs) (hl : xs.length ≤ 1099511627776) (hk0 : 0 ≤ k) (hk : k ≤ 1099511627776) :
    Calls Try.prog 27 #[v, .int .i64 k] w fun e w' => e = .returned (.int .i64 (k + xs.length)) ∧ OwnI w' lo hi v (marks k xs.length) ∧ Apart lo hi w w' := by
  obtain ⟨A1, c1, rfl, k1⟩ := id hv
  clear k1
  go_enter Try.func27, Try.ntmps27
  have HV := Lib.hid hv
  clear hv
  go_wp2
  go_loopw [1, 5] (fun x y wr => ∃ j : Nat, j ≤ xs.length ∧ y = .int .i64 j ∧ x = .int .i64 (k + j) ∧ OwnI wr lo hi (.slice A1 xs.length c1) (mkL k j xs) ∧ Apart lo hi w wr) (fun _ y _ => xs.length - (intOf y).toNat)
  case atStart => exact ⟨0, Nat.zero_le _, rfl, by simp, by rw [mkL_zero]; exact HV.out, Apart.refl _ _ _⟩
  case round =>
    obtain ⟨j, hj, rfl, rfl, ho, hb⟩ := hrel
    have HO := Lib.hid ho
    have HB := Lib.hid hb
    clear ho hb
    by_cases hlt : j < xs.length
    · obtain ⟨g1, p1, e1, hg1, hg2, hc1, hf1⟩ := HO.out.cell (j := j) (by rw [mkL_len]; exact hlt)
      simp only [Value.slice.injEq] at e1
      obtain ⟨rfl, -, rfl⟩ := e1
      have hji : (j : Int) < (xs.length : Int) := by omega
      go_wp2
      refine ⟨⟨j + 1, by omega, by simp, by congr 1; omega, ?_, HB.out.setCell hg1 hg2 _⟩, by simp [intOf]; omega⟩
      refine HO.out.set (j := j) (by rw [mkL_len]; exact hlt) (by rw [mkL_len, mkL_len]) ?_ ?_
      · rw [mkL_at _ _ _ _ hlt, if_pos (by omega)]
      · intro i hi hne
        rw [mkL_len] at hi
        rw [mkL_at _ _ _ _ hi, mkL_at _ _ _ _ hi]
        by_cases h : i < j
        · rw [if_pos h, if_pos (by omega)]
        · rw [if_neg h, if_neg (by omega)]
    · obtain rfl : j = xs.length := by omega
      go_wp2
      go_ret
      exact ⟨rfl, by rw [← mkL_all]; exact HO.out, HB.out⟩

end Go.Proofs.Ytkpnfonedfomaaa
