/- The program's IsNoncrossing: two chords that cross. -/
import Derived.Test.YtpkfgjlbkiiciaaImpl8C
namespace Go.Proofs.Ytpkfgjlbkiiciaa
open Go.ChangeShapes Go.WideShapes Go.ChangeAt Go.RowKit
set_option linter.unusedVariables false

def xAt (l : List (Int × Int)) (j k : Nat) : Bool := crossB (l.getD j (0, 0)).1 (l.getD j (0, 0)).2 (l.getD k (0, 0)).1 (l.getD k (0, 0)).2
open Classical in
noncomputable def anyX (l : List (Int × Int)) : Bool := decide (∃ j k, j < l.length ∧ k < l.length ∧ xAt l j k = true)
open Classical in
theorem anyX_yes {l : List (Int × Int)} {j k : Nat} (hj : j < l.length) (hk : k < l.length) (h : xAt l j k = true) : anyX l = true := decide_eq_true ⟨j, k, hj, hk, h⟩
open Classical in
theorem anyX_no {l : List (Int × Int)} (h : ∀ j k, j < l.length → k < l.length → xAt l j k = false) : anyX l = false :=
  decide_eq_false fun ⟨j, k, hj, hk, hx⟩ => by rw [h j k hj hk] at hx; cases hx

theorem RowC.form {w : World} {base : Nat} {v : Value} {l : List (Int × Int)} (h : RowC w base v l) : ∃ A cap, v = .slice A l.length cap := by
  obtain ⟨-, h⟩ := h
  rcases h with ⟨rfl, h0⟩ | ⟨g, cap, cur, rfl, -⟩
  · exact ⟨none, 0, by rw [h0]⟩
  · exact ⟨_, cap, rfl⟩
theorem RowC.cell {w : World} {base : Nat} {v : Value} {l : List (Int × Int)} (h : RowC w base v l) {j : Nat} (hj : j < l.length) :
    ∃ g cap, v = .slice (some ⟨g, 0, none⟩) l.length cap ∧ g < w.heap.size ∧ w.cell? ⟨g, j * 2, none⟩ = some (.int .i64 (l.getD j (0, 0)).1) ∧ w.cell? ⟨g, j * 2 + 1, none⟩ = some (.int .i64 (l.getD j (0, 0)).2) := by
  obtain ⟨-, h⟩ := h
  rcases h with ⟨-, h0⟩ | ⟨g, cap, cur, rfl, hb, hg, hn, hcap, hsz, ht⟩
  · omega
  · have hlt : g < w.heap.size := (Array.getElem?_eq_some_iff.1 hg).1
    have hat : ∀ i, i < l.length * 2 → cur[i]? = (flatC l)[i]? := fun i hi => by
      rw [← ht, List.getElem?_take, if_pos hi, Array.getElem?_toList]
    refine ⟨g, cap, rfl, hlt, ?_, ?_⟩
    · rw [cell_of_row w g _ cur _ (0, 0) hg, hat _ (by omega)]; exact (flatC_at l j hj).1
    · rw [cell_of_row w g _ cur _ (0, 0) hg, hat _ (by omega)]; exact (flatC_at l j hj).2

set_option maxRecDepth 100000 in
set_option maxHeartbeats 3200000 in
theorem hasPairC (v : Value) (l : List (Int × Int)) (lo : Nat) (w : World) (hv : RowC w lo v l) (hl : l.length ≤ 1099511) :
    Calls Try.prog 56 #[v, .func (.func 52) #[] #[]] w fun e w' => e = .returned (.bool (anyX l)) ∧ Below w.heap.size w w' := by
  obtain ⟨A, cap, rfl⟩ := hv.form
  have HV := Lib.hid hv
  clear hv
  go_enter Try.func56, Try.ntmps56
  go_wp2
  go_loopw [11] (fun y wr => ∃ i : Nat, i ≤ l.length ∧ y = .int .i64 i ∧ Below w.heap.size w wr ∧ ∀ j k, j < i → k < l.length → xAt l j k = false) (fun y _ => l.length - (intOf y).toNat)
  case atStart => exact ⟨0, Nat.zero_le _, rfl, Below.refl _ _, fun j k h => absurd h (Nat.not_lt_zero _)⟩
  case round =>
    obtain ⟨i, hi1, rfl, hb, hno⟩ := hrel
    have HB := Lib.hid hb
    have HNO := Lib.hid hno
    have hB := hb.size
    clear hb hno
    by_cases hlt : i < l.length
    · have hii : (i : Int) < (l.length : Int) := by omega
      obtain ⟨g, c, e', hgl, hc0, hc1⟩ := HV.out.cell hlt
      simp only [Value.slice.injEq] at e'
      obtain ⟨rfl, -, -⟩ := e'
      have hw0 := (HB.out.cell (p := ⟨g, i * 2, none⟩) hgl).trans hc0
      have hw1 := (HB.out.cell (p := ⟨g, i * 2 + 1, none⟩) hgl).trans hc1
      clear hc0 hc1
      have HXY := Lib.hid (show ∀ k, xAt l i k = crossB (l.getD i (0, 0)).1 (l.getD i (0, 0)).2 (l.getD k (0, 0)).1 (l.getD k (0, 0)).2 from fun k => rfl)
      generalize (l.getD i (0, 0)).1 = p at *
      generalize (l.getD i (0, 0)).2 = q at *
      go_wp2
      obtain ⟨wo, rfl⟩ : ∃ wo, wo = wr := ⟨_, rfl⟩
      have HC0 := Lib.hid (cell_p0 wo (.int .i64 p) (.int .i64 q) 45)
      have HC1 := Lib.hid (cell_p1 wo (.int .i64 p) (.int .i64 q) 45)
      have HBA := Lib.hid (HB.out.alloc hB (.cells #[.int .i64 p, .int .i64 q] 45))
      go_loopw [17] (fun y w2 => ∃ k : Nat, k ≤ l.length ∧ y = .int .i64 k ∧ Below w.heap.size w w2 ∧ wo.heap.size < w2.heap.size ∧ w2.cell? ⟨wo.heap.size, 0, none⟩ = some (.int .i64 p) ∧ w2.cell? ⟨wo.heap.size, 1, none⟩ = some (.int .i64 q) ∧ ∀ k', k' < k → xAt l i k' = false) (fun y _ => l.length - (intOf y).toNat)
      case atStart => exact ⟨0, Nat.zero_le _, rfl, HBA.out, by simp, HC0.out, HC1.out, fun k h => absurd h (Nat.not_lt_zero _)⟩
      case round =>
        obtain ⟨k, hk1, rfl, hb2, hsz2, hp, hq, hno2⟩ := hrel
        have HB2 := Lib.hid hb2
        have HN2 := Lib.hid hno2
        have hB2 := hb2.size
        have HP := Lib.hid hp
        have HQ := Lib.hid hq
        have HBS := Lib.hid hB2
        clear hb2 hno2 HC0 HC1 HBA hw0 hw1
        by_cases hlt2 : k < l.length
        · have hki : (k : Int) < (l.length : Int) := by omega
          obtain ⟨g2, c2, e2, hgl2, hc0, hc1⟩ := HV.out.cell hlt2
          simp only [Value.slice.injEq, Option.some.injEq, Addr.mk.injEq] at e2
          obtain ⟨⟨rfl, -⟩, -, -⟩ := e2
          have hw0 := (HB2.out.cell (p := ⟨g, k * 2, none⟩) hgl).trans hc0
          have hw1 := (HB2.out.cell (p := ⟨g, k * 2 + 1, none⟩) hgl).trans hc1
          clear hc0 hc1
          have HXK := Lib.hid (HXY.out k)
          generalize (l.getD k (0, 0)).1 = p2 at *
          generalize (l.getD k (0, 0)).2 = q2 at *
          have HQ0 := Lib.hid ((World.cell?_alloc_lt wr (.cells #[.int .i64 p2, .int .i64 q2] 45) ⟨wo.heap.size, 0, none⟩ hsz2).trans hp)
          have HQ1 := Lib.hid ((World.cell?_alloc_lt wr (.cells #[.int .i64 p2, .int .i64 q2] 45) ⟨wo.heap.size, 1, none⟩ hsz2).trans hq)
          rcases hx : xAt l i k with _ | _
          · have HXE := Lib.hid (HXK.out.symm.trans hx)
            have HNN := Lib.hid (show ∀ k', k' < k + 1 → xAt l i k' = false from fun k' h => by
              by_cases e : k' < k
              · exact HN2.out k' e
              · obtain rfl : k' = k := by omega
                exact hx)
            clear HXK hx
            go_wp2_with (go_at_call 52; go_must ((with_reducible refine (crossesC p q p2 q2 _).mono ?_); intro e3 w3 h3; obtain ⟨rfl, hb3⟩ := h3; rw [HXE.out]))
            have hz3 := hb3.size
            simp only [World.size_alloc] at hz3 hb3
            exact ⟨⟨k + 1, by omega, by simp, (HB2.out.alloc HBS.out _).trans (hb3.mono (by omega)), by omega, (hb3.cell (p := ⟨wo.heap.size, 0, none⟩) (by show wo.heap.size < _; omega)).trans HQ0.out, (hb3.cell (p := ⟨wo.heap.size, 1, none⟩) (by show wo.heap.size < _; omega)).trans HQ1.out, HNN.out⟩, by simp [intOf]; omega⟩
          · have HXE := Lib.hid (HXK.out.symm.trans hx)
            have HYY := Lib.hid (anyX_yes hlt hlt2 hx)
            clear HXK hx
            go_wp2_with (go_at_call 52; go_must ((with_reducible refine (crossesC p q p2 q2 _).mono ?_); intro e3 w3 h3; obtain ⟨rfl, hb3⟩ := h3; rw [HXE.out]))
            have hz3 := hb3.size
            simp only [World.size_alloc] at hz3 hb3
            go_ret
            exact ⟨ret_bool HYY.out.symm, (HB2.out.alloc HBS.out _).trans (hb3.mono (by omega))⟩
        · obtain rfl : k = l.length := by omega
          have HNN := Lib.hid (show ∀ j k, j < i + 1 → k < l.length → xAt l j k = false from fun j k h1 h2 => by
            by_cases e : j < i
            · exact HNO.out j k e h2
            · obtain rfl : j = i := by omega
              exact HN2.out k h2)
          go_wp2
          go_roundw
          case rel => exact ⟨i + 1, by omega, by simp, HB2.out, HNN.out⟩
          case measure => simp [intOf]; omega
    · obtain rfl : i = l.length := by omega
      have HR := Lib.hid (anyX_no HNO.out)
      go_wp2
      go_ret
      exact ⟨ret_bool HR.out.symm, HB.out⟩

end Go.Proofs.Ytpkfgjlbkiiciaa
