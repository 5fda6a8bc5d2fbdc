/- The contract of the model's l3Ways. -/
import Derived.Test.YtedniiomkejmoaaSpec3A
namespace Go.Proofs.Ytedniiomkejmoaa
open Go.ChangeShapes Go.WideShapes Go.ChangeAt Go.RowKit
set_option linter.unusedVariables false

theorem RowI.grown {w w' : World} {g d : Nat} {f : Nat → Int} {row : Option Nat} (h : RowI w g d f) (hg : w.grownBy w' row) (hne : row ≠ some g) : RowI w' g d f :=
  h.keep (hg.block g h.lt (fun e => hne e.symm))
theorem RowI.alloc {w : World} {g d : Nat} {f : Nat → Int} (h : RowI w g d f) (o : Obj) : RowI (w.alloc o) g d f :=
  h.keep (by
    have := h.lt
    rw [show (w.alloc o).heap = w.heap.push o from rfl, Array.getElem?_push, if_neg (by omega)])
theorem OutR.grown {w w' : World} {base d : Nat} {v : Value} {gs : List Nat} (h : OutR w base d v gs) (hg : w.grownBy w' none) : OutR w' base d v gs :=
  h.keep fun o ho => by
    obtain ⟨cur, h1⟩ := h.own ho
    exact hg.block o (Array.getElem?_eq_some_iff.1 h1).1 (fun e => by cases e)
theorem OutR.alloc {w : World} {base d : Nat} {v : Value} {gs : List Nat} (h : OutR w base d v gs) (o : Obj) : OutR (w.alloc o) base d v gs := World.ownsRow.alloc h o
/-- The row i when the places from i up to k have been filled. -/
def fl (i k : Nat) : Nat → Int := fun q => if i ≤ q ∧ q < k then wy i q else 0
theorem fl_in (i k q : Nat) (h1 : i ≤ q) (h2 : q < k) : fl i k q = wy i q := if_pos ⟨h1, h2⟩
theorem fl_out (i k q : Nat) (h : ¬ (i ≤ q ∧ q < k)) : fl i k q = 0 := if_neg h
theorem fl_next (i k q : Nat) (h : q ≠ k) : fl i (k + 1) q = fl i k q := by
  by_cases e : i ≤ q ∧ q < k
  · rw [fl_in _ _ _ e.1 e.2, fl_in _ _ _ e.1 (by omega)]
  · rw [fl_out _ _ _ e, fl_out _ _ _ (by omega)]
theorem fl_all (i d q : Nat) (h : q ≤ d) : wy i q = fl i (d + 1) q := by
  by_cases e : i ≤ q
  · rw [fl_in _ _ _ e (by omega)]
  · rw [fl_out _ _ _ (by omega), wy_low _ _ (by omega)]
theorem snoc_old (gs : List Nat) (g j : Nat) (h : j < gs.length) : (gs ++ [g]).getD j 0 = gs.getD j 0 := by
  simp [List.getD, List.getElem?_append_left h]
theorem snoc_new (gs : List Nat) (g : Nat) : (gs ++ [g]).getD gs.length 0 = g := by simp [List.getD]

set_option maxRecDepth 100000 in
set_option maxHeartbeats 3200000 in
theorem l3Ways (u d : Nat) (w : World) (hud : u ≤ d) (hd : d ≤ 15) : Calls Try.prog 39 #[.int .i64 u, .int .i64 d] w fun e w' => e = .returned (.int .i64 (wy u d)) ∧ Below w.heap.size w w' := by
  obtain ⟨i0, hi0, hz0, hz1, hz2⟩ := info_parts info3
  go_enter Try.func39, Try.ntmps39
  go_wp2
  go_loopw [5, 6] (fun v y wr => ∃ (i : Nat) (gs : List Nat), i ≤ u + 1 ∧ y = .int .i64 i ∧ gs.length = i ∧ OutR wr w.heap.size d v gs ∧ (∀ j, j < i → RowI wr (gs.getD j 0) d (wy j)) ∧ Below w.heap.size w wr) (fun _ y _ => u + 1 - (intOf y).toNat)
  case atStart => exact ⟨0, [], Nat.zero_le _, rfl, rfl, World.ownsRow_made w #[] 0 (Nat.le_refl _) (Nat.zero_le _) (by simp), fun j hj => by omega, (Below.refl _ _).alloc (Nat.le_refl _) _⟩
  case round =>
    obtain ⟨i, gs, hi, rfl, hgl, ho, hrows, hb⟩ := hrel
    have HROWS := Lib.hid hrows
    have HO := Lib.hid ho
    have HB := Lib.hid hb
    have HGL := Lib.hid hgl
    have hB := hb.size
    clear hrows ho hb hgl
    by_cases hlt : i ≤ u
    · have hiu : (i : Int) ≤ (u : Int) := by omega
      go_wp2_with (first
        | (at_make; go_must (refine wpList_make_full _ rfl _ _ 55 rfl w.heap.size 3 i0 (.int .i64 0) 1 Try.underlying55 hi0 hz0 hz1 .i64 .i64 ((d : Int) + 1) ((d : Int) + 1) (d + 1) rfl rfl (by omega) (by omega) (by rw [hz2]; omega) (by unfold maxLen; omega) hB ?_); intro w1 hown1 hgrow1)
        | (at_builtin; go_must (refine wpAppRow (d := d) rfl _ _ rfl w.heap.size _ gs rfl ((HO.out.grown hgrow1).alloc _) w1.heap.size _ wr.heap.size rfl (cell_one _ _ _) (by have := HGL.out; omega) (base_up (by have := (hown1.lt wr.heap.size rfl).2; omega)) ?_); intro v' w2 ho2 hg2))
      have HR1 := Lib.hid (RowI.made hown1)
      have HO1 := Lib.hid ((HO.out.grown hgrow1))
      have HROWS1 := Lib.hid (fun j (hj : j < i) => (HROWS.out j hj).grown hgrow1 (by simp))
      have HB1 := Lib.hid (HB.out.grown hgrow1 hB (fun k hk => by cases hk))
      have hs1 := (hown1.lt wr.heap.size rfl).2
      have HLT := Lib.hid (fun j (hj : j < i) => (HROWS.out j hj).lt)
      clear hown1 hgrow1
      have HR2 := Lib.hid ((HR1.out.alloc _).grown hg2 (OutR.ne HO1.out HR1.out))
      have HROWS2 := Lib.hid (fun j (hj : j < i) => ((HROWS1.out j hj).alloc _).grown hg2 (OutR.ne HO1.out (HROWS1.out j hj)))
      have HO2 := Lib.hid ho2
      have HB2 := Lib.hid ((HB1.out.alloc (by omega) _).grown hg2 (base_up (by omega)) (fun k hk => (World.ownsRow.lt HO1.out k hk).1))
      clear ho2 hg2
      obtain ⟨gi, hgi⟩ : ∃ g, g = wr.heap.size := ⟨_, rfl⟩
      have HR2 := Lib.hid (show RowI w2 gi d (fun _ => 0) by rw [hgi]; exact HR2.out)
      have HO2 := Lib.hid (show OutR w2 w.heap.size d v' (gs ++ [gi]) by rw [hgi]; exact HO2.out)
      have HLT := Lib.hid (show ∀ j, j < i → gs.getD j 0 < gi by rw [hgi]; exact HLT.out)
      have HGI := Lib.hid (show w.heap.size ≤ gi by omega)
      clear hgi
      go_loopw [7] (fun y wr2 => ∃ k : Nat, i ≤ k ∧ k ≤ d + 1 ∧ y = .int .i64 k ∧ (∀ j, j < i → RowI wr2 (gs.getD j 0) d (wy j)) ∧ RowI wr2 gi d (fl i k) ∧ OutR wr2 w.heap.size d v' (gs ++ [gi]) ∧ Below w.heap.size w wr2) (fun y _ => d + 1 - (intOf y).toNat)
      case atStart => exact ⟨i, Nat.le_refl _, by omega, rfl, HROWS2.out, HR2.out.same (fun q hq => fl_out _ _ _ (by omega)), HO2.out, HB2.out⟩
      case round =>
        obtain ⟨k, hik, hkd, rfl, hrows, hrow, ho, hb⟩ := hrel
        have HROWS3 := Lib.hid hrows
        have HROW3 := Lib.hid hrow
        have HO3 := Lib.hid ho
        have HB3 := Lib.hid hb
        have hgs : (gs ++ [gi]).length = i + 1 := by rw [List.length_append, HGL.out]; rfl
        obtain ⟨o, cap, e1, -, hc1, -⟩ := ho.cell (j := i) (by rw [hgs]; omega)
        rw [hgs] at e1
        have HE1 := Lib.hid e1
        rw [show (gs ++ [gi]).getD i 0 = gi by rw [← HGL.out]; exact snoc_new _ _] at hc1
        unfold rowV at hc1
        have HGS := Lib.hid hgs
        clear hrows ho hb hgs
        subst e1
        by_cases hkl : k ≤ d
        · have hkd' : (k : Int) ≤ (d : Int) := by omega
          obtain ⟨hc2, hf2⟩ := hrow.cell hkl
          clear hrow
          generalize fl i k k = z at hc2
          have hii : (i : Int) < ((i + 1 : Nat) : Int) := by omega
          have hkk : (k : Int) < ((d + 1 : Nat) : Int) := by omega
          by_cases hi0 : i = 0
          · subst hi0
            go_wp2
            refine ⟨⟨k + 1, by omega, by omega, by simp, fun j hj => by omega, ?_, HO3.out.set HROW3.out _, HB3.out.setCell HGI.out _⟩, by simp [intOf]; omega⟩
            exact HROW3.out.set hkl (by rw [fl_in _ _ _ (by omega) (by omega), wy_zero]) (fun q _ hne => fl_next _ _ _ hne)
          · obtain ⟨p, hp⟩ : ∃ p, i = p + 1 := ⟨i - 1, by omega⟩
            have hip : (i : Int) - 1 = (p : Int) := by omega
            have hi0' : ((i : Int) == 0) = false := beq_eq_false_iff_ne.2 (by omega)
            have hpi : (p : Int) < ((i + 1 : Nat) : Int) := by omega
            obtain ⟨o', cap', e2, -, hc3, -⟩ := HO3.out.cell (j := p) (by rw [HGS.out]; omega)
            simp only [Value.slice.injEq, Option.some.injEq, Addr.mk.injEq] at e2
            obtain ⟨⟨rfl, -, -⟩, -, -⟩ := e2
            rw [snoc_old _ _ _ (by rw [HGL.out]; omega)] at hc3
            unfold rowV at hc3
            obtain ⟨hc4, -⟩ := (HROWS3.out p (by omega)).cell hkl
            have HNE := Lib.hid (fun j (hj : j < i) => (show gi ≠ gs.getD j 0 by have := HLT.out j hj; omega))
            have HP := Lib.hid hp
            by_cases hki : k = i
            · have HW := Lib.hid (show wy i k = wy p k by rw [hki, hp]; exact wy_diag p)
              have hki' : ((k : Int) == (i : Int)) = true := by simp [hki]
              have HKI := Lib.hid hki
              clear hki hp hi0
              generalize gs.getD p 0 = gp at hc3 hc4
              generalize wy p k = y at hc4 HW
              go_wp2
              go_region
              all_goals go_wp2
              all_goals go_roundw
              case rel =>
                refine ⟨k + 1, by omega, by omega, by simp, fun j hj => ((HROWS3.out j hj).other (HNE.out j hj) _).keep rfl, ?_, (HO3.out.set HROW3.out _).keep (fun _ _ => rfl), (HB3.out.setCell HGI.out _).drew⟩
                exact (HROW3.out.set hkl (f' := fl i (k + 1)) (by rw [fl_in _ _ _ (by omega) (by omega)]; exact HW.out) (fun q _ hne => fl_next _ _ _ hne)).keep rfl
              case measure => simp [intOf]; omega
            · obtain ⟨q, hq⟩ : ∃ q, k = q + 1 := ⟨k - 1, by omega⟩
              have hkq : (k : Int) - 1 = (q : Int) := by omega
              have hqd : (q : Int) < ((d + 1 : Nat) : Int) := by omega
              have HW := Lib.hid (show wy i k = wy p k + wy i q by rw [hp, hq]; exact wy_step p q (by omega))
              obtain ⟨hc5, -⟩ := HROW3.out.cell (k := q) (by omega)
              rw [fl_in _ _ _ (by omega) (by omega)] at hc5
              have hki' : ((k : Int) == (i : Int)) = false := beq_eq_false_iff_ne.2 (by omega)
              have hbd1 := wy_fit p k (by omega) (by omega)
              have hbd2 := wy_fit i q (by omega) (by omega)
              clear hki hp hi0 hq
              generalize gs.getD p 0 = gp at hc3 hc4
              generalize wy p k = y at hc4 HW hbd1
              generalize wy i q = y2 at hc5 HW hbd2
              go_wp2
              go_region
              all_goals go_wp2
              all_goals go_roundw
              case rel =>
                refine ⟨k + 1, by omega, by omega, by simp, fun j hj => ((HROWS3.out j hj).other (HNE.out j hj) _).keep rfl, ?_, (HO3.out.set HROW3.out _).keep (fun _ _ => rfl), (HB3.out.setCell HGI.out _).drew⟩
                exact (HROW3.out.set hkl (f' := fl i (k + 1)) (by rw [fl_in _ _ _ (by omega) (by omega)]; exact HW.out) (fun q _ hne => fl_next _ _ _ hne)).keep rfl
              case measure => simp [intOf]; omega
        · obtain rfl : k = d + 1 := by omega
          have hkd' : ¬ ((d + 1 : Nat) : Int) ≤ (d : Int) := by omega
          go_wp2
          refine ⟨⟨i + 1, gs ++ [gi], by omega, by simp, HGS.out, HO3.out, fun j hj => ?_, HB3.out⟩, by simp [intOf]; omega⟩
          by_cases hji : j < i
          · rw [snoc_old _ _ _ (by rw [HGL.out]; exact hji)]; exact HROWS3.out j hji
          · obtain rfl : j = i := by omega
            rw [← HGL.out, snoc_new, HGL.out]
            exact HROW3.out.same (fun q hq => fl_all _ _ _ hq)
    · obtain rfl : i = u + 1 := by omega
      have hiu : ¬ ((u + 1 : Nat) : Int) ≤ (u : Int) := by omega
      obtain ⟨o, cap, e1, -, hc1, -⟩ := HO.out.cell (j := u) (by rw [HGL.out]; omega)
      unfold rowV at hc1
      rw [HGL.out] at e1
      subst e1
      obtain ⟨hc2, -⟩ := (HROWS.out u (by omega)).cell (k := d) (by omega)
      have huu : (u : Int) < ((u + 1 : Nat) : Int) := by omega
      have hdd : (d : Int) < ((d + 1 : Nat) : Int) := by omega
      generalize gs.getD u 0 = g at *
      go_wp2
      go_ret
      exact ⟨rfl, HB.out⟩

end Go.Proofs.Ytedniiomkejmoaa
