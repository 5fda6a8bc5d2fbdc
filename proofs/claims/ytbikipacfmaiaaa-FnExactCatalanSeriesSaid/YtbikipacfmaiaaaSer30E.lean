/- CatalanSeries, both functions. -/
import Derived.Test.YtbikipacfmaiaaaSer30
import Derived.Test.YtbikipacfmaiaaaSpec3C
import Derived.Test.YtbikipacfmaiaaaImpl3B
namespace Go.Proofs.Ytbikipacfmaiaaa
open Go.ChangeShapes Go.WideShapes Go.ChangeAt Go.RowKit
set_option linter.unusedVariables false

theorem row_bel30 {w w' : World} {base B n : Nat} {v : Value} {xs : List Value} (h : w.ownsRow base 3 1 v n xs) (hb : Below B w w') (hB : w.heap.size ≤ B) : w'.ownsRow base 3 1 v n xs := by
  obtain ⟨h1, h2⟩ := h
  refine ⟨h1, h2.elim .inl fun ⟨g, cap, cur, e1, e2, e3, e4⟩ => .inr ⟨g, cap, cur, e1, e2, ?_, e4⟩⟩
  rw [hb.block g (by have := (Array.getElem?_eq_some_iff.1 e3).1; omega)]
  exact e3
def csOk (n : Int) : Bool := decide (1 ≤ n ∧ n ≤ 12)
def csL (N : Nat) : List Int := (List.range N).map fun (q : Nat) => catP (q : Int)
theorem csL_len (N : Nat) : (csL N).length = N := by simp [csL]
theorem csL_at {N q : Nat} (h : q < N) : (csL N).getD q 0 = catP (q : Int) := by simp [csL, List.getD, h]
theorem csL_succ (N : Nat) : csL (N + 1) = csL N ++ [catP (N : Int)] := by simp [csL, List.range_succ]
def csP (n : Int) : List Int := if csOk n = true then csL n.toNat else []
theorem csP_len (n : Int) : (csP n).length ≤ 12 := by
  unfold csP
  split
  · rename_i h
    have := of_decide_eq_true (show decide (1 ≤ n ∧ n ≤ 12) = true from h)
    rw [csL_len]; omega
  · simp

set_option maxRecDepth 100000 in
set_option maxHeartbeats 1600000 in
theorem catalanSeries (n : Int) (w : World) : Calls Try.prog 10 #[.int .i64 n] w (AnsIB (csP n) (csOk n) w) := by
  by_cases h : 1 ≤ n ∧ n ≤ 12
  · have HO := Lib.hid (show csOk n = true from decide_eq_true h)
    have HL := Lib.hid (fun W => l1In_yes n 1 12 W h.1 h.2)
    have HP := Lib.hid (show csP n = csL n.toNat from if_pos HO.out)
    obtain ⟨N, rfl⟩ : ∃ N : Nat, n = N := ⟨n.toNat, by omega⟩
    rw [Int.toNat_natCast] at HP
    have hN : N ≤ 12 := by omega
    clear h
    go_enter Try.func10, Try.ntmps10
    go_wp2_with fail
    (with_reducible refine (HL.out _).mono ?_)
    rintro e w' ⟨rfl, rfl⟩
    go_wp2
    go_loopw [4, 5] (fun v y wr => ∃ i : Nat, i ≤ N ∧ y = .int .i64 i ∧ wr.ownsRow w.heap.size 3 1 v (csL i).length ((csL i).map (Value.int .i64)) ∧ Below w.heap.size w wr) (fun _ y _ => N - (intOf y).toNat)
    case atStart => exact ⟨0, Nat.zero_le _, rfl, World.ownsRow_made w #[] 0 (Nat.le_refl _) (Nat.zero_le _) (by simp), (Below.refl _ _).alloc (Nat.le_refl _) _⟩
    case round =>
      obtain ⟨i, hi, rfl, hown, hb⟩ := hrel
      have HOWN := Lib.hid hown
      have HB := Lib.hid hb
      have hB := hb.size
      clear hown hb
      have HNX := Lib.hid (csL_succ i)
      have HLN := Lib.hid (csL_len i)
      by_cases hlt : i < N
      · have hii : (i : Int) < (N : Int) := by omega
        have HC := Lib.hid (fun W => catalanNumber (i : Int) W)
        rw [HLN.out] at HOWN
        generalize catP (i : Int) = c at *
        generalize csL i = L at *
        go_wp2_with fail
        (with_reducible refine (HC.out _).mono ?_)
        rintro e w1 ⟨rfl, hb1⟩
        have HO1 := Lib.hid (row_bel30 HOWN.out hb1 (Nat.le_refl _))
        have HB1 := Lib.hid (HB.out.trans (hb1.mono hB))
        have hB1 := HB1.out.size
        clear hb1
        go_wp2_with (at_builtin; go_must (refine wpAppInt rfl _ _ rfl w.heap.size u4 _ L rfl (World.ownsRow.alloc HO1.out _) w1.heap.size _ _ rfl (cell_one _ _ _) (by omega) (base_up hB1) ?_); intro v' w' hown' hg')
        exact ⟨⟨i + 1, by omega, by simp, by rw [HNX.out, List.length_append, HLN.out]; exact hown', (HB1.out.alloc hB1 _).grown hg' (base_up hB1) (fun k hk => (HO1.out.lt k hk).1)⟩, by simp [intOf]; omega⟩
      · obtain rfl : i = N := by omega
        have HOW := Lib.hid (OwnI.of_row HOWN.out)
        go_wp2
        go_ret2
        exact ⟨_, ret_ib rfl HO.out.symm, by rw [HP.out]; exact HOW.out, HB.out⟩
  · have HO := Lib.hid (show csOk n = false from decide_eq_false h)
    have HL := Lib.hid (fun W => l1In_not n 1 12 W h)
    have HP := Lib.hid (show csP n = [] from if_neg (by rw [HO.out]; simp))
    clear h
    go_enter Try.func10, Try.ntmps10
    go_wp2_with fail
    (with_reducible refine (HL.out _).mono ?_)
    rintro e w' ⟨rfl, rfl⟩
    go_wp2
    go_ret2
    exact ⟨_, ret_ib rfl HO.out.symm, by rw [HP.out]; exact ⟨_, _, rfl, .inl rfl⟩, (Below.refl _ _).alloc (Nat.le_refl _) _⟩

def csF (i : Nat) : Nat → Int := fun q => if q < i then catP (q : Int) else 0
theorem csF_zero : csF 0 = fun _ => 0 := by funext q; unfold csF; rw [if_neg (by omega)]
theorem csF_succ (i : Nat) : csF (i + 1) = upd (csF i) i (catP (i : Int)) := by
  funext q
  by_cases e : q = i
  · subst e; rw [upd_at]; unfold csF; rw [if_pos (by omega)]
  · rw [upd_ne _ _ e]; unfold csF
    by_cases h : q < i
    · rw [if_pos h, if_pos (by omega)]
    · rw [if_neg h, if_neg (by omega)]

set_option maxRecDepth 100000 in
set_option maxHeartbeats 1600000 in
theorem catalanSeriesI (n : Int) (w : World) : Calls Try.prog 11 #[.int .i64 n] w (AnsIB (csP n) (csOk n) w) := by
  by_cases h0 : n < 1
  · have HO := Lib.hid (show csOk n = false from decide_eq_false (by omega))
    have HP := Lib.hid (show csP n = [] from if_neg (by rw [HO.out]; simp))
    have d0 : decide (n < 1) = true := decide_eq_true h0
    go_enter Try.func11, Try.ntmps11
    go_wp2
    go_ret2
    exact ⟨_, ret_ib rfl HO.out.symm, by rw [HP.out]; exact ⟨_, _, rfl, .inl rfl⟩, Below.refl _ _⟩
  by_cases h1 : 12 < n
  · have HO := Lib.hid (show csOk n = false from decide_eq_false (by omega))
    have HP := Lib.hid (show csP n = [] from if_neg (by rw [HO.out]; simp))
    have d0 : decide (n < 1) = false := decide_eq_false h0
    have d1 : decide (12 < n) = true := decide_eq_true h1
    go_enter Try.func11, Try.ntmps11
    go_wp2
    go_ret2
    exact ⟨_, ret_ib rfl HO.out.symm, by rw [HP.out]; exact ⟨_, _, rfl, .inl rfl⟩, Below.refl _ _⟩
  · have HO := Lib.hid (show csOk n = true from decide_eq_true (by omega))
    have HP := Lib.hid (show csP n = csL n.toNat from if_pos HO.out)
    obtain ⟨N, rfl⟩ : ∃ N : Nat, n = N := ⟨n.toNat, by omega⟩
    rw [Int.toNat_natCast] at HP
    have hN : N ≤ 12 := by omega
    have hN1 : 1 ≤ N := by omega
    have d0 : decide ((N : Int) < 1) = false := decide_eq_false h0
    have d1 : decide ((12 : Int) < (N : Int)) = false := decide_eq_false h1
    have d2 : decide (12 < N) = false := decide_eq_false (by omega)
    have d3 : decide (N < 1) = false := decide_eq_false (by omega)
    have HZF := Lib.hid csF_zero
    have HTA := Lib.hid (fun q (h : q < N) => csL_at (N := N) h)
    have HTL := Lib.hid (csL_len N)
    obtain ⟨i0, hi0, hz0, hz1, hzb⟩ := info_parts info3
    go_enter Try.func11, Try.ntmps11
    go_wp2_with (at_make; go_must (refine wpList_make_full _ rfl _ _ 22 rfl w.heap.size 3 i0 (.int .i64 0) 1 Try.underlying22 hi0 hz0 hz1 .i64 .i64 (N : Int) (N : Int) N rfl rfl rfl rfl (by rw [hzb]; omega) (by unfold maxLen; omega) (Nat.le_refl _) ?_); intro w2 hown1 hgrow1)
    have HT0 := Lib.hid (show TabI w2 w.heap.size N (csF 0) by rw [HZF.out]; exact TabI.made hown1)
    have HB2 := Lib.hid ((Below.refl w.heap.size w).grown hgrow1 (Nat.le_refl _) (fun k hk => by cases hk))
    clear hown1 hgrow1
    go_wp2
    go_loopw [16] (fun y wr => ∃ i : Nat, i ≤ N ∧ y = .int .i64 i ∧ TabI wr w.heap.size N (csF i) ∧ Below w.heap.size w wr) (fun y _ => N - (intOf y).toNat)
    case atStart => exact ⟨0, Nat.zero_le _, rfl, HT0.out, HB2.out⟩
    case round =>
      obtain ⟨i, hi', rfl, htab, hb⟩ := hrel
      have HT := Lib.hid htab
      have HB3 := Lib.hid hb
      clear htab hb HT0 HB2
      by_cases hlt : i < N
      · have hii : (i : Int) < (N : Int) := by omega
        have HC := Lib.hid (fun W => catalanNumberI (i : Int) W)
        have HNX := Lib.hid (csF_succ i)
        generalize catP (i : Int) = c at *
        go_wp2_with fail
        (with_reducible refine (HC.out _).mono ?_)
        rintro e w1 ⟨rfl, hb1⟩
        have HT1 := Lib.hid (HT.out.keep (hb1.block _ HT.out.lt))
        have HB4 := Lib.hid (HB3.out.trans (hb1.mono HB3.out.size))
        obtain ⟨hc3, hf3⟩ := HT1.out.cell (j := i) hlt
        clear hb1
        go_wp2
        exact ⟨⟨i + 1, by omega, by simp, by rw [HNX.out]; exact HT1.out.set (k := i) hlt _, HB4.out.setCell (p := ⟨w.heap.size, i, none⟩) (Nat.le_refl _) _⟩, by simp [intOf]; omega⟩
      · obtain rfl : i = N := by omega
        have HOW := Lib.hid (show OwnI wr w.heap.size wr.heap.size (.slice (some ⟨w.heap.size, 0, none⟩) i i) (csL i) from OwnI.of_tab HT.out HTL.out (Nat.le_refl _) (fun j hj => by rw [HTA.out j hj]; unfold csF; rw [if_pos hj]) (Nat.le_refl _) HT.out.lt)
        go_wp2
        go_ret2
        exact ⟨_, ret_ib rfl HO.out.symm, by rw [HP.out]; exact HOW.out, HB3.out⟩

end Go.Proofs.Ytbikipacfmaiaaa
