/- The program's areTreesOfOneSize, IsTamariLess, TamariMeet, TamariJoin. -/
import Derived.Test.YtbbbnnkkjgikbaaImpl16D
import Derived.Test.YtbbbnnkkjgikbaaFact17
import Derived.BigQuiet
import Derived.Lib.MinMax
import Derived.Deep.RegionLaw
import Derived.WalkArith
namespace Go.Proofs.Ytbbbnnkkjgikbaa
open Go.ChangeShapes Go.WideShapes Go.ChangeAt Go.RowKit
set_option linter.unusedVariables false

set_option maxRecDepth 100000 in
set_option maxHeartbeats 1600000 in
theorem areTrees (a b : ByteArray) (w : World) (ha : a.size ≤ 1099511627776) (hb : b.size ≤ 1099511627776) : Calls Try.prog 65 #[.string a, .string b, .int .i64 8] w fun e w' => e = .returned (.bool (fitT a b)) ∧ Below w.heap.size w w' := by
  have HA := Lib.hid (isBinaryI a w ha)
  have HB := Lib.hid (fun W => isBinaryI b W hb)
  have HNA := Lib.hid (fun W => nodesOfI a W ha)
  have HNB := Lib.hid (fun W => nodesOfI b W hb)
  rcases h1 : binB a with _ | _
  · have HF := Lib.hid (fitT_no (a := a) (b := b) (.inl h1))
    rw [h1] at HA
    clear h1
    go_enter Try.func65, Try.ntmps65
    go_wp2_with fail
    (with_reducible refine HA.out.mono ?_)
    rintro e w1 ⟨rfl, hb1⟩
    go_wp2
    go_ret
    exact ⟨ret_bool HF.out.symm, hb1⟩
  · rcases h2 : binB b with _ | _
    · have HF := Lib.hid (fitT_no (a := a) (b := b) (.inr (.inl h2)))
      rw [h1] at HA
      rw [h2] at HB
      clear h1 h2
      go_enter Try.func65, Try.ntmps65
      go_wp2_with fail
      (with_reducible refine HA.out.mono ?_)
      rintro e w1 ⟨rfl, hb1⟩
      have z1 := hb1.size
      go_wp2_with fail
      (with_reducible refine (HB.out _).mono ?_)
      rintro e w2 ⟨rfl, hb2⟩
      go_wp2
      go_ret
      exact ⟨ret_bool HF.out.symm, hb1.trans (hb2.mono z1)⟩
    · have hn8 := (nodes_bd a).2
      have hiff : fitT a b = true ↔ nodesP a = nodesP b := by
        obtain ⟨t, ea, hn, -⟩ := par_yes h1
        obtain ⟨u, eb, hm, -⟩ := par_yes h2
        have na : nodesP a = (nds t : Int) := by rw [ea]; exact nodes_sh t hn
        have nb : nodesP b = (nds u : Int) := by rw [eb]; exact nodes_sh u hm
        rw [na, nb]
        constructor
        · intro h
          obtain ⟨-, -, -, -, -, -, -, -, hs⟩ := fitT_yes h
          rw [ea, eb, sz_sh, sz_sh] at hs; omega
        · intro h
          exact fitT_of h1 h2 (by rw [ea, eb, sz_sh, sz_sh]; omega)
      rw [h1] at HA
      rw [h2] at HB
      by_cases e : nodesP a = nodesP b
      · have HF := Lib.hid (hiff.2 e)
        rw [← e] at HNB
        clear h1 h2 e hiff
        generalize nodesP a = n at *
        have d1 : (n == n) = true := by simp
        have d2 : decide (n ≤ 8) = true := decide_eq_true hn8
        go_enter Try.func65, Try.ntmps65
        go_wp2_with fail
        (with_reducible refine HA.out.mono ?_)
        rintro e w1 ⟨rfl, hb1⟩
        have z1 := hb1.size
        go_wp2_with fail
        (with_reducible refine (HB.out _).mono ?_)
        rintro e w2 ⟨rfl, hb2⟩
        have HB2 := Lib.hid (hb1.trans (hb2.mono z1))
        have z2 := HB2.out.size
        go_wp2_with fail
        (with_reducible refine (HNA.out _).mono ?_)
        rintro e w3 ⟨rfl, hb3⟩
        have HB3 := Lib.hid (HB2.out.trans (hb3.mono z2))
        have z3 := HB3.out.size
        go_wp2_with fail
        (with_reducible refine (HNB.out _).mono ?_)
        rintro e w4 ⟨rfl, hb4⟩
        have HB4 := Lib.hid (HB3.out.trans (hb4.mono z3))
        have z4 := HB4.out.size
        go_wp2_with fail
        (with_reducible refine (HNA.out _).mono ?_)
        rintro e w5 ⟨rfl, hb5⟩
        have HB5 := Lib.hid (HB4.out.trans (hb5.mono z4))
        go_wp2
        go_ret
        first | exact ⟨ret_bool HF.out.symm, HB5.out⟩ | exact ⟨ret_bool (by rw [HF.out]; simpa using hn8), HB5.out⟩
      · have HF := Lib.hid (show fitT a b = false by
          rcases h : fitT a b with _ | _
          · rfl
          · exact absurd (hiff.1 h) e)
        have d1 : (nodesP a == nodesP b) = false := beq_eq_false_iff_ne.2 e
        clear h1 h2 e hiff
        generalize nodesP a = n at *
        generalize nodesP b = m at *
        go_enter Try.func65, Try.ntmps65
        go_wp2_with fail
        (with_reducible refine HA.out.mono ?_)
        rintro e w1 ⟨rfl, hb1⟩
        have z1 := hb1.size
        go_wp2_with fail
        (with_reducible refine (HB.out _).mono ?_)
        rintro e w2 ⟨rfl, hb2⟩
        have HB2 := Lib.hid (hb1.trans (hb2.mono z1))
        have z2 := HB2.out.size
        go_wp2_with fail
        (with_reducible refine (HNA.out _).mono ?_)
        rintro e w3 ⟨rfl, hb3⟩
        have HB3 := Lib.hid (HB2.out.trans (hb3.mono z2))
        have z3 := HB3.out.size
        go_wp2_with fail
        (with_reducible refine (HNB.out _).mono ?_)
        rintro e w4 ⟨rfl, hb4⟩
        have HB4 := Lib.hid (HB3.out.trans (hb4.mono z3))
        go_wp2
        go_ret
        exact ⟨ret_bool HF.out.symm, HB4.out⟩

set_option maxRecDepth 100000 in
set_option maxHeartbeats 1600000 in
theorem isTamariLessI (a b : ByteArray) (w : World) (ha : a.size ≤ 1099511627776) (hb : b.size ≤ 1099511627776) : Calls Try.prog 19 #[.string a, .string b] w fun e w' => e = .returned (.bool (lesT a b)) ∧ Below w.heap.size w w' := by
  have HF := Lib.hid (areTrees a b w ha hb)
  rcases hf : fitT a b with _ | _
  · have HP := Lib.hid (les_no hf)
    rw [hf] at HF
    clear hf
    go_enter Try.func19, Try.ntmps19
    go_wp2_with fail
    (with_reducible refine HF.out.mono ?_)
    rintro e w1 ⟨rfl, hb1⟩
    go_wp2
    go_ret
    exact ⟨ret_bool HP.out.symm, hb1⟩
  · have HP := Lib.hid (les_yes hf)
    obtain ⟨n, hn8, hl1, hl2, -, -, -, -⟩ := fit_wts hf
    rw [hl1] at HP
    have HA := Lib.hid (fun W => weightsOfI a W ha)
    have HB := Lib.hid (fun W => weightsOfI b W hb)
    have HN := Lib.hid (fun i => blw_no (xs := wtsP a) (ys := wtsP b) (n := n) (i := i))
    have HY := Lib.hid (blw_iff (wtsP a) (wtsP b) n)
    generalize wtsP a = xs at *
    generalize wtsP b = ys at *
    have L1 := Lib.hid (show xs.length = n ∧ ys.length = n from ⟨hl1, hl2⟩)
    rw [hf] at HF
    clear hf hl1 hl2
    go_enter Try.func19, Try.ntmps19
    go_wp2_with fail
    (with_reducible refine HF.out.mono ?_)
    rintro e w0 ⟨rfl, hb0⟩
    have HB0 := Lib.hid hb0
    have z0 := hb0.size
    clear hb0
    go_wp2_with fail
    (with_reducible refine (HB.out _).mono ?_)
    rintro e w1 ⟨v1, rfl, o1, b1⟩
    obtain ⟨A1, c1, rfl, -⟩ := id o1
    go_wp2_with fail
    (with_reducible refine (HA.out _).mono ?_)
    rintro e w2 ⟨v2, rfl, o2, b2⟩
    obtain ⟨A2, c2, rfl, -⟩ := id o2
    have HO1 := Lib.hid (o1.keep b2 (Nat.le_refl _))
    have HO2 := Lib.hid o2
    have HB2 := Lib.hid (HB0.out.trans ((b1.trans (b2.mono b1.size)).mono z0))
    clear o1 o2 b1 b2
    rw [L1.out.2] at HO1
    rw [L1.out.1] at HO2
    rw [L1.out.1, L1.out.2]
    go_wp2
    go_loopw [17] (fun y wr => ∃ i : Nat, i ≤ n ∧ y = .int .i64 i ∧ wr = w2 ∧ ∀ j, j < i → xs.getD j 0 ≤ ys.getD j 0) (fun y _ => n - (intOf y).toNat)
    case atStart => exact ⟨0, Nat.zero_le _, rfl, rfl, fun j h => absurd h (Nat.not_lt_zero _)⟩
    case round =>
      obtain ⟨i, hi, rfl, rfl, hle⟩ := hrel
      have HLE := Lib.hid hle
      clear hle
      by_cases hlt : i < n
      · obtain ⟨g1, p1, e1, -, -, hc1, -⟩ := HO1.out.cell (j := i) (by have := L1.out; omega)
        simp only [Value.slice.injEq] at e1
        obtain ⟨rfl, -, rfl⟩ := e1
        obtain ⟨g2, p2, e2, -, -, hc2, -⟩ := HO2.out.cell (j := i) (by have := L1.out; omega)
        simp only [Value.slice.injEq] at e2
        obtain ⟨rfl, -, rfl⟩ := e2
        have hii : (i : Int) < (n : Int) := by omega
        have HNO := Lib.hid (HN.out i hlt)
        have HLT := Lib.hid (show xs.getD i 0 ≤ ys.getD i 0 → ∀ j, j < i + 1 → xs.getD j 0 ≤ ys.getD j 0 from fun h j hj => by
          by_cases e : j = i
          · subst e; exact h
          · exact HLE.out j (by omega))
        generalize xs.getD i 0 = x at *
        generalize ys.getD i 0 = y at *
        by_cases c : y < x
        · have hPN := Lib.hid (HNO.out c)
          go_wp2
          go_ret
          exact ⟨ret_bool (by rw [HP.out, hPN.out]), HB2.out⟩
        · have cd : decide (y < x) = false := decide_eq_false c
          have HL2 := Lib.hid (HLT.out (by omega))
          go_wp2
          exact ⟨⟨i + 1, by omega, by simp, by first | rfl | trivial, HL2.out⟩, by simp [intOf]; omega⟩
      · obtain rfl : i = n := by omega
        go_wp2
        go_ret
        exact ⟨ret_bool (by rw [HP.out]; exact (HY.out.2 HLE.out).symm), HB2.out⟩

/-- The first row with the lesser numbers ahead of place i. -/
def mxL (xs ys : List Int) (n i : Nat) : List Int := (List.range n).map fun j => if j < i then min (xs.getD j 0) (ys.getD j 0) else xs.getD j 0
theorem mxL_len (xs ys : List Int) (n i : Nat) : (mxL xs ys n i).length = n := by simp [mxL]
theorem mxL_at (xs ys : List Int) (n i j : Nat) (h : j < n) : (mxL xs ys n i).getD j 0 = if j < i then min (xs.getD j 0) (ys.getD j 0) else xs.getD j 0 := by simp [mxL, List.getD, h]
theorem mxL_zero (xs ys : List Int) (n : Nat) (h : xs.length = n) : mxL xs ys n 0 = xs := by
  apply List.ext_getElem (by rw [mxL_len, h])
  intro j h1 h2
  have h3 := mxL_at xs ys n 0 j (by omega)
  rw [if_neg (by omega), List.getD_eq_getElem?_getD, List.getElem?_eq_getElem h1, List.getD_eq_getElem?_getD, List.getElem?_eq_getElem h2] at h3
  exact h3
theorem mxL_all (xs ys : List Int) (n : Nat) : mxL xs ys n n = hh min xs ys n := by
  apply List.ext_getElem (by rw [mxL_len, hh_len])
  intro j h1 h2
  rw [mxL_len] at h1
  have h3 := mxL_at xs ys n n j h1
  have h4 := hh_at min xs ys n j h1
  rw [if_pos h1, List.getD_eq_getElem?_getD, List.getElem?_eq_getElem (by rw [mxL_len]; exact h1)] at h3
  rw [List.getD_eq_getElem?_getD, List.getElem?_eq_getElem h2] at h4
  exact h3.trans h4.symm
theorem own_drew {w : World} {lo hi : Nat} {v : Value} {xs : List Int} (h : OwnI w lo hi v xs) : OwnI w.drew lo hi v xs := h
theorem own_set_other {w : World} {lo hi g j : Nat} {y : Value} {xs : List Int} {b c : Nat} {n : Nat} (h : OwnI w lo hi (.slice (some ⟨b, 0, none⟩) n c) xs) (hne : g ≠ b) : OwnI (w.setCell ⟨g, j, none⟩ y) lo hi (.slice (some ⟨b, 0, none⟩) n c) xs := by
  obtain ⟨A, c', e, h⟩ := h
  refine ⟨A, c', e, h.elim .inl fun ⟨g', C, h1, h2, h3, h4, h5⟩ => .inr ⟨g', C, h1, h2, h3, ?_, h5⟩⟩
  have hb : b = g' := by
    simp only [Value.slice.injEq] at e
    have := e.1.trans h3
    simpa using this
  rw [Below.heap_setCell _ _ _ _ (by show g' ≠ g; omega)]; exact h4
set_option maxRecDepth 100000 in
set_option maxHeartbeats 3200000 in
theorem tamariMeetI (a b : ByteArray) (w : World) (ha : a.size ≤ 1099511627776) (hb : b.size ≤ 1099511627776) : Calls Try.prog 43 #[.string a, .string b] w fun e w' => e = .returned (.tuple #[.string (metP a b), .bool (metB a b)]) ∧ Below w.heap.size w w' := by
  have HF := Lib.hid (areTrees a b w ha hb)
  rcases hf : fitT a b with _ | _
  · have HP := Lib.hid (met_no hf)
    rw [hf] at HF
    clear hf
    go_enter Try.func43, Try.ntmps43
    go_wp2_with fail
    (with_reducible refine HF.out.mono ?_)
    rintro e w1 ⟨rfl, hb1⟩
    go_wp2
    go_ret2
    exact ⟨ret_sb HP.out.1.symm HP.out.2.symm, hb1⟩
  · have HP := Lib.hid (met_yes hf)
    obtain ⟨n, hn8, hl1, hl2, -, -, hx8, hy8⟩ := fit_wts hf
    unfold mnL at HP
    rw [hl1] at HP
    have H8 := Lib.hid (And.intro hx8 hy8)
    have HA := Lib.hid (fun W => weightsOfIR a W ha)
    have HB := Lib.hid (fun W => weightsOfI b W hb)
    generalize wtsP a = xs at *
    generalize wtsP b = ys at *
    have L1 := Lib.hid (show xs.length = n ∧ ys.length = n from ⟨hl1, hl2⟩)
    rw [hf] at HF
    clear hf hl1 hl2 hx8 hy8
    go_enter Try.func43, Try.ntmps43
    go_wp2_with fail
    (with_reducible refine HF.out.mono ?_)
    rintro e w0 ⟨rfl, hb0⟩
    have HB0 := Lib.hid hb0
    have z0 := hb0.size
    clear hb0
    go_wp2_with fail
    (with_reducible refine (HA.out _).mono ?_)
    rintro e w1 ⟨v1, rfl, ⟨o1, A1, c1, rfl, hr1⟩, b1⟩
    go_wp2_with fail
    (with_reducible refine (HB.out _).mono ?_)
    rintro e w2 ⟨v2, rfl, o2, b2⟩
    obtain ⟨A2, c2, rfl, -⟩ := id o2
    have HO1 := Lib.hid (o1.keep b2 (Nat.le_refl _))
    have HO2 := Lib.hid o2
    have HB2 := Lib.hid (HB0.out.trans ((b1.trans (b2.mono b1.size)).mono z0))
    have HZ := Lib.hid (show w.heap.size ≤ w0.heap.size ∧ w0.heap.size ≤ w1.heap.size ∧ w1.heap.size ≤ w2.heap.size from ⟨z0, b1.size, b2.size⟩)
    clear o1 o2 b1 b2
    rw [L1.out.1] at HO1 hr1
    rw [L1.out.2] at HO2
    rw [L1.out.1, L1.out.2]
    go_wp2
    go_loopw [19] (fun y wr => ∃ i : Nat, i ≤ n ∧ y = .int .i64 i ∧ OwnI wr w0.heap.size w1.heap.size (.slice A1 n c1) (mxL xs ys n i) ∧ OwnI wr w1.heap.size w2.heap.size (.slice A2 n c2) ys ∧ Below w.heap.size w wr ∧ w2.heap.size ≤ wr.heap.size) (fun y _ => n - (intOf y).toNat)
    case atStart => exact ⟨0, Nat.zero_le _, rfl, by rw [mxL_zero _ _ _ L1.out.1]; exact HO1.out, HO2.out, HB2.out, Nat.le_refl _⟩
    case round =>
      obtain ⟨i, hi, rfl, q1, q2, hbw, hzw⟩ := hrel
      have HQ1 := Lib.hid q1
      have HQ2 := Lib.hid q2
      have HBW := Lib.hid hbw
      clear q1 q2 hbw
      by_cases hlt : i < n
      · obtain ⟨g1, p1, e1, hg1, hg1', hc1, hfz⟩ := HQ1.out.cell (j := i) (by rw [mxL_len]; exact hlt)
        simp only [Value.slice.injEq] at e1
        obtain ⟨rfl, -, rfl⟩ := e1
        obtain ⟨g2, p2, e2, hg2, -, hc2, -⟩ := HQ2.out.cell (j := i) (by have := L1.out; omega)
        simp only [Value.slice.injEq] at e2
        obtain ⟨rfl, -, rfl⟩ := e2
        rw [mxL_at _ _ _ _ _ hlt, if_neg (by omega)] at hc1
        have hii : (i : Int) < (n : Int) := by omega
        have HMX := Lib.hid (show (mxL xs ys n (i + 1)).getD i 0 = min (xs.getD i 0) (ys.getD i 0) by rw [mxL_at _ _ _ _ _ hlt, if_pos (by omega)])
        have HMO := Lib.hid (show ∀ j, j < (mxL xs ys n i).length → j ≠ i → (mxL xs ys n (i + 1)).getD j 0 = (mxL xs ys n i).getD j 0 from fun j hj hne => by
          rw [mxL_len] at hj
          rw [mxL_at _ _ _ _ _ hj, mxL_at _ _ _ _ _ hj]
          by_cases e : j < i
          · rw [if_pos (by omega), if_pos e]
          · rw [if_neg (by omega), if_neg e])
        have HNE := Lib.hid (show g1 ≠ g2 by omega)
        have HG := Lib.hid (And.intro hg1 hg2)
        generalize xs.getD i 0 = x at *
        generalize ys.getD i 0 = y at *
        clear hg1 hg1' hg2
        go_wp2
        go_region_law (fail)
        all_goals go_wp2
        all_goals refine ⟨⟨i + 1, by omega, by simp, ?_, ?_, ?_, ?_⟩, by simp [intOf]; omega⟩
        all_goals first
          | exact OwnI.set HQ1.out (by rw [mxL_len]; exact hlt) (by rw [mxL_len, mxL_len]) HMX.out HMO.out
          | exact own_set_other (g := g1) (j := i) (y := .int .i64 (min x y)) HQ2.out HNE.out
          | exact own_drew (own_set_other (g := g1) (j := i) (y := .int .i64 (min x y)) HQ2.out HNE.out)
          | exact below_drewN (HBW.out.setCell (p := ⟨g1, i, none⟩) (Nat.le_trans HZ.out.1 HG.out.1) _) _
          | exact (HBW.out.setCell (p := ⟨g1, i, none⟩) (Nat.le_trans HZ.out.1 HG.out.1) _).drew
          | exact HBW.out.setCell (p := ⟨g1, i, none⟩) (Nat.le_trans HZ.out.1 HG.out.1) _
          | exact hzw
          | (simpa [World.setCell] using hzw)
      · obtain rfl : i = n := by omega
        rw [mxL_all] at HQ1
        have HQ := Lib.hid (binaryOfWeightsI A1 (hh min xs ys i) c1 w0.heap.size w1.heap.size wr (by rw [hh_len]; exact HQ1.out) (by rw [hh_len]; exact hr1) (fun y hy => by
          obtain ⟨k, hk, rfl⟩ := List.getElem_of_mem hy
          rw [hh_len] at hk
          have h1 := hh_at min xs ys i k hk
          rw [List.getD_eq_getElem?_getD, List.getElem?_eq_getElem (by rw [hh_len]; exact hk), Option.getD_some] at h1
          have h2 := H8.out.1 k hk
          have h3 := H8.out.2 k hk
          rw [h1]
          exact Go.WalkArith.wf_i64 (by omega)) (by rw [hh_len]; omega))
        rw [hh_len] at HQ
        have zw := HBW.out.size
        go_wp2_with fail
        (with_reducible refine HQ.out.mono ?_)
        rintro e w3 ⟨rfl, hb3⟩
        go_wp2
        go_ret2
        exact ⟨ret_sb HP.out.1.symm HP.out.2.symm, HBW.out.trans (hb3.mono zw)⟩

set_option maxRecDepth 100000 in
set_option maxHeartbeats 800000 in
theorem tamariJoinI (a b : ByteArray) (w : World) (ha : a.size ≤ 1099511627776) (hb : b.size ≤ 1099511627776) : Calls Try.prog 45 #[.string a, .string b] w fun e w' => e = .returned (.tuple #[.string (jonP a b), .bool (jonB a b)]) ∧ Below w.heap.size w w' := by
  have HMA := Lib.hid (fun W => mirrorBinaryI a W ha)
  have HMB := Lib.hid (fun W => mirrorBinaryI b W hb)
  have hsz : ∀ c : ByteArray, (mirBP c).size ≤ 25 := fun c => by
    rcases h : binB c with _ | _
    · rw [show mirBP c = ⟨#[]⟩ from if_neg (by rw [h]; simp)]; show (0 : Nat) ≤ 25; omega
    · obtain ⟨t, rfl, hn, -⟩ := par_yes h
      rw [mir_tree t hn, sz_sh, mi_nds]; omega
  have HME := Lib.hid (fun W => tamariMeetI (mirBP a) (mirBP b) W (by have := hsz a; omega) (by have := hsz b; omega))
  have HLA := Lib.hid (show (metP (mirBP a) (mirBP b)).size ≤ 25 ∧ mirBP (metP (mirBP a) (mirBP b)) = jonP a b ∧ binB (metP (mirBP a) (mirBP b)) = jonB a b by
    unfold jonP jonB
    rcases met_cases (mirBP a) (mirBP b) with ⟨h1, h2⟩ | ⟨T, hT, h1, h2⟩
    · rw [h1, h2, bin_empty]
      exact ⟨by show (0 : Nat) ≤ 25; omega, by rw [if_neg (by simp)]; exact if_neg (by rw [bin_empty]; simp), rfl⟩
    · rw [h1, h2, bin_tree T hT, if_pos rfl]
      exact ⟨by rw [sz_sh]; omega, rfl, rfl⟩)
  have HMM := Lib.hid (fun W => mirrorBinaryI (metP (mirBP a) (mirBP b)) W (by have := HLA.out.1; omega))
  rw [HLA.out.2.1, HLA.out.2.2] at HMM
  clear hsz
  generalize metP (mirBP a) (mirBP b) = M at *
  generalize metB (mirBP a) (mirBP b) = mb at *
  generalize mirBP a = MA at *
  generalize mirBP b = MB at *
  go_enter Try.func45, Try.ntmps45
  go_wp2_with fail
  (with_reducible refine (HMA.out _).mono ?_)
  rintro e w1 ⟨rfl, hb1⟩
  have z1 := hb1.size
  go_wp2_with fail
  (with_reducible refine (HMB.out _).mono ?_)
  rintro e w2 ⟨rfl, hb2⟩
  have HB2 := Lib.hid (hb1.trans (hb2.mono z1))
  have z2 := HB2.out.size
  go_wp2_with fail
  (with_reducible refine (HME.out _).mono ?_)
  rintro e w3 ⟨rfl, hb3⟩
  have HB3 := Lib.hid (HB2.out.trans (hb3.mono z2))
  have z3 := HB3.out.size
  go_wp2_with fail
  (with_reducible refine (HMM.out _).mono ?_)
  rintro e w4 ⟨rfl, hb4⟩
  go_wp2
  go_ret2
  exact ⟨rfl, HB3.out.trans (hb4.mono z3)⟩

end Go.Proofs.Ytbbbnnkkjgikbaa
