/- The contracts of the model's l17Fit, IsTamariLess (written by tools/mk17.py). -/
import Derived.Test.YtbbbnnkkjgikbaaFact17
import Derived.Test.YtbbbnnkkjgikbaaSpec16E
import Derived.BigQuiet
import Derived.Lib.MinMax
namespace Go.Proofs.Ytbbbnnkkjgikbaa
open Go.ChangeShapes Go.WideShapes Go.ChangeAt Go.RowKit
open Go.PlainAid (bt bt_nonneg bt_le get_bt bt_end)
set_option linter.unusedVariables false

set_option maxRecDepth 100000 in
theorem l17Fit (a b : ByteArray) (w : World) (ha : a.size ≤ 1099511627776) (hb : b.size ≤ 1099511627776) : Calls Try.prog 80 #[.string a, .string b] w fun e w' => e = .returned (.bool (fitT a b)) ∧ w = w' := by
  have HA := Lib.hid (isBinary a w ha)
  have HB := Lib.hid (isBinary b w hb)
  rcases h1 : binB a with _ | _
  · have HF := Lib.hid (fitT_no (a := a) (b := b) (.inl h1))
    rw [h1] at HA
    clear h1
    go_enter Try.func80, Try.ntmps80
    go_wp2_with fail
    (with_reducible refine HA.out.mono ?_)
    rintro e w' ⟨rfl, rfl⟩
    go_wp2
    go_ret
    exact ⟨ret_bool HF.out.symm, rfl⟩
  · rw [h1] at HA
    rcases h2 : binB b with _ | _
    · have HF := Lib.hid (fitT_no (a := a) (b := b) (.inr (.inl h2)))
      rw [h2] at HB
      clear h1 h2
      go_enter Try.func80, Try.ntmps80
      go_wp2_with fail
      (with_reducible refine HA.out.mono ?_)
      rintro e w' ⟨rfl, rfl⟩
      go_wp2_with fail
      (with_reducible refine HB.out.mono ?_)
      rintro e w' ⟨rfl, rfl⟩
      go_wp2
      go_ret
      exact ⟨ret_bool HF.out.symm, rfl⟩
    · have HF := Lib.hid (show fitT a b = ((a.size : Int) == (b.size : Int)) by
        unfold fitT; rw [h1, h2, Bool.eq_iff_iff]; simp; omega)
      rw [h2] at HB
      clear h1 h2
      go_enter Try.func80, Try.ntmps80
      go_wp2_with fail
      (with_reducible refine HA.out.mono ?_)
      rintro e w' ⟨rfl, rfl⟩
      go_wp2_with fail
      (with_reducible refine HB.out.mono ?_)
      rintro e w' ⟨rfl, rfl⟩
      go_wp2
      go_ret
      exact ⟨ret_bool HF.out.symm, rfl⟩

set_option maxRecDepth 100000 in
set_option maxHeartbeats 1600000 in
theorem isTamariLess (a b : ByteArray) (w : World) (ha : a.size ≤ 1099511627776) (hb : b.size ≤ 1099511627776) : Calls Try.prog 41 #[.string a, .string b] w fun e w' => e = .returned (.bool (lesT a b)) ∧ Below w.heap.size w w' := by
  have HF := Lib.hid (l17Fit a b w ha hb)
  rcases hf : fitT a b with _ | _
  · have HP := Lib.hid (les_no hf)
    rw [hf] at HF
    clear hf
    go_enter Try.func41, Try.ntmps41
    go_wp2_with fail
    (with_reducible refine HF.out.mono ?_)
    rintro e w' ⟨rfl, rfl⟩
    go_wp2
    go_ret
    exact ⟨ret_bool HP.out.symm, Below.refl _ _⟩
  · have HP := Lib.hid (les_yes hf)
    obtain ⟨n, hn17, hl1, hl2, -, -, -, -⟩ := fit_wts hf
    rw [hl1] at HP
    have HA := Lib.hid (fun W => weightsOf a W ha)
    have HB := Lib.hid (fun W => weightsOf b W hb)
    have HN := Lib.hid (fun i => blw_no (xs := wtsP a) (ys := wtsP b) (n := n) (i := i))
    have HY := Lib.hid (blw_iff (wtsP a) (wtsP b) n)
    generalize wtsP a = xs at *
    generalize wtsP b = ys at *
    have l1 : xs.length = n := by omega
    have l2 : ys.length = n := by omega
    rw [hf] at HF
    clear hf hl1 hl2
    go_enter Try.func41, Try.ntmps41
    go_wp2_with fail
    (with_reducible refine HF.out.mono ?_)
    rintro e w' ⟨rfl, rfl⟩
    go_wp2_with fail
    (with_reducible refine (HA.out _).mono ?_)
    rintro e w1 ⟨v1, rfl, o1, b1⟩
    obtain ⟨A1, c1, rfl, k1⟩ := id o1
    go_wp2_with fail
    (with_reducible refine (HB.out _).mono ?_)
    rintro e w2 ⟨v2, rfl, o2, b2⟩
    obtain ⟨A2, c2, rfl, k2⟩ := id o2
    have HO1 := Lib.hid (o1.keep b2 (Nat.le_refl _))
    have HO2 := Lib.hid o2
    have HB2 := Lib.hid (b1.trans (b2.mono b1.size))
    clear k1 k2 o1 o2 b1 b2
    have L1 := Lib.hid (show xs.length = n ∧ ys.length = n from ⟨l1, l2⟩)
    rw [l1] at HO1
    rw [l2] at HO2
    simp only [l2]
    clear l1 l2
    go_wp2
    go_loopw [7] (fun y wr => ∃ (i q : Nat), i ≤ n ∧ y = .int .i64 i ∧ wr = w2.drewN q ∧ ∀ j, j < i → xs.getD j 0 ≤ ys.getD j 0) (fun y _ => n - (intOf y).toNat)
    case atStart => exact ⟨0, 0, Nat.zero_le _, rfl, rfl, fun j h => absurd h (Nat.not_lt_zero _)⟩
    case round =>
      obtain ⟨i, q, hi, rfl, rfl, hle⟩ := hrel
      have HLE := Lib.hid hle
      clear hle
      by_cases hlt : i < n
      · obtain ⟨g1, p1, e1, -, -, hc1, -⟩ := HO1.out.cell (j := i) (by have := L1.out; omega)
        simp only [Value.slice.injEq] at e1
        obtain ⟨rfl, -, rfl⟩ := e1
        obtain ⟨g2, p2, e2, -, -, hc2, -⟩ := HO2.out.cell (j := i) (by have := L1.out; omega)
        simp only [Value.slice.injEq] at e2
        obtain ⟨rfl, -, rfl⟩ := e2
        have hii : (i : Int) < (n : Int) := by omega
        have HNO := Lib.hid (HN.out i hlt)
        have HLT := Lib.hid (show xs.getD i 0 ≤ ys.getD i 0 → ∀ j, j < i + 1 → xs.getD j 0 ≤ ys.getD j 0 from fun h j hj => by
          by_cases e : j = i
          · subst e; exact h
          · exact HLE.out j (by omega))
        generalize xs.getD i 0 = x at *
        generalize ys.getD i 0 = y at *
        by_cases c : y < x
        · have hPN := Lib.hid (HNO.out c)
          go_wp2
          go_quiet (fail)
          go_wp2
          go_ret
          exact ⟨ret_bool (by rw [HP.out, hPN.out]), below_drewN (below_drewN HB2.out _) _⟩
        · have cd : decide (y < x) = false := decide_eq_false c
          have HL2 := Lib.hid (HLT.out (by omega))
          go_wp2
          go_quiet (fail)
          go_wp2
          refine ⟨⟨i + 1, q + nq, by omega, by simp, by simp, HL2.out⟩, by simp [intOf]; omega⟩
      · obtain rfl : i = n := by omega
        go_wp2
        go_ret
        exact ⟨ret_bool (by rw [HP.out]; exact (HY.out.2 HLE.out).symm), below_drewN HB2.out _⟩


end Go.Proofs.Ytbbbnnkkjgikbaa
