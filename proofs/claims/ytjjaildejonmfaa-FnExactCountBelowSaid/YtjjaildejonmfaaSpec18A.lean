/- The contracts of the model's l18Fit, IsBelow, DistanceBetween, RankOfPath. -/
import Derived.Test.YtjjaildejonmfaaFact18
import Derived.BigQuiet
import Derived.Lib.MinMax
namespace Go.Proofs.Ytjjaildejonmfaa
open Go.ChangeShapes Go.WideShapes Go.ChangeAt Go.RowKit
open Go.PlainAid (bt bt_nonneg bt_le get_bt bt_end)
set_option linter.unusedVariables false

set_option maxRecDepth 100000 in
theorem l18Fit (a b : ByteArray) (w : World) (ha : a.size ≤ 1099511627776) (hb : b.size ≤ 1099511627776) : Calls Try.prog 41 #[.string a, .string b] w fun e w' => e = .returned (.bool (fitB a b)) ∧ w = w' := by
  rcases h1 : dyck a with _ | _
  · have HF := Lib.hid (fit_no (a := a) (b := b) (.inl h1))
    have H1 := Lib.hid h1
    clear h1
    go_enter Try.func41, Try.ntmps41
    go_wp2_with fail
    (with_reducible refine (isDyck_no a _ ha H1.out).mono ?_)
    rintro e w' ⟨rfl, rfl⟩
    go_wp2
    go_ret
    exact ⟨ret_bool HF.out.symm, rfl⟩
  · rcases h2 : dyck b with _ | _
    · have HF := Lib.hid (fit_no (a := a) (b := b) (.inr (.inl h2)))
      have H1 := Lib.hid h1
      have H2 := Lib.hid h2
      clear h1 h2
      go_enter Try.func41, Try.ntmps41
      go_wp2_with fail
      (with_reducible refine (isDyck_yes a _ ha H1.out).mono ?_)
      rintro e w' ⟨rfl, rfl⟩
      go_wp2_with fail
      (with_reducible refine (isDyck_no b _ hb H2.out).mono ?_)
      rintro e w' ⟨rfl, rfl⟩
      go_wp2
      go_ret
      exact ⟨ret_bool HF.out.symm, rfl⟩
    · have HF := Lib.hid (show fitB a b = ((a.size : Int) == (b.size : Int)) by
        unfold fitB; rw [h1, h2, Bool.eq_iff_iff]; simp; omega)
      have H1 := Lib.hid h1
      have H2 := Lib.hid h2
      clear h1 h2
      go_enter Try.func41, Try.ntmps41
      go_wp2_with fail
      (with_reducible refine (isDyck_yes a _ ha H1.out).mono ?_)
      rintro e w' ⟨rfl, rfl⟩
      go_wp2_with fail
      (with_reducible refine (isDyck_yes b _ hb H2.out).mono ?_)
      rintro e w' ⟨rfl, rfl⟩
      go_wp2
      go_ret
      exact ⟨ret_bool HF.out.symm, rfl⟩

set_option maxRecDepth 100000 in
set_option maxHeartbeats 1600000 in
theorem isBelow (a b : ByteArray) (w : World) (ha : a.size ≤ 1099511627776) (hb : b.size ≤ 1099511627776) : Calls Try.prog 30 #[.string a, .string b] w fun e w' => e = .returned (.bool (isbP a b)) ∧ Below w.heap.size w w' := by
  have HF := Lib.hid (l18Fit a b w ha hb)
  rcases hf : fitB a b with _ | _
  · have HP := Lib.hid (isb_no hf)
    rw [hf] at HF
    clear hf
    go_enter Try.func30, Try.ntmps30
    go_wp2_with fail
    (with_reducible refine HF.out.mono ?_)
    rintro e w' ⟨rfl, rfl⟩
    go_wp2
    go_ret
    exact ⟨ret_bool HP.out.symm, Below.refl _ _⟩
  · have HP := Lib.hid (isb_yes hf)
    obtain ⟨d1, d2, hs⟩ := fit_yes hf
    have hl1 := hs_len d1
    have hl2 := hs_len d2
    have h16 := dyck_size d1
    have HA := Lib.hid (fun W => heightsOf a W ha)
    have HB := Lib.hid (fun W => heightsOf b W hb)
    obtain ⟨n, hn⟩ : ∃ n, n = a.size + 1 := ⟨_, rfl⟩
    rw [← hn] at HP
    have HN := Lib.hid (fun i => blw_no (xs := heightsP a) (ys := heightsP b) (n := n) (i := i))
    have HY := Lib.hid (blw_iff (heightsP a) (heightsP b) n)
    generalize heightsP a = xs at *
    generalize heightsP b = ys at *
    have l1 : xs.length = n := by omega
    have l2 : ys.length = n := by omega
    have hn17 : n ≤ 17 := by omega
    rw [hf] at HF
    clear hf d1 d2 hs hl1 hl2 h16 hn
    go_enter Try.func30, Try.ntmps30
    go_wp2_with fail
    (with_reducible refine HF.out.mono ?_)
    rintro e w' ⟨rfl, rfl⟩
    go_wp2_with fail
    (with_reducible refine (HA.out _).mono ?_)
    rintro e w1 ⟨v1, rfl, o1, b1⟩
    obtain ⟨A1, c1, rfl, k1⟩ := id o1
    go_wp2_with fail
    (with_reducible refine (HB.out _).mono ?_)
    rintro e w2 ⟨v2, rfl, o2, b2⟩
    obtain ⟨A2, c2, rfl, k2⟩ := id o2
    have HO1 := Lib.hid (o1.keep b2 (Nat.le_refl _))
    have HO2 := Lib.hid o2
    have HB2 := Lib.hid (b1.trans (b2.mono b1.size))
    clear k1 k2 o1 o2 b1 b2
    have L1 := Lib.hid (show xs.length = n ∧ ys.length = n from ⟨l1, l2⟩)
    rw [l1] at HO1
    rw [l2] at HO2
    simp only [l2]
    clear l1 l2
    go_wp2
    go_loopw [7] (fun y wr => ∃ (i q : Nat), i ≤ n ∧ y = .int .i64 i ∧ wr = w2.drewN q ∧ ∀ j, j < i → xs.getD j 0 ≤ ys.getD j 0) (fun y _ => n - (intOf y).toNat)
    case atStart => exact ⟨0, 0, Nat.zero_le _, rfl, rfl, fun j h => absurd h (Nat.not_lt_zero _)⟩
    case round =>
      obtain ⟨i, q, hi, rfl, rfl, hle⟩ := hrel
      have HLE := Lib.hid hle
      clear hle
      by_cases hlt : i < n
      · obtain ⟨g1, p1, e1, -, -, hc1, -⟩ := HO1.out.cell (j := i) (by have := L1.out; omega)
        simp only [Value.slice.injEq] at e1
        obtain ⟨rfl, -, rfl⟩ := e1
        obtain ⟨g2, p2, e2, -, -, hc2, -⟩ := HO2.out.cell (j := i) (by have := L1.out; omega)
        simp only [Value.slice.injEq] at e2
        obtain ⟨rfl, -, rfl⟩ := e2
        have hii : (i : Int) < (n : Int) := by omega
        have HNO := Lib.hid (HN.out i hlt)
        have HLT := Lib.hid (show xs.getD i 0 ≤ ys.getD i 0 → ∀ j, j < i + 1 → xs.getD j 0 ≤ ys.getD j 0 from fun h j hj => by
          by_cases e : j = i
          · subst e; exact h
          · exact HLE.out j (by omega))
        generalize xs.getD i 0 = x at *
        generalize ys.getD i 0 = y at *
        by_cases c : y < x
        · have hPN := Lib.hid (HNO.out c)
          go_wp2
          go_quiet (fail)
          go_wp2
          go_ret
          exact ⟨ret_bool (by rw [HP.out, hPN.out]), below_drewN (below_drewN HB2.out _) _⟩
        · have cd : decide (y < x) = false := decide_eq_false c
          have HL2 := Lib.hid (HLT.out (by omega))
          go_wp2
          go_quiet (fail)
          go_wp2
          refine ⟨⟨i + 1, q + nq, by omega, by simp, by simp, HL2.out⟩, by simp [intOf]; omega⟩
      · obtain rfl : i = n := by omega
        go_wp2
        go_ret
        exact ⟨ret_bool (by rw [HP.out]; exact (HY.out.2 HLE.out).symm), below_drewN HB2.out _⟩

set_option maxRecDepth 100000 in
set_option maxHeartbeats 1600000 in
theorem distanceBetween (a b : ByteArray) (w : World) (ha : a.size ≤ 1099511627776) (hb : b.size ≤ 1099511627776) : Calls Try.prog 18 #[.string a, .string b] w fun e w' => e = .returned (.int .i64 (dstP a b)) ∧ Below w.heap.size w w' := by
  have HF := Lib.hid (l18Fit a b w ha hb)
  rcases hf : fitB a b with _ | _
  · have HP := Lib.hid (dst_no hf)
    rw [hf] at HF
    clear hf
    go_enter Try.func18, Try.ntmps18
    go_wp2_with fail
    (with_reducible refine HF.out.mono ?_)
    rintro e w' ⟨rfl, rfl⟩
    go_wp2
    go_ret
    exact ⟨ret_int HP.out.symm, Below.refl _ _⟩
  · have HP := Lib.hid (dst_yes hf)
    obtain ⟨d1, d2, hs⟩ := fit_yes hf
    have hl1 := hs_len d1
    have hl2 := hs_len d2
    have h16 := dyck_size d1
    have HA := Lib.hid (fun W => heightsOf a W ha)
    have HB := Lib.hid (fun W => heightsOf b W hb)
    have HX := Lib.hid (fun j (h : j < a.size + 1) => hs_fit d1 j h)
    have HY := Lib.hid (fun j (h : j < a.size + 1) => hs_fit d2 j (by omega))
    obtain ⟨n, hn⟩ : ∃ n, n = a.size + 1 := ⟨_, rfl⟩
    rw [← hn] at HP HX HY
    have HDB := Lib.hid (dsL_bd HX.out HY.out)
    generalize heightsP a = xs at *
    generalize heightsP b = ys at *
    have l1 : xs.length = n := by omega
    have l2 : ys.length = n := by omega
    have hn17 : n ≤ 17 := by omega
    rw [hf] at HF
    clear hf d1 d2 hs hl1 hl2 h16 hn
    go_enter Try.func18, Try.ntmps18
    go_wp2_with fail
    (with_reducible refine HF.out.mono ?_)
    rintro e w' ⟨rfl, rfl⟩
    go_wp2_with fail
    (with_reducible refine (HA.out _).mono ?_)
    rintro e w1 ⟨v1, rfl, o1, b1⟩
    obtain ⟨A1, c1, rfl, k1⟩ := id o1
    go_wp2_with fail
    (with_reducible refine (HB.out _).mono ?_)
    rintro e w2 ⟨v2, rfl, o2, b2⟩
    obtain ⟨A2, c2, rfl, k2⟩ := id o2
    have HO1 := Lib.hid (o1.keep b2 (Nat.le_refl _))
    have HO2 := Lib.hid o2
    have HB2 := Lib.hid (b1.trans (b2.mono b1.size))
    clear k1 k2 o1 o2 b1 b2
    have L1 := Lib.hid (show xs.length = n ∧ ys.length = n from ⟨l1, l2⟩)
    rw [l1] at HO1
    rw [l2] at HO2
    simp only [l2]
    clear l1 l2
    go_wp2
    go_loopw [7, 8] (fun x y wr => ∃ (i q : Nat), i ≤ n ∧ y = .int .i64 i ∧ x = .int .i64 (dsL xs ys i) ∧ wr = w2.drewN q) (fun _ y _ => n - (intOf y).toNat)
    case atStart => exact ⟨0, 0, Nat.zero_le _, rfl, rfl, rfl⟩
    case round =>
      obtain ⟨i, q, hi, rfl, rfl, rfl⟩ := hrel
      obtain ⟨d0, d1⟩ := HDB.out i hi
      by_cases hlt : i < n
      · obtain ⟨g1, p1, e1, -, -, hc1, -⟩ := HO1.out.cell (j := i) (by have := L1.out; omega)
        simp only [Value.slice.injEq] at e1
        obtain ⟨rfl, -, rfl⟩ := e1
        obtain ⟨g2, p2, e2, -, -, hc2, -⟩ := HO2.out.cell (j := i) (by have := L1.out; omega)
        simp only [Value.slice.injEq] at e2
        obtain ⟨rfl, -, rfl⟩ := e2
        have hii : (i : Int) < (n : Int) := by omega
        have HD := Lib.hid (show dsL xs ys (i + 1) = dsL xs ys i + max (xs.getD i 0 - ys.getD i 0) (ys.getD i 0 - xs.getD i 0) from rfl)
        obtain ⟨x0, x1⟩ := HX.out i hlt
        obtain ⟨y0, y1⟩ := HY.out i hlt
        generalize dsL xs ys i = d at *
        generalize xs.getD i 0 = x at *
        generalize ys.getD i 0 = y at *
        have w1 : IntKind.i64.wrap (x - y) = x - y := IntWalk.i64_in _ (by omega)
        have w2' : IntKind.i64.wrap (y - x) = y - x := IntWalk.i64_in _ (by omega)
        have w3 : IntKind.i64.wrap (d + max (x - y) (y - x)) = d + max (x - y) (y - x) := IntWalk.i64_in _ (by omega)
        go_wp2
        go_quiet (fail)
        go_wp2
        refine ⟨⟨i + 1, q + nq, by omega, by simp, by rw [HD.out], by simp⟩, by simp [intOf]; omega⟩
      · obtain rfl : i = n := by omega
        go_wp2
        go_ret
        exact ⟨ret_int HP.out.symm, below_drewN HB2.out _⟩

set_option maxRecDepth 100000 in
set_option maxHeartbeats 1600000 in
theorem rankOfPath (a : ByteArray) (w : World) (ha : a.size ≤ 1099511627776) : Calls Try.prog 31 #[.string a] w fun e w' => e = .returned (.int .i64 (rnkP a)) ∧ Below w.heap.size w w' := by
  have HA := Lib.hid (fun W => heightsOf a W ha)
  rcases hd : dyck a with _ | _
  · have HP := Lib.hid (rnk_no hd)
    rw [heightsP_no hd] at HA
    clear hd
    go_enter Try.func31, Try.ntmps31
    go_wp2_with fail
    (with_reducible refine (HA.out _).mono ?_)
    rintro e w1 ⟨v1, rfl, o1, b1⟩
    obtain ⟨A1, c1, rfl, k1⟩ := id o1
    simp only [List.length_nil] at *
    have HB := Lib.hid b1
    clear k1 o1 b1
    go_wp2
    go_loop [4, 5] (fun x y => x = .int .i64 0 ∧ y = .int .i64 0) (fun _ _ => 0)
    case atStart => exact ⟨rfl, rfl⟩
    case round =>
      obtain ⟨rfl, rfl⟩ := hrel
      go_wp2
      go_ret
      exact ⟨ret_int HP.out.symm, HB.out⟩
  · have HP := Lib.hid (rnk_yes hd)
    have hl1 := hs_len hd
    have h16 := dyck_size hd
    have HX := Lib.hid (fun j (h : j < a.size + 1) => hs_fit hd j h)
    obtain ⟨n, hn⟩ : ∃ n, n = a.size + 1 := ⟨_, rfl⟩
    rw [← hn] at HP HX
    have HDB := Lib.hid (fun j (h : j ≤ n) => show 0 ≤ tmL (heightsP a) j ∧ tmL (heightsP a) j ≤ 8 * j from ⟨tmL_nn hd j (by omega), (tmL_bd HX.out j h).2⟩)
    generalize heightsP a = xs at *
    have l1 : xs.length = n := by omega
    have hn17 : n ≤ 17 := by omega
    have hn0 : 0 < n := by omega
    clear hd hl1 h16 hn
    go_enter Try.func31, Try.ntmps31
    go_wp2_with fail
    (with_reducible refine (HA.out _).mono ?_)
    rintro e w1 ⟨v1, rfl, o1, b1⟩
    obtain ⟨A1, c1, rfl, k1⟩ := id o1
    have HO1 := Lib.hid o1
    have HB := Lib.hid b1
    clear k1 o1 b1
    have L1 := Lib.hid (show xs.length = n ∧ xs.length = n from ⟨l1, l1⟩)
    rw [l1] at HO1
    simp only [l1]
    clear l1
    go_wp2
    go_loop [4, 5] (fun x y => ∃ i : Nat, i ≤ n ∧ y = .int .i64 i ∧ x = .int .i64 (tmL xs i)) (fun _ y => n - (intOf y).toNat)
    case atStart => exact ⟨0, Nat.zero_le _, rfl, rfl⟩
    case round =>
      obtain ⟨i, hi, rfl, rfl⟩ := hrel
      obtain ⟨d0, d1⟩ := HDB.out i hi
      by_cases hlt : i < n
      · obtain ⟨g1, p1, e1, -, -, hc1, -⟩ := HO1.out.cell (j := i) (by have := L1.out; omega)
        simp only [Value.slice.injEq] at e1
        obtain ⟨rfl, -, rfl⟩ := e1
        have hii : (i : Int) < (n : Int) := by omega
        have HD := Lib.hid (show tmL xs (i + 1) = tmL xs i + xs.getD i 0 - ((i % 2 : Nat) : Int) from rfl)
        obtain ⟨x0, x1⟩ := HX.out i hlt
        generalize tmL xs i = d at *
        generalize xs.getD i 0 = x at *
        have hr : (i : Int).tmod 2 = ((i % 2 : Nat) : Int) := by rw [Int.tmod_eq_emod_of_nonneg (by omega)]; omega
        have hr2 : (i : Int) % 2 = ((i % 2 : Nat) : Int) := by omega
        obtain ⟨r, hrr⟩ : ∃ r : Nat, r = i % 2 := ⟨_, rfl⟩
        have hr1 : r ≤ 1 := by omega
        rw [← hrr] at hr hr2 HD
        clear hrr
        have w1 : IntKind.i64.wrap (d + x) = d + x := IntWalk.i64_in _ (by omega)
        have w2 : IntKind.i64.wrap (d + x - (r : Int)) = d + x - (r : Int) := IntWalk.i64_in _ (by omega)
        go_wp2
        refine ⟨⟨i + 1, by omega, by simp, ?_⟩, by simp [intOf]; omega⟩
        first | (rw [HD.out]) | (rw [HD.out]; congr 1; omega)
      · obtain rfl : i = n := by omega
        go_wp2
        go_ret
        exact ⟨ret_int HP.out.symm, HB.out⟩

end Go.Proofs.Ytjjaildejonmfaa
