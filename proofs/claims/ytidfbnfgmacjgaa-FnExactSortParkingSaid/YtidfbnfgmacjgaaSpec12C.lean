/- The contracts of the model's IsParking, DisplacementOf, LuckyOf, PathOfParking. -/
import Derived.Test.YtidfbnfgmacjgaaSpec12B
namespace Go.Proofs.Ytidfbnfgmacjgaa
open Go.ChangeShapes Go.WideShapes Go.ChangeAt Go.RowKit
set_option linter.unusedVariables false

theorem isParking (v : Value) (xs : List Int) (lo hi : Nat) (w : World) (hv : OwnI w lo hi v xs) (hhi : hi ≤ w.heap.size) (hl : xs.length ≤ 1099511627776) :
    Calls Try.prog 10 #[v] w fun e w' => e = .returned (.bool (parkB xs)) ∧ Below w.heap.size w w' := by
  have HM := Lib.hid (placesOf v xs lo hi w hv hhi hl)
  clear hv
  go_enter Try.func10, Try.ntmps10
  go_wp2_with fail
  (with_reducible refine HM.out.mono ?_)
  rintro e w' ⟨u, rfl, ho, hb⟩
  go_wp2
  go_ret
  exact ⟨rfl, hb⟩

set_option maxRecDepth 100000 in
set_option maxHeartbeats 3200000 in
theorem displacementOf (v : Value) (xs : List Int) (lo hi : Nat) (w : World) (hv : OwnI w lo hi v xs) (hhi : hi ≤ w.heap.size) (hl : xs.length ≤ 1099511627776) :
    Calls Try.prog 22 #[v] w fun e w' => e = .returned (.int .i64 (dspP xs)) ∧ Below w.heap.size w w' := by
  obtain ⟨A1, c1, rfl, -⟩ := id hv
  have HM := Lib.hid (placesOf _ xs lo hi w hv hhi hl)
  have HV := Lib.hid hv
  clear hv
  rcases hm : parkB xs with _ | _
  · have HP := Lib.hid (show dspP xs = -1 from if_neg (by simp [hm]))
    rw [hm] at HM
    clear hm
    go_enter Try.func22, Try.ntmps22
    go_wp2_with fail
    (with_reducible refine HM.out.mono ?_)
    rintro e w' ⟨u, rfl, ho, hb⟩
    go_wp2
    go_ret
    exact ⟨ret_int HP.out.symm, hb⟩
  · have HP := Lib.hid (show dspP xs = dsN xs xs.length from if_pos hm)
    have HPL := Lib.hid (plcP_yes hm)
    have HBD := Lib.hid (fun i hi => dsN_bd hm i hi)
    obtain ⟨h6, hco⟩ := park_yes hm
    have HCO := Lib.hid hco
    have hlen := pkL_len xs xs.length
    have HAT := Lib.hid (fun i hi => pkL_at xs xs.length i hi)
    rw [hm] at HM
    clear hm hco
    go_enter Try.func22, Try.ntmps22
    go_wp2_with fail
    (with_reducible refine HM.out.mono ?_)
    rintro e w1 ⟨u, rfl, ho, hb⟩
    rw [HPL.out] at ho
    have HB := Lib.hid hb
    have HV1 := Lib.hid (HV.out.keep hb hhi)
    obtain ⟨A2, c2, e2, -⟩ := id ho
    rw [hlen] at e2
    subst e2
    have HO := Lib.hid ho
    clear hb ho
    go_wp2
    go_loopw [5, 6] (fun x y wr => ∃ k q : Nat, k ≤ xs.length ∧ y = .int .i64 k ∧ x = .int .i64 (dsN xs k) ∧ wr = w1.drewN q) (fun _ y _ => xs.length - (intOf y).toNat)
    case atStart => exact ⟨0, 0, Nat.zero_le _, rfl, rfl, rfl⟩
    case round =>
      obtain ⟨k, q, hk, rfl, rfl, rfl⟩ := hrel
      by_cases hlt : k < xs.length
      · obtain ⟨g1, p1, e1, -, -, hc1, -⟩ := HV1.out.cell hlt
        simp only [Value.slice.injEq] at e1
        obtain ⟨rfl, -, rfl⟩ := e1
        obtain ⟨g2, p2, e2, -, -, hc2, -⟩ := HO.out.cell (j := k) (by rw [hlen]; exact hlt)
        rw [hlen] at e2
        simp only [Value.slice.injEq] at e2
        obtain ⟨rfl, -, rfl⟩ := e2
        rw [HAT.out k hlt] at hc2
        have hki : (k : Int) < (xs.length : Int) := by omega
        have HSU := Lib.hid (show dsN xs (k + 1) = dsN xs k + (plN xs k : Int) - xs.getD k 0 from rfl)
        obtain ⟨d0, d1⟩ := HBD.out k hk
        obtain ⟨⟨y1, y2⟩, y3⟩ := HCO.out k hlt
        generalize plN xs k = P at *
        generalize xs.getD k 0 = y at *
        generalize dsN xs k = d at *
        have hw1 : IntKind.i64.wrap (d + (P : Int)) = d + (P : Int) := IntWalk.i64_in _ (by omega)
        go_wp2
        go_quiet (fail)
        go_wp2
        refine ⟨⟨k + 1, q + nq, by omega, by simp, by rw [HSU.out], rfl⟩, by simp [intOf]; omega⟩
      · obtain rfl : k = xs.length := by omega
        go_wp2
        go_ret
        exact ⟨ret_int HP.out.symm, below_drewN HB.out _⟩

set_option maxRecDepth 100000 in
set_option maxHeartbeats 3200000 in
theorem luckyOf (v : Value) (xs : List Int) (lo hi : Nat) (w : World) (hv : OwnI w lo hi v xs) (hhi : hi ≤ w.heap.size) (hl : xs.length ≤ 1099511627776) :
    Calls Try.prog 26 #[v] w fun e w' => e = .returned (.int .i64 (lckP xs)) ∧ Below w.heap.size w w' := by
  obtain ⟨A1, c1, rfl, -⟩ := id hv
  have HM := Lib.hid (placesOf _ xs lo hi w hv hhi hl)
  have HV := Lib.hid hv
  clear hv
  rcases hm : parkB xs with _ | _
  · have HP := Lib.hid (show lckP xs = -1 from if_neg (by simp [hm]))
    rw [hm] at HM
    clear hm
    go_enter Try.func26, Try.ntmps26
    go_wp2_with fail
    (with_reducible refine HM.out.mono ?_)
    rintro e w' ⟨u, rfl, ho, hb⟩
    go_wp2
    go_ret
    exact ⟨ret_int HP.out.symm, hb⟩
  · have HP := Lib.hid (show lckP xs = (lkN xs xs.length : Int) from if_pos hm)
    have HPL := Lib.hid (plcP_yes hm)
    obtain ⟨h6, hco⟩ := park_yes hm
    have hlen := pkL_len xs xs.length
    have HAT := Lib.hid (fun i hi => pkL_at xs xs.length i hi)
    rw [hm] at HM
    clear hm hco
    go_enter Try.func26, Try.ntmps26
    go_wp2_with fail
    (with_reducible refine HM.out.mono ?_)
    rintro e w1 ⟨u, rfl, ho, hb⟩
    rw [HPL.out] at ho
    have HB := Lib.hid hb
    have HV1 := Lib.hid (HV.out.keep hb hhi)
    obtain ⟨A2, c2, e2, -⟩ := id ho
    rw [hlen] at e2
    subst e2
    have HO := Lib.hid ho
    clear hb ho
    go_wp2
    go_loopw [5, 6] (fun x y wr => ∃ k q : Nat, k ≤ xs.length ∧ y = .int .i64 k ∧ x = .int .i64 (lkN xs k : Nat) ∧ wr = w1.drewN q) (fun _ y _ => xs.length - (intOf y).toNat)
    case atStart => exact ⟨0, 0, Nat.zero_le _, rfl, rfl, rfl⟩
    case round =>
      obtain ⟨k, q, hk, rfl, rfl, rfl⟩ := hrel
      by_cases hlt : k < xs.length
      · obtain ⟨g1, p1, e1, -, -, hc1, -⟩ := HV1.out.cell hlt
        simp only [Value.slice.injEq] at e1
        obtain ⟨rfl, -, rfl⟩ := e1
        obtain ⟨g2, p2, e2, -, -, hc2, -⟩ := HO.out.cell (j := k) (by rw [hlen]; exact hlt)
        rw [hlen] at e2
        simp only [Value.slice.injEq] at e2
        obtain ⟨rfl, -, rfl⟩ := e2
        rw [HAT.out k hlt] at hc2
        have hki : (k : Int) < (xs.length : Int) := by omega
        have HSU := Lib.hid (show lkN xs (k + 1) = lkN xs k + if (plN xs k : Int) = xs.getD k 0 then 1 else 0 from rfl)
        have hle := lkN_le xs k
        generalize hPy : (plN xs k : Int) = P at *
        clear hPy
        generalize xs.getD k 0 = y at *
        generalize lkN xs k = d at *
        by_cases ey : P = y
        · have HE := Lib.hid (HSU.out.trans (by rw [if_pos ey]))
          have eyb : (P == y) = true := by simp [ey]
          clear ey
          go_wp2
          go_quiet (fail)
          go_wp2
          refine ⟨⟨k + 1, q + nq, by omega, by simp, by rw [HE.out]; simp, rfl⟩, by simp [intOf]; omega⟩
        · have HE := Lib.hid (HSU.out.trans (by rw [if_neg ey]))
          have eyb : (P == y) = false := beq_eq_false_iff_ne.2 ey
          clear ey
          go_wp2
          go_quiet (fail)
          go_wp2
          refine ⟨⟨k + 1, q + nq, by omega, by simp, by rw [HE.out]; simp, rfl⟩, by simp [intOf]; omega⟩
      · obtain rfl : k = xs.length := by omega
        go_wp2
        go_ret
        exact ⟨ret_int HP.out.symm, below_drewN HB.out _⟩

theorem ppI_snoc (f : List Int) (p : Int) (i : Nat) (h : f.getD i 0 = p) : ppI f p (i + 1) = ppI f p i ++ [117] := by rw [ppI, if_pos h]
theorem ppI_same (f : List Int) (p : Int) (i : Nat) (h : f.getD i 0 ≠ p) : ppI f p (i + 1) = ppI f p i := by rw [ppI, if_neg h, List.append_nil]

set_option maxRecDepth 100000 in
set_option maxHeartbeats 3200000 in
theorem pathOfParking (v : Value) (xs : List Int) (lo hi : Nat) (w : World) (hv : OwnI w lo hi v xs) (hhi : hi ≤ w.heap.size) (hl : xs.length ≤ 1099511627776) :
    Calls Try.prog 20 #[v] w fun e w' => e = .returned (.tuple #[.string (ppP xs), .bool (parkB xs)]) ∧ Below w.heap.size w w' := by
  obtain ⟨A1, c1, rfl, -⟩ := id hv
  have HM := Lib.hid (isParking _ xs lo hi w hv hhi hl)
  have HV := Lib.hid hv
  clear hv
  rcases hm : parkB xs with _ | _
  · have HP := Lib.hid (show ppP xs = ⟨#[]⟩ from if_neg (by simp [hm]))
    rw [hm] at HM
    clear hm
    go_enter Try.func20, Try.ntmps20
    go_wp2_with fail
    (with_reducible refine HM.out.mono ?_)
    rintro e w' ⟨rfl, hb⟩
    go_wp2
    go_ret2
    exact ⟨ret_sb HP.out.symm rfl, hb⟩
  · have HP := Lib.hid (show ppP xs = ⟨(ppL xs xs.length).toArray⟩ from if_pos hm)
    obtain ⟨h6, hco⟩ := park_yes hm
    rw [hm] at HM
    clear hm hco
    go_enter Try.func20, Try.ntmps20
    go_wp2_with fail
    (with_reducible refine HM.out.mono ?_)
    rintro e w1 ⟨rfl, hb⟩
    have HB := Lib.hid hb
    have HV1 := Lib.hid (HV.out.keep hb hhi)
    clear hb
    go_wp2
    go_loop [4, 5] (fun x y => ∃ p : Nat, p ≤ xs.length ∧ y = .int .i64 ((p : Int) + 1) ∧ x = .string ⟨(ppL xs p).toArray⟩) (fun _ y => xs.length + 1 - (intOf y).toNat)
    case atStart => exact ⟨0, Nat.zero_le _, rfl, rfl⟩
    case round =>
      obtain ⟨p, hp, rfl, rfl⟩ := hrel
      have hpl := ppL_len xs p
      have hps := str_len (ppL xs p)
      have hmul : p * (xs.length + 1) ≤ 42 := Nat.mul_le_mul (by omega : p ≤ 6) (by omega : xs.length + 1 ≤ 7)
      have hWb := Nat.le_trans hpl hmul
      clear hpl hmul
      by_cases hlt : p < xs.length
      · have hpi : (p : Int) + 1 ≤ (xs.length : Int) := by omega
        have HSU := Lib.hid (show ppL xs (p + 1) = ppL xs p ++ ppI xs ((p : Int) + 1) xs.length ++ [100] from rfl)
        have HIL := Lib.hid (fun i => ppI_len xs ((p : Int) + 1) i)
        have HS1 := Lib.hid (fun i h => ppI_snoc xs ((p : Int) + 1) i h)
        have HS2 := Lib.hid (fun i h => ppI_same xs ((p : Int) + 1) i h)
        generalize ppL xs p = W at *
        have hpp : ((p : Int) + 1).toNat = p + 1 := by omega
        obtain ⟨pp, hpe⟩ : ∃ pp, pp = (p : Int) + 1 := ⟨_, rfl⟩
        rw [← hpe] at HSU HIL HS1 HS2 hpi hpp
        rw [← hpe]
        have HPE := Lib.hid hpe
        have hpb : 0 ≤ pp ∧ pp ≤ 7 := by omega
        clear hpe
        go_wp2
        go_loop [4, 6] (fun x y => ∃ i : Nat, i ≤ xs.length ∧ y = .int .i64 i ∧ x = .string ⟨(W ++ ppI xs pp i).toArray⟩) (fun _ y => xs.length - (intOf y).toNat)
        case atStart => exact ⟨0, Nat.zero_le _, rfl, by rw [show ppI xs pp 0 = [] from rfl, List.append_nil]⟩
        case round =>
          obtain ⟨i, hi1, rfl, rfl⟩ := hrel
          have hil := HIL.out i
          have hls := str_len (W ++ ppI xs pp i)
          rw [List.length_append] at hls
          by_cases hil2 : i < xs.length
          · obtain ⟨g1, p1, e1, -, -, hc1, -⟩ := HV1.out.cell hil2
            simp only [Value.slice.injEq] at e1
            obtain ⟨rfl, -, rfl⟩ := e1
            have hii : (i : Int) < (xs.length : Int) := by omega
            have HA := Lib.hid (HS1.out i)
            have HN := Lib.hid (HS2.out i)
            generalize xs.getD i 0 = y at *
            generalize ppI xs pp i = V at *
            by_cases ey : y = pp
            · have eyb : (y == pp) = true := by simp [ey]
              have HE := Lib.hid (HA.out ey)
              clear ey HA HN
              go_wp2
              refine ⟨⟨i + 1, by omega, by simp, by rw [HE.out, str_snoc, List.append_assoc]⟩, by simp [intOf]; omega⟩
            · have eyb : (y == pp) = false := beq_eq_false_iff_ne.2 ey
              have HE := Lib.hid (HN.out ey)
              clear ey HA HN
              go_wp2
              refine ⟨⟨i + 1, by omega, by simp, by rw [HE.out]⟩, by simp [intOf]; omega⟩
          · obtain rfl : i = xs.length := by omega
            go_wp2
            refine ⟨⟨p + 1, by omega, by rw [HPE.out]; simp, by rw [HSU.out, str_snoc]⟩, by simp [intOf]; omega⟩
      · obtain rfl : p = xs.length := by omega
        have hpi : ¬ (xs.length : Int) + 1 ≤ (xs.length : Int) := by omega
        go_wp2
        go_ret2
        exact ⟨ret_sb HP.out.symm rfl, HB.out⟩

end Go.Proofs.Ytidfbnfgmacjgaa
