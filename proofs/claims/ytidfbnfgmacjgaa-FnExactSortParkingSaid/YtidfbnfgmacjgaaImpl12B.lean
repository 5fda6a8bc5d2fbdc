/- The program's IsParking, DisplacementOf, LuckyOf, PathOfParking. -/
import Derived.Test.YtidfbnfgmacjgaaImpl12A
import Derived.Test.YtidfbnfgmacjgaaBld
import Derived.Test.YtidfbnfgmacjgaaShelfB
import Derived.BigQuiet
namespace Go.Proofs.Ytidfbnfgmacjgaa
open Go.ChangeShapes Go.WideShapes Go.ChangeAt Go.RowKit
set_option linter.unusedVariables false

theorem isParkingI (A1 : Option Addr) (xs : List Int) (c1 lo hi : Nat) (w : World) (hv : OwnI w lo hi (.slice A1 xs.length c1) xs) (hhi : hi ≤ w.heap.size) (hwf : ∀ y ∈ xs, (Lit.int .i64 y).wf = true) :
    Calls Try.prog 12 #[.slice A1 xs.length c1] w fun e w' => e = .returned (.bool (parkB xs)) ∧ Below w.heap.size w w' := by
  have HM := Lib.hid (placesOfI A1 xs c1 lo hi w hv hhi hwf)
  clear hv
  go_enter Try.func12, Try.ntmps12
  go_wp2_with fail
  (with_reducible refine HM.out.mono ?_)
  rintro e w' ⟨u, rfl, ho, hb⟩
  go_wp2
  go_ret
  exact ⟨rfl, hb⟩

set_option maxRecDepth 100000 in
set_option maxHeartbeats 3200000 in
theorem displacementOfI (A1 : Option Addr) (xs : List Int) (c1 lo hi : Nat) (w : World) (hv : OwnI w lo hi (.slice A1 xs.length c1) xs) (hhi : hi ≤ w.heap.size) (hwf : ∀ y ∈ xs, (Lit.int .i64 y).wf = true) :
    Calls Try.prog 23 #[.slice A1 xs.length c1] w fun e w' => e = .returned (.int .i64 (dspP xs)) ∧ Below w.heap.size w w' := by
  have HM := Lib.hid (placesOfI A1 xs c1 lo hi w hv hhi hwf)
  have HV := Lib.hid hv
  clear hv
  rcases hm : parkB xs with _ | _
  · have HP := Lib.hid (show dspP xs = -1 from if_neg (by simp [hm]))
    rw [hm] at HM
    clear hm
    go_enter Try.func23, Try.ntmps23
    go_wp2_with fail
    (with_reducible refine HM.out.mono ?_)
    rintro e w' ⟨u, rfl, ho, hb⟩
    go_wp2
    go_ret
    exact ⟨ret_int HP.out.symm, hb⟩
  · have HP := Lib.hid (show dspP xs = dsN xs xs.length from if_pos hm)
    have HPL := Lib.hid (plcP_yes hm)
    have HBD := Lib.hid (fun i hi => dsN_bd hm i hi)
    obtain ⟨h6, hco⟩ := park_yes hm
    have HCO := Lib.hid hco
    have hlen := pkL_len xs xs.length
    have HAT := Lib.hid (fun i hi => pkL_at xs xs.length i hi)
    rw [hm] at HM
    clear hm hco
    go_enter Try.func23, Try.ntmps23
    go_wp2_with fail
    (with_reducible refine HM.out.mono ?_)
    rintro e w1 ⟨u, rfl, ho, hb⟩
    rw [HPL.out] at ho
    have HB := Lib.hid hb
    have HV1 := Lib.hid (HV.out.keep hb hhi)
    obtain ⟨A2, c2, e2, -⟩ := id ho
    rw [hlen] at e2
    subst e2
    have HO := Lib.hid ho
    clear hb ho
    go_wp2
    go_loop [5, 17] (fun x y => ∃ k : Nat, k ≤ xs.length ∧ y = .int .i64 k ∧ x = .int .i64 (dsN xs k)) (fun _ y => xs.length - (intOf y).toNat)
    case atStart => exact ⟨0, Nat.zero_le _, rfl, rfl⟩
    case round =>
      obtain ⟨k, hk, rfl, rfl⟩ := hrel
      by_cases hlt : k < xs.length
      · obtain ⟨g1, p1, e1, -, -, hc1, -⟩ := HV1.out.cell hlt
        simp only [Value.slice.injEq] at e1
        obtain ⟨rfl, -, rfl⟩ := e1
        obtain ⟨g2, p2, e2, -, -, hc2, -⟩ := HO.out.cell (j := k) (by rw [hlen]; exact hlt)
        rw [hlen] at e2
        simp only [Value.slice.injEq] at e2
        obtain ⟨rfl, -, rfl⟩ := e2
        rw [HAT.out k hlt] at hc2
        have hki : (k : Int) < (xs.length : Int) := by omega
        have HSU := Lib.hid (show dsN xs (k + 1) = dsN xs k + (plN xs k : Int) - xs.getD k 0 from rfl)
        obtain ⟨d0, d1⟩ := HBD.out k hk
        obtain ⟨⟨y1, y2⟩, y3⟩ := HCO.out k hlt
        generalize plN xs k = P at *
        generalize xs.getD k 0 = y at *
        generalize dsN xs k = d at *
        have hw1 : IntKind.i64.wrap ((P : Int) - y) = (P : Int) - y := IntWalk.i64_in _ (by omega)
        go_wp2
        refine ⟨⟨k + 1, by omega, by simp, by rw [HSU.out]; congr 1; omega⟩, by simp [intOf]; omega⟩
      · obtain rfl : k = xs.length := by omega
        go_wp2
        go_ret
        exact ⟨ret_int HP.out.symm, HB.out⟩

set_option maxRecDepth 100000 in
set_option maxHeartbeats 3200000 in
theorem luckyOfI (A1 : Option Addr) (xs : List Int) (c1 lo hi : Nat) (w : World) (hv : OwnI w lo hi (.slice A1 xs.length c1) xs) (hhi : hi ≤ w.heap.size) (hwf : ∀ y ∈ xs, (Lit.int .i64 y).wf = true) :
    Calls Try.prog 27 #[.slice A1 xs.length c1] w fun e w' => e = .returned (.int .i64 (lckP xs)) ∧ Below w.heap.size w w' := by
  have HM := Lib.hid (placesOfI A1 xs c1 lo hi w hv hhi hwf)
  have HV := Lib.hid hv
  clear hv
  rcases hm : parkB xs with _ | _
  · have HP := Lib.hid (show lckP xs = -1 from if_neg (by simp [hm]))
    rw [hm] at HM
    clear hm
    go_enter Try.func27, Try.ntmps27
    go_wp2_with fail
    (with_reducible refine HM.out.mono ?_)
    rintro e w' ⟨u, rfl, ho, hb⟩
    go_wp2
    go_ret
    exact ⟨ret_int HP.out.symm, hb⟩
  · have HP := Lib.hid (show lckP xs = (lkN xs xs.length : Int) from if_pos hm)
    have HPL := Lib.hid (plcP_yes hm)
    obtain ⟨h6, hco⟩ := park_yes hm
    have hlen := pkL_len xs xs.length
    have HAT := Lib.hid (fun i hi => pkL_at xs xs.length i hi)
    rw [hm] at HM
    clear hm hco
    go_enter Try.func27, Try.ntmps27
    go_wp2_with fail
    (with_reducible refine HM.out.mono ?_)
    rintro e w1 ⟨u, rfl, ho, hb⟩
    rw [HPL.out] at ho
    have HB := Lib.hid hb
    have HV1 := Lib.hid (HV.out.keep hb hhi)
    obtain ⟨A2, c2, e2, -⟩ := id ho
    rw [hlen] at e2
    subst e2
    have HO := Lib.hid ho
    clear hb ho
    go_wp2
    go_loop [5, 17] (fun x y => ∃ k : Nat, k ≤ xs.length ∧ y = .int .i64 k ∧ x = .int .i64 (lkN xs k : Nat)) (fun _ y => xs.length - (intOf y).toNat)
    case atStart => exact ⟨0, Nat.zero_le _, rfl, rfl⟩
    case round =>
      obtain ⟨k, hk, rfl, rfl⟩ := hrel
      by_cases hlt : k < xs.length
      · obtain ⟨g1, p1, e1, -, -, hc1, -⟩ := HV1.out.cell hlt
        simp only [Value.slice.injEq] at e1
        obtain ⟨rfl, -, rfl⟩ := e1
        obtain ⟨g2, p2, e2, -, -, hc2, -⟩ := HO.out.cell (j := k) (by rw [hlen]; exact hlt)
        rw [hlen] at e2
        simp only [Value.slice.injEq] at e2
        obtain ⟨rfl, -, rfl⟩ := e2
        rw [HAT.out k hlt] at hc2
        have hki : (k : Int) < (xs.length : Int) := by omega
        have HSU := Lib.hid (show lkN xs (k + 1) = lkN xs k + if (plN xs k : Int) = xs.getD k 0 then 1 else 0 from rfl)
        have hle := lkN_le xs k
        generalize hPy : (plN xs k : Int) = P at *
        clear hPy
        generalize xs.getD k 0 = y at *
        generalize lkN xs k = d at *
        by_cases ey : P = y
        · have HE := Lib.hid (HSU.out.trans (by rw [if_pos ey]))
          have eyb : (P == y) = true := by simp [ey]
          clear ey
          go_wp2
          refine ⟨⟨k + 1, by omega, by simp, by rw [HE.out]; simp⟩, by simp [intOf]; omega⟩
        · have HE := Lib.hid (HSU.out.trans (by rw [if_neg ey]))
          have eyb : (P == y) = false := beq_eq_false_iff_ne.2 ey
          clear ey
          go_wp2
          refine ⟨⟨k + 1, by omega, by simp, by rw [HE.out]; simp⟩, by simp [intOf]; omega⟩
      · obtain rfl : k = xs.length := by omega
        go_wp2
        go_ret
        exact ⟨ret_int HP.out.symm, HB.out⟩

theorem ppI_snoc' (f : List Int) (p : Int) (i : Nat) (h : f.getD i 0 = p) : ppI f p (i + 1) = ppI f p i ++ [117] := by rw [ppI, if_pos h]
theorem ppI_same' (f : List Int) (p : Int) (i : Nat) (h : f.getD i 0 ≠ p) : ppI f p (i + 1) = ppI f p i := by rw [ppI, if_neg h, List.append_nil]

set_option maxRecDepth 100000 in
set_option maxHeartbeats 3200000 in
theorem pathOfParkingI (A1 : Option Addr) (xs : List Int) (c1 lo hi : Nat) (w : World) (hv : OwnI w lo hi (.slice A1 xs.length c1) xs) (hhi : hi ≤ w.heap.size) (hwf : ∀ y ∈ xs, (Lit.int .i64 y).wf = true) :
    Calls Try.prog 21 #[.slice A1 xs.length c1] w fun e w' => e = .returned (.tuple #[.string (ppP xs), .bool (parkB xs)]) ∧ Below w.heap.size w w' := by
  have HM := Lib.hid (isParkingI A1 xs c1 lo hi w hv hhi hwf)
  have HV := Lib.hid hv
  clear hv
  rcases hm : parkB xs with _ | _
  · have HP := Lib.hid (show ppP xs = ⟨#[]⟩ from if_neg (by simp [hm]))
    rw [hm] at HM
    clear hm
    go_enter Try.func21, Try.ntmps21
    go_wp2_with fail
    (with_reducible refine HM.out.mono ?_)
    rintro e w' ⟨rfl, hb⟩
    go_wp2
    go_ret2
    exact ⟨ret_sb HP.out.symm rfl, hb⟩
  · have HP := Lib.hid (show ppP xs = ⟨(ppL xs xs.length).toArray⟩ from if_pos hm)
    obtain ⟨h6, hco⟩ := park_yes hm
    rw [hm] at HM
    clear hm hco
    go_enter Try.func21, Try.ntmps21
    go_wp2_with fail
    (with_reducible refine HM.out.mono ?_)
    rintro e w1 ⟨rfl, hb⟩
    have HB := Lib.hid hb
    have zB := hb.size
    have HV1 := Lib.hid (HV.out.keep hb hhi)
    clear hb
    go_wp2
    go_loopw [5] (fun y wr => ∃ p : Nat, p ≤ xs.length ∧ y = .int .i64 ((p : Int) + 1) ∧ Lib.IsBuilderF 62 5 w1.heap.size w1.heap.size (Lib.byteCells (ppL xs p)) wr ∧ w1.heap.size ≤ wr.heap.size ∧ Below w1.heap.size w1 wr) (fun y _ => xs.length + 1 - (intOf y).toNat)
    case atStart => exact ⟨0, Nat.zero_le _, rfl, Lib.IsBuilderF.of (Lib.fresh_isBuilder 62 5 w1), by simp, (Below.refl _ _).alloc (Nat.le_refl _) _⟩
    case round =>
      obtain ⟨p, hp, rfl, hbd, hsz, hb1⟩ := hrel
      have HBD := Lib.hid hbd
      have HB1 := Lib.hid hb1
      clear hbd hb1
      have hpl := ppL_len xs p
      have hmul : p * (xs.length + 1) ≤ 42 := Nat.mul_le_mul (by omega : p ≤ 6) (by omega : xs.length + 1 ≤ 7)
      have hWb := Nat.le_trans hpl hmul
      clear hpl hmul
      by_cases hlt : p < xs.length
      · have hpi : (p : Int) + 1 ≤ (xs.length : Int) := by omega
        have HSU := Lib.hid (show ppL xs (p + 1) = ppL xs p ++ ppI xs ((p : Int) + 1) xs.length ++ [100] from rfl)
        have HIL := Lib.hid (fun i => ppI_len xs ((p : Int) + 1) i)
        have HS1 := Lib.hid (fun i h => ppI_snoc' xs ((p : Int) + 1) i h)
        have HS2 := Lib.hid (fun i h => ppI_same' xs ((p : Int) + 1) i h)
        generalize ppL xs p = W at *
        have hpp : ((p : Int) + 1).toNat = p + 1 := by omega
        obtain ⟨pp, hpe⟩ : ∃ pp, pp = (p : Int) + 1 := ⟨_, rfl⟩
        rw [← hpe] at HSU HIL HS1 HS2 hpi hpp
        rw [← hpe]
        have HPE := Lib.hid hpe
        have hpb : 0 ≤ pp ∧ pp ≤ 7 := by omega
        clear hpe
        go_wp2
        go_loopw [19] (fun y wr => ∃ i : Nat, i ≤ xs.length ∧ y = .int .i64 i ∧ Lib.IsBuilderF 62 5 w1.heap.size w1.heap.size (Lib.byteCells (W ++ ppI xs pp i)) wr ∧ w1.heap.size ≤ wr.heap.size ∧ Below w1.heap.size w1 wr) (fun y _ => xs.length - (intOf y).toNat)
        case atStart => exact ⟨0, Nat.zero_le _, rfl, by rw [show ppI xs pp 0 = [] from rfl, List.append_nil]; exact HBD.out, hsz, HB1.out⟩
        case round =>
          obtain ⟨i, hi1, rfl, hbd, hsz, hb1⟩ := hrel
          have HBD := Lib.hid hbd
          have HB1 := Lib.hid hb1
          clear hbd hb1
          have hil := HIL.out i
          by_cases hil2 : i < xs.length
          · obtain ⟨g1, p1, e1, -, -, hc1, -⟩ := (HV1.out.keep HB1.out (by omega)).cell hil2
            simp only [Value.slice.injEq] at e1
            obtain ⟨rfl, -, rfl⟩ := e1
            have hii : (i : Int) < (xs.length : Int) := by omega
            have HA := Lib.hid (HS1.out i)
            have HN := Lib.hid (HS2.out i)
            generalize xs.getD i 0 = y at *
            generalize ppI xs pp i = V at *
            by_cases ey : y = pp
            · have eyb : (y == pp) = true := by simp [ey]
              have HE := Lib.hid (HA.out ey)
              clear ey HA HN
              go_wp2_with fail
              refine (writeByte w1.heap.size w1.heap.size _ 117 _ HBD.out (by rw [Lib.byteCells_length, List.length_append]; omega) hsz).mono ?_
              rintro e w5 ⟨rfl, h1, b1, -⟩
              have z5 := b1.size
              go_wp2
              refine ⟨⟨i + 1, by omega, by simp, ?_, by omega, HB1.out.trans b1⟩, by simp [intOf]; omega⟩
              rw [HE.out, ← List.append_assoc, Lib.byteCells_append]
              exact Or.inr h1
            · have eyb : (y == pp) = false := beq_eq_false_iff_ne.2 ey
              have HE := Lib.hid (HN.out ey)
              clear ey HA HN
              go_wp2
              refine ⟨⟨i + 1, by omega, by simp, by rw [HE.out]; exact HBD.out, hsz, HB1.out⟩, by simp [intOf]; omega⟩
          · obtain rfl : i = xs.length := by omega
            go_wp2_with fail
            refine (writeByte w1.heap.size w1.heap.size _ 100 _ HBD.out (by rw [Lib.byteCells_length, List.length_append]; omega) hsz).mono ?_
            rintro e w5 ⟨rfl, h1, b1, -⟩
            have z5 := b1.size
            go_wp2
            refine ⟨⟨p + 1, by omega, by rw [HPE.out]; simp, ?_, by omega, HB1.out.trans b1⟩, by simp [intOf]; omega⟩
            rw [HSU.out, Lib.byteCells_append]
            exact Or.inr h1
      · obtain rfl : p = xs.length := by omega
        have hpi : ¬ (xs.length : Int) + 1 ≤ (xs.length : Int) := by omega
        go_wp2_with fail
        refine (Try.Builder_String_any_k w1.heap.size w1.heap.size (ppL xs xs.length) _ HBD.out hsz).mono ?_
        rintro e w5 ⟨rfl, -, b1, -⟩
        go_wp2
        go_ret2
        exact ⟨ret_sb HP.out.symm rfl, HB.out.trans ((HB1.out.trans b1).mono zB)⟩

end Go.Proofs.Ytidfbnfgmacjgaa
