/- The contracts of the program's FirstReturn, JoinAtReturn and AreaOf. -/
import Derived.Test.YtckpojjjodgonaaImpl2C
namespace Go.Proofs.Ytckpojjjodgonaa
open Go.ChangeShapes Go.WideShapes Go.ChangeAt Go.RowKit
set_option linter.unusedVariables false

set_option maxRecDepth 100000 in
set_option maxHeartbeats 800000 in
theorem firstReturnI (s : ByteArray) (w : World) (hs : s.size ≤ 1099511627776) : Calls Try.prog 25 #[.string s] w fun e w' => e = .returned (.tuple #[.string (firstA s), .string (firstB s), .bool (firstOk s)]) ∧ Below w.heap.size w w' := by
  by_cases hd : dyck s = true ∧ 0 < s.size
  · have HA := Lib.hid (show firstA s = s.extract 1 (cutP s).toNat from if_pos hd)
    have HB := Lib.hid (show firstB s = s.extract ((cutP s).toNat + 1) s.size from if_pos hd)
    have HO := Lib.hid (show firstOk s = true from decide_eq_true hd)
    obtain ⟨k, hk, k1, k2, -⟩ := cutP_in hd.1 hd.2
    have HK := Lib.hid hk
    have hp := primesF_yes s.size s hd
    obtain ⟨tl, htl⟩ : ∃ tl, tl = primesF s.size (s.extract ((cutP s).toNat + 1) s.size) := ⟨_, rfl⟩
    have HP := Lib.hid (show primesP s = s.extract 0 (k + 1) :: tl by unfold primesP; rw [hp, htl, hk]; rfl)
    have hsz : (s.extract 0 (k + 1)).size = k + 1 := by rw [ByteArray.size_extract]; omega
    generalize s.extract 0 (k + 1) = p at HP hsz
    have hpz : (p.size : Int) = (k : Int) + 1 := by omega
    clear hd hk hp htl hsz
    have hkw : IntKind.i64.wrap ((k : Int) + 1 - 1) = (k : Int) := by rw [show (k : Int) + 1 - 1 = k by omega]; exact IntWalk.i64_in _ (by omega)
    have hsl : ∀ w : World, (Instr.slice 9 (.string s) (some (.int .i64 1)) (some (.int .i64 (k : Int))) none).run Try.prog w = .ok (.string (s.extract 1 k)) w := fun w => by
      rw [run_slice_string w 9 s .i64 .i64 1 (k : Int) Try.underlying9 (by omega) (by omega) (by omega)]
      congr 2
    have hks : (k : Int) + 1 ≤ (s.size : Int) := by omega
    have hk0 : (0 : Int) ≤ (k : Int) + 1 := by omega
    have hkt : ((k : Int) + 1).toNat = k + 1 := by omega
    have h1k : (1 : Int) ≤ (k : Int) := by omega
    have hkz : (k : Int) ≤ (s.size : Int) := by omega
    go_enter Try.func25, Try.ntmps25
    go_wp2_with fail
    refine (primesOfI s _).mono ?_
    rintro e w2 ⟨v, rfl, ho, hb⟩
    rw [HP.out] at ho
    obtain ⟨g, cap, rfl, -, -, hc, -⟩ := ho.cell (j := 0) (by simp)
    have hHB := Lib.hid hb
    simp only [List.getD_cons_zero] at hc
    have hl : (p :: tl).length = tl.length + 1 := rfl
    rw [hl]
    have hne : (((tl.length + 1 : Nat) : Int) == 0) = false := beq_eq_false_iff_ne.2 (by omega)
    have hlt : (0 : Int) < ((tl.length + 1 : Nat) : Int) := by omega
    clear ho hb hl
    go_wp2
    go_quiet (fail)
    go_wp2
    go_ret3
    exact ⟨ret_ssb (by rw [HA.out, HK.out]; rfl) (by rw [HB.out, HK.out]; rfl) HO.out.symm, below_drewN hHB.out _⟩
  · have HA := Lib.hid (show firstA s = ⟨#[]⟩ from if_neg hd)
    have HB := Lib.hid (show firstB s = ⟨#[]⟩ from if_neg hd)
    have HO := Lib.hid (show firstOk s = false from decide_eq_false hd)
    have HP := Lib.hid (show primesP s = [] from primesF_no _ _ hd)
    clear hd
    go_enter Try.func25, Try.ntmps25
    go_wp2_with fail
    refine (primesOfI s _).mono ?_
    rintro e w2 ⟨v, rfl, ho, hb⟩
    rw [HP.out] at ho
    obtain ⟨A1, c1, rfl, -⟩ := ho
    go_wp2
    go_ret3
    exact ⟨ret_ssb HA.out.symm HB.out.symm HO.out.symm, hb⟩

set_option maxRecDepth 100000 in
set_option maxHeartbeats 800000 in
theorem joinAtReturnI (a b : ByteArray) (w : World) (ha : a.size ≤ 274877906944) (hb : b.size ≤ 274877906944) : Calls Try.prog 27 #[.string a, .string b] w fun e w' => e = .returned (.tuple #[.string (joinP a b), .bool (joinOk a b)]) ∧ Below w.heap.size w w' := by
  rcases hda : dyck a with _ | _
  · have HO := Lib.hid (show joinOk a b = false by unfold joinOk; rw [hda]; rfl)
    have HP := Lib.hid (show joinP a b = ⟨#[]⟩ by unfold joinP; rw [HO.out]; rfl)
    have HA := Lib.hid hda
    clear hda
    go_enter Try.func27, Try.ntmps27
    go_wp2_with fail
    (with_reducible refine (isDyckI_no a _ HA.out).mono ?_)
    rintro e w1 ⟨rfl, hb1⟩
    go_wp2
    go_ret2
    exact ⟨ret_sb HP.out.symm HO.out.symm, hb1⟩
  rcases hdb : dyck b with _ | _
  · have HO := Lib.hid (show joinOk a b = false by unfold joinOk; rw [hda, hdb]; rfl)
    have HP := Lib.hid (show joinP a b = ⟨#[]⟩ by unfold joinP; rw [HO.out]; rfl)
    have HA := Lib.hid hda
    have HB := Lib.hid hdb
    clear hda hdb
    go_enter Try.func27, Try.ntmps27
    go_wp2_with fail
    (with_reducible refine (isDyckI_yes a _ HA.out).mono ?_)
    rintro e w1 ⟨rfl, hb1⟩
    have z1 := hb1.size
    go_wp2_with fail
    (with_reducible refine (isDyckI_no b _ HB.out).mono ?_)
    rintro e w2 ⟨rfl, hb2⟩
    go_wp2
    go_ret2
    exact ⟨ret_sb HP.out.symm HO.out.symm, hb1.trans (hb2.mono z1)⟩
  have HA := Lib.hid hda
  have HB := Lib.hid hdb
  rcases hdj : dyck (joinW a b) with _ | _
  · have HO := Lib.hid (show joinOk a b = false by unfold joinOk; rw [hda, hdb, hdj]; rfl)
    have HP := Lib.hid (show joinP a b = ⟨#[]⟩ by unfold joinP; rw [HO.out]; rfl)
    have HJ := Lib.hid hdj
    clear hda hdb hdj
    go_enter Try.func27, Try.ntmps27
    go_wp2_with fail
    (with_reducible refine (isDyckI_yes a _ HA.out).mono ?_)
    rintro e w1 ⟨rfl, hb1⟩
    have z1 := hb1.size
    go_wp2_with fail
    (with_reducible refine (isDyckI_yes b _ HB.out).mono ?_)
    rintro e w2 ⟨rfl, hb2⟩
    have hb3 := hb1.trans (hb2.mono z1)
    have z2 := hb3.size
    go_wp2_with fail
    refine (isDyckI_no (joinW a b) _ HJ.out).mono ?_
    rintro e w3 ⟨rfl, hb4⟩
    go_wp2
    go_ret2
    exact ⟨ret_sb HP.out.symm HO.out.symm, hb3.trans (hb4.mono z2)⟩
  · have HO := Lib.hid (show joinOk a b = true by unfold joinOk; rw [hda, hdb, hdj]; rfl)
    have HP := Lib.hid (show joinP a b = joinW a b by unfold joinP; rw [HO.out]; rfl)
    have HJ := Lib.hid hdj
    clear hda hdb hdj
    go_enter Try.func27, Try.ntmps27
    go_wp2_with fail
    (with_reducible refine (isDyckI_yes a _ HA.out).mono ?_)
    rintro e w1 ⟨rfl, hb1⟩
    have z1 := hb1.size
    go_wp2_with fail
    (with_reducible refine (isDyckI_yes b _ HB.out).mono ?_)
    rintro e w2 ⟨rfl, hb2⟩
    have hb3 := hb1.trans (hb2.mono z1)
    have z2 := hb3.size
    go_wp2_with fail
    refine (isDyckI_yes (joinW a b) _ HJ.out).mono ?_
    rintro e w3 ⟨rfl, hb4⟩
    go_wp2
    go_ret2
    exact ⟨ret_sb HP.out.symm HO.out.symm, hb3.trans (hb4.mono z2)⟩

set_option maxRecDepth 100000 in
set_option maxHeartbeats 1600000 in
theorem areaOfI (s : ByteArray) (w : World) (hs : s.size ≤ 1099511627776) : Calls Try.prog 28 #[.string s] w fun e w' => e = .returned (.int .i64 (areaP s)) ∧ Below w.heap.size w w' := by
  rcases hd : dyck s with _ | _
  · have HP := Lib.hid (show areaP s = -1 from if_neg (by simp [hd]))
    have HD := Lib.hid hd
    clear hd
    go_enter Try.func28, Try.ntmps28
    go_wp2_with fail
    (with_reducible refine (isDyckI_no s _ HD.out).mono ?_)
    rintro e w' ⟨rfl, hb⟩
    go_wp2
    go_ret
    exact ⟨ret_int HP.out.symm, hb⟩
  · have HP := Lib.hid (show areaP s = aL s.data.toList (heightsP s) by unfold areaP; rw [if_pos hd, heightsP_yes hd])
    have h16 := dyck_size hd
    have hlen : (heightsP s).length = s.size + 1 := by rw [heightsP_yes hd, hsL_len]; simp
    have HBD := Lib.hid (heightsP_bd s)
    have HD := Lib.hid hd
    clear hd
    go_enter Try.func28, Try.ntmps28
    go_wp2_with fail
    (with_reducible refine (isDyckI_yes s _ HD.out).mono ?_)
    rintro e w1 ⟨rfl, hb⟩
    have HB1 := Lib.hid hb
    have z1 := hb.size
    clear hb
    go_wp2_with fail
    refine (heightsOfI s _).mono ?_
    rintro e w2 ⟨v, rfl, ho, hb⟩
    obtain ⟨A1, c1, rfl, k1⟩ := id ho
    clear k1
    have HO := Lib.hid ho
    have HB := Lib.hid (HB1.out.trans (hb.mono z1))
    clear ho hb
    generalize heightsP s = xs at *
    have hlen2 : (s.size : Int) < (xs.length : Int) := by omega
    have HLEN := Lib.hid hlen
    have z2 := HB.out.size
    clear hlen
    go_wp2
    go_loopw [4] (fun x wr => ∃ (i : Nat) (n : Int), i ≤ s.size ∧ x = .int .i64 n ∧ AtS wr w2.heap.size s i ∧ -(16 * i : Int) ≤ n ∧ n ≤ 16 * i ∧ n + aL (rest s i) (xs.drop i) = aL s.data.toList xs ∧ Below w2.heap.size w2 wr) (fun _ wr => s.size - wr.iterPos w2.heap.size)
    case atStart => exact ⟨0, 0, Nat.zero_le _, rfl, World.iter_heap w2 s 0, by omega, by omega, by rw [rest_zero]; simp, (Below.refl _ _).alloc (Nat.le_refl _) _⟩
    case round =>
      obtain ⟨i, n, hi, rfl, hit, n1, n2, ha, hb⟩ := hrel
      have HA := Lib.hid ha
      have HIT := Lib.hid hit
      have HB2 := Lib.hid hb
      clear ha hit hb
      by_cases hlt : i < s.size
      · have hl := dyck_letter HD.out i hlt
        obtain ⟨W, hW⟩ : ∃ W, W = wr.iterAt w2.heap.size s (i + 1) := ⟨_, rfl⟩
        have HIT1 := Lib.hid (show AtS W w2.heap.size s (i + 1) by rw [hW]; exact HIT.out.move)
        have HB3 := Lib.hid (show Below w2.heap.size w2 W by rw [hW]; exact Lib.below_iterAt HB2.out (Nat.le_refl _) _ _)
        have hix : i < xs.length := by omega
        have HR := Lib.hid (rest_cons s i hlt)
        have HDR := Lib.hid (drop_int xs i hix)
        obtain ⟨g1, p1, e1, -, -, hc1, -⟩ := (HO.out.keep HB3.out (Nat.le_refl _)).cell hix
        simp only [Value.slice.injEq] at e1
        obtain ⟨rfl, -, rfl⟩ := e1
        have hbd := HBD.out i hix
        have hil : (i : Int) < (xs.length : Int) := by omega
        generalize hz : xs.getD i 0 = z at hc1 hbd HDR
        clear hz
        rcases hl with e1 | e1
        · have hnx := next_letter (P := Try.prog) wr _ s i 117 HIT.out hlt e1 (by omega)
          rw [← hW] at hnx
          have HU := Lib.hid (aL_up s[i] (rest s (i + 1)) z (xs.drop (i + 1)) e1)
          clear e1 hW
          go_wp2
          go_roundw
          case rel => exact ⟨i + 1, n + z, by omega, rfl, HIT1.out, by omega, by omega, by rw [← HA.out, HR.out, HDR.out, HU.out]; omega, HB3.out⟩
          case measure => rw [HIT1.out.pos, HIT.out.pos]; omega
        · have hnx := next_letter (P := Try.prog) wr _ s i 100 HIT.out hlt e1 (by omega)
          rw [← hW] at hnx
          have HU := Lib.hid (aL_down s[i] (rest s (i + 1)) z (xs.drop (i + 1)) (by omega))
          clear e1 hW
          go_wp2
          go_roundw
          case rel => exact ⟨i + 1, n, by omega, rfl, HIT1.out, by omega, by omega, by rw [← HA.out, HR.out, HDR.out, HU.out], HB3.out⟩
          case measure => rw [HIT1.out.pos, HIT.out.pos]; omega
      · have hnx := fun ty => Lib.run_next_end_at (P := Try.prog) wr _ s i ty HIT.out hlt
        obtain rfl : i = s.size := by omega
        have HE := Lib.hid (rest_end s _ (Nat.le_refl _))
        go_wp2
        go_ret
        refine ⟨ret_int ?_, HB.out.trans (HB2.out.mono z2)⟩
        rw [HP.out, ← HA.out, HE.out, aL_nil]; omega

end Go.Proofs.Ytckpojjjodgonaa
