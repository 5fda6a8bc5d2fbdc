/- The contracts of the program's FirstReturn, JoinAtReturn and AreaOf. -/
import Derived.Test.YtdnkddmnijckhaaGreatImpl2C
namespace Go.Proofs.YtdnkddmnijckhaaGreat
open Go.ChangeShapes Go.WideShapes Go.ChangeAt Go.RowKit
set_option linter.unusedVariables false

set_option maxRecDepth 100000 in
set_option maxHeartbeats 1600000 in
theorem areaOfI (s : ByteArray) (w : World) (hs : s.size ≤ 1099511627776) : Calls Tryz.prog 20 #[.string s] w fun e w' => e = .returned (.int .i64 (areaP s)) ∧ Below w.heap.size w w' := by
  rcases hd : dyck s with _ | _
  · have HP := Lib.hid (show areaP s = -1 from if_neg (by simp [hd]))
    have HD := Lib.hid hd
    clear hd
    go_enter Tryz.func20, Tryz.ntmps20
    go_wp2_with fail
    (with_reducible refine (isDyckI_no s _ HD.out).mono ?_)
    rintro e w' ⟨rfl, hb⟩
    go_wp2
    go_ret
    exact ⟨ret_int HP.out.symm, hb⟩
  · have HP := Lib.hid (show areaP s = aL s.data.toList (heightsP s) by unfold areaP; rw [if_pos hd, heightsP_yes hd])
    have h16 := dyck_size hd
    have hlen : (heightsP s).length = s.size + 1 := by rw [heightsP_yes hd, hsL_len]; simp
    have HBD := Lib.hid (heightsP_bd s)
    have HD := Lib.hid hd
    clear hd
    go_enter Tryz.func20, Tryz.ntmps20
    go_wp2_with fail
    (with_reducible refine (isDyckI_yes s _ HD.out).mono ?_)
    rintro e w1 ⟨rfl, hb⟩
    have HB1 := Lib.hid hb
    have z1 := hb.size
    clear hb
    go_wp2_with fail
    refine (heightsOfI s _).mono ?_
    rintro e w2 ⟨v, rfl, ho, hb⟩
    obtain ⟨A1, c1, rfl, k1⟩ := id ho
    clear k1
    have HO := Lib.hid ho
    have HB := Lib.hid (HB1.out.trans (hb.mono z1))
    clear ho hb
    generalize heightsP s = xs at *
    have hlen2 : (s.size : Int) < (xs.length : Int) := by omega
    have HLEN := Lib.hid hlen
    have z2 := HB.out.size
    clear hlen
    go_wp2
    go_loopw [4] (fun x wr => ∃ (i : Nat) (n : Int), i ≤ s.size ∧ x = .int .i64 n ∧ AtS wr w2.heap.size s i ∧ -(16 * i : Int) ≤ n ∧ n ≤ 16 * i ∧ n + aL (rest s i) (xs.drop i) = aL s.data.toList xs ∧ Below w2.heap.size w2 wr) (fun _ wr => s.size - wr.iterPos w2.heap.size)
    case atStart => exact ⟨0, 0, Nat.zero_le _, rfl, World.iter_heap w2 s 0, by omega, by omega, by rw [rest_zero]; simp, (Below.refl _ _).alloc (Nat.le_refl _) _⟩
    case round =>
      obtain ⟨i, n, hi, rfl, hit, n1, n2, ha, hb⟩ := hrel
      have HA := Lib.hid ha
      have HIT := Lib.hid hit
      have HB2 := Lib.hid hb
      clear ha hit hb
      by_cases hlt : i < s.size
      · have hl := dyck_letter HD.out i hlt
        obtain ⟨W, hW⟩ : ∃ W, W = wr.iterAt w2.heap.size s (i + 1) := ⟨_, rfl⟩
        have HIT1 := Lib.hid (show AtS W w2.heap.size s (i + 1) by rw [hW]; exact HIT.out.move)
        have HB3 := Lib.hid (show Below w2.heap.size w2 W by rw [hW]; exact Lib.below_iterAt HB2.out (Nat.le_refl _) _ _)
        have hix : i < xs.length := by omega
        have HR := Lib.hid (rest_cons s i hlt)
        have HDR := Lib.hid (drop_int xs i hix)
        obtain ⟨g1, p1, e1, -, -, hc1, -⟩ := (HO.out.keep HB3.out (Nat.le_refl _)).cell hix
        simp only [Value.slice.injEq] at e1
        obtain ⟨rfl, -, rfl⟩ := e1
        have hbd := HBD.out i hix
        have hil : (i : Int) < (xs.length : Int) := by omega
        generalize hz : xs.getD i 0 = z at hc1 hbd HDR
        clear hz
        rcases hl with e1 | e1
        · have hnx := next_letter (P := Tryz.prog) wr _ s i 117 HIT.out hlt e1 (by omega)
          rw [← hW] at hnx
          have HU := Lib.hid (aL_up s[i] (rest s (i + 1)) z (xs.drop (i + 1)) e1)
          clear e1 hW
          go_wp2
          go_roundw
          case rel => exact ⟨i + 1, n + z, by omega, rfl, HIT1.out, by omega, by omega, by rw [← HA.out, HR.out, HDR.out, HU.out]; omega, HB3.out⟩
          case measure => rw [HIT1.out.pos, HIT.out.pos]; omega
        · have hnx := next_letter (P := Tryz.prog) wr _ s i 100 HIT.out hlt e1 (by omega)
          rw [← hW] at hnx
          have HU := Lib.hid (aL_down s[i] (rest s (i + 1)) z (xs.drop (i + 1)) (by omega))
          clear e1 hW
          go_wp2
          go_roundw
          case rel => exact ⟨i + 1, n, by omega, rfl, HIT1.out, by omega, by omega, by rw [← HA.out, HR.out, HDR.out, HU.out], HB3.out⟩
          case measure => rw [HIT1.out.pos, HIT.out.pos]; omega
      · have hnx := fun ty => Lib.run_next_end_at (P := Tryz.prog) wr _ s i ty HIT.out hlt
        obtain rfl : i = s.size := by omega
        have HE := Lib.hid (rest_end s _ (Nat.le_refl _))
        go_wp2
        go_ret
        refine ⟨ret_int ?_, HB.out.trans (HB2.out.mono z2)⟩
        rw [HP.out, ← HA.out, HE.out, aL_nil]; omega

end Go.Proofs.YtdnkddmnijckhaaGreat
