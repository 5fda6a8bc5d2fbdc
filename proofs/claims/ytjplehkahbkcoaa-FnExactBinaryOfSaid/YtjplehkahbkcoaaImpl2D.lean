/- The contracts of the program's FirstReturn, JoinAtReturn and AreaOf. -/
import Derived.Test.YtjplehkahbkcoaaImpl2C
namespace Go.Proofs.Ytjplehkahbkcoaa
open Go.ChangeShapes Go.WideShapes Go.ChangeAt Go.RowKit
set_option linter.unusedVariables false

set_option maxRecDepth 100000 in
set_option maxHeartbeats 800000 in
theorem firstReturnI (s : ByteArray) (w : World) (hs : s.size ≤ 1099511627776) : Calls Try.prog 69 #[.string s] w fun e w' => e = .returned (.tuple #[.string (firstA s), .string (firstB s), .bool (firstOk s)]) ∧ Below w.heap.size w w' := by
  by_cases hd : dyck s = true ∧ 0 < s.size
  · have HA := Lib.hid (show firstA s = s.extract 1 (cutP s).toNat from if_pos hd)
    have HB := Lib.hid (show firstB s = s.extract ((cutP s).toNat + 1) s.size from if_pos hd)
    have HO := Lib.hid (show firstOk s = true from decide_eq_true hd)
    obtain ⟨k, hk, k1, k2, -⟩ := cutP_in hd.1 hd.2
    have HK := Lib.hid hk
    have hp := primesF_yes s.size s hd
    obtain ⟨tl, htl⟩ : ∃ tl, tl = primesF s.size (s.extract ((cutP s).toNat + 1) s.size) := ⟨_, rfl⟩
    have HP := Lib.hid (show primesP s = s.extract 0 (k + 1) :: tl by unfold primesP; rw [hp, htl, hk]; rfl)
    have hsz : (s.extract 0 (k + 1)).size = k + 1 := by rw [ByteArray.size_extract]; omega
    generalize s.extract 0 (k + 1) = p at HP hsz
    have hpz : (p.size : Int) = (k : Int) + 1 := by omega
    clear hd hk hp htl hsz
    have hkw : IntKind.i64.wrap ((k : Int) + 1 - 1) = (k : Int) := by rw [show (k : Int) + 1 - 1 = k by omega]; exact IntWalk.i64_in _ (by omega)
    have hsl : ∀ w : World, (Instr.slice 9 (.string s) (some (.int .i64 1)) (some (.int .i64 (k : Int))) none).run Try.prog w = .ok (.string (s.extract 1 k)) w := fun w => by
      rw [run_slice_string w 9 s .i64 .i64 1 (k : Int) Try.underlying9 (by omega) (by omega) (by omega)]
      congr 2
    have hks : (k : Int) + 1 ≤ (s.size : Int) := by omega
    have hk0 : (0 : Int) ≤ (k : Int) + 1 := by omega
    have hkt : ((k : Int) + 1).toNat = k + 1 := by omega
    have h1k : (1 : Int) ≤ (k : Int) := by omega
    have hkz : (k : Int) ≤ (s.size : Int) := by omega
    go_enter Try.func69, Try.ntmps69
    go_wp2_with fail
    refine (primesOfI s _).mono ?_
    rintro e w2 ⟨v, rfl, ho, hb⟩
    rw [HP.out] at ho
    obtain ⟨g, cap, rfl, -, -, hc, -⟩ := ho.cell (j := 0) (by simp)
    have hHB := Lib.hid hb
    simp only [List.getD_cons_zero] at hc
    have hl : (p :: tl).length = tl.length + 1 := rfl
    rw [hl]
    have hne : (((tl.length + 1 : Nat) : Int) == 0) = false := beq_eq_false_iff_ne.2 (by omega)
    have hlt : (0 : Int) < ((tl.length + 1 : Nat) : Int) := by omega
    clear ho hb hl
    go_wp2
    go_quiet (fail)
    go_wp2
    go_ret3
    exact ⟨ret_ssb (by rw [HA.out, HK.out]; rfl) (by rw [HB.out, HK.out]; rfl) HO.out.symm, below_drewN hHB.out _⟩
  · have HA := Lib.hid (show firstA s = ⟨#[]⟩ from if_neg hd)
    have HB := Lib.hid (show firstB s = ⟨#[]⟩ from if_neg hd)
    have HO := Lib.hid (show firstOk s = false from decide_eq_false hd)
    have HP := Lib.hid (show primesP s = [] from primesF_no _ _ hd)
    clear hd
    go_enter Try.func69, Try.ntmps69
    go_wp2_with fail
    refine (primesOfI s _).mono ?_
    rintro e w2 ⟨v, rfl, ho, hb⟩
    rw [HP.out] at ho
    obtain ⟨A1, c1, rfl, -⟩ := ho
    go_wp2
    go_ret3
    exact ⟨ret_ssb HA.out.symm HB.out.symm HO.out.symm, hb⟩

end Go.Proofs.Ytjplehkahbkcoaa
