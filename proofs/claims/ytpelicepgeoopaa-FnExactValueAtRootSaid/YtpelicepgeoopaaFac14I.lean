/- isFactor alone (a part of Mul14I; never beside it). -/
import Derived.Test.YtpelicepgeoopaaMul14
namespace Go.Proofs.Ytpelicepgeoopaa
open Go.ChangeShapes Go.WideShapes Go.ChangeAt Go.RowKit
set_option linter.unusedVariables false

set_option maxRecDepth 100000 in
theorem isFactorI (A : Option Addr) (xs : List Int) (cap lo hi : Nat) (w : World) (ho : OwnI w lo hi (.slice A xs.length cap) xs) (hhi : hi ≤ w.heap.size) (hcap : xs.length ≤ cap) (hl : xs.length ≤ 1099511627776) :
    Calls Try.prog 41 #[.slice A xs.length cap] w fun e w' => e = .returned (.bool (facB xs)) ∧ Below w.heap.size w w' := by
  have HP := Lib.hid (isPolynomialI A xs cap lo hi w ho hhi hcap hl)
  have HW := Lib.hid (fun W (h : Below w.heap.size w W) => areWithin 100000 A xs cap lo hi W (by omega) (by omega) (ho.keep h hhi) (Nat.le_trans hhi h.size) hl)
  rcases hb : plyB xs with _ | _
  · have HF := Lib.hid (show facB xs = false by unfold facB; rw [hb]; simp)
    rw [hb] at HP
    clear hb ho
    go_enter Try.func41, Try.ntmps41
    go_wp2_with fail
    (with_reducible refine HP.out.mono ?_)
    rintro e w1 ⟨rfl, hb1⟩
    go_wp2
    go_ret
    exact ⟨ret_bool HF.out.symm, hb1⟩
  · have HF := Lib.hid (show facB xs = inB 100000 xs by unfold facB; rw [hb]; simp)
    rw [hb] at HP
    generalize inB 100000 xs = r at *
    clear hb ho
    go_enter Try.func41, Try.ntmps41
    go_wp2_with fail
    (with_reducible refine HP.out.mono ?_)
    rintro e w1 ⟨rfl, hb1⟩
    have HB1 := Lib.hid hb1
    clear hb1
    go_wp2_with fail
    (with_reducible refine (HW.out _ HB1.out).mono ?_)
    rintro e w2 ⟨rfl, hb2⟩
    have HB2 := Lib.hid (HB1.out.trans (hb2.mono HB1.out.size))
    clear hb2
    go_wp2
    go_ret
    exact ⟨ret_bool HF.out.symm, HB2.out⟩

end Go.Proofs.Ytpelicepgeoopaa
