/- The program's IsNoncrossingMatching and PathOfMatching. -/
import Derived.Test.YtcckpodpgenapaaNonX
import Derived.Test.YtcckpodpgenapaaBld
import Derived.Test.YtcckpodpgenapaaShelfB
namespace Go.Proofs.Ytcckpodpgenapaa
open Go.ChangeShapes Go.WideShapes Go.ChangeAt Go.RowKit
set_option linter.unusedVariables false

set_option maxRecDepth 100000 in
set_option maxHeartbeats 1600000 in
theorem pathOfMatchingI (A1 : Option Addr) (xs : List Int) (c1 lo hi : Nat) (w : World) (hv : OwnI w lo hi (.slice A1 xs.length c1) xs) (hhi : hi ≤ w.heap.size) (hl : xs.length ≤ 1099511627776) :
    Calls Try.prog 52 #[.slice A1 xs.length c1] w fun e w' => e = .returned (.tuple #[.string (pomP xs), .bool (crossP xs == 0)]) ∧ Below w.heap.size w w' := by
  have HM := Lib.hid (noncrossingI A1 xs c1 lo hi w hv hhi hl)
  have HV := Lib.hid hv
  clear hv
  rcases hm : crossP xs == 0 with _ | _
  · have HP := Lib.hid (show pomP xs = ⟨#[]⟩ from if_neg (by simp [hm]))
    rw [hm] at HM
    clear hm
    go_enter Try.func52, Try.ntmps52
    go_wp2_with fail
    (with_reducible refine HM.out.mono ?_)
    rintro e w' ⟨rfl, hb⟩
    go_wp2
    go_ret2
    exact ⟨ret_sb HP.out.symm rfl, hb⟩
  · have HP := Lib.hid (show pomP xs = ⟨(pmL xs xs.length).toArray⟩ from if_pos hm)
    have h16 := cross_short hm
    rw [hm] at HM
    clear hm
    go_enter Try.func52, Try.ntmps52
    go_wp2_with fail
    (with_reducible refine HM.out.mono ?_)
    rintro e w1 ⟨rfl, hb⟩
    have HB := Lib.hid hb
    have zB := hb.size
    have HV1 := Lib.hid (HV.out.keep hb hhi)
    clear hb
    go_wp2
    go_loopw [12] (fun y wr => ∃ p : Nat, p ≤ xs.length ∧ y = .int .i64 (p : Int) ∧ Lib.IsBuilderF 62 5 w1.heap.size w1.heap.size (Lib.byteCells (pmL xs p)) wr ∧ w1.heap.size ≤ wr.heap.size ∧ Below w1.heap.size w1 wr) (fun y _ => xs.length - (intOf y).toNat)
    case atStart => exact ⟨0, Nat.zero_le _, rfl, Lib.IsBuilderF.of (Lib.fresh_isBuilder 62 5 w1), by simp, (Below.refl _ _).alloc (Nat.le_refl _) _⟩
    case round =>
      obtain ⟨p, hp, rfl, hbd, hsz, hb1⟩ := hrel
      have HBD := Lib.hid hbd
      have HB1 := Lib.hid hb1
      clear hbd hb1
      have hpl := pmL_len xs p
      by_cases hlt : p < xs.length
      · obtain ⟨g1, p1, e1, -, -, hc1, -⟩ := (HV1.out.keep HB1.out (by omega)).cell hlt
        simp only [Value.slice.injEq] at e1
        obtain ⟨rfl, -, rfl⟩ := e1
        have hpi : (p : Int) < (xs.length : Int) := by omega
        have HSU := Lib.hid (show pmL xs (p + 1) = pmL xs p ++ [if (p : Int) < xs.getD p 0 then 117 else 100] from rfl)
        generalize pmL xs p = W at *
        generalize xs.getD p 0 = y at *
        by_cases ey : (p : Int) < y
        · have HE := Lib.hid (HSU.out.trans (by rw [if_pos ey]))
          go_wp2_with fail
          refine (writeByte w1.heap.size w1.heap.size _ 117 _ HBD.out (by rw [Lib.byteCells_length]; omega) hsz).mono ?_
          rintro e w5 ⟨rfl, h1, b1, -⟩
          have z5 := b1.size
          go_wp2
          refine ⟨⟨p + 1, by omega, by simp, ?_, by omega, HB1.out.trans b1⟩, by simp [intOf]; omega⟩
          rw [HE.out, Lib.byteCells_append]
          exact Or.inr h1
        · have HE := Lib.hid (HSU.out.trans (by rw [if_neg ey]))
          go_wp2_with fail
          refine (writeByte w1.heap.size w1.heap.size _ 100 _ HBD.out (by rw [Lib.byteCells_length]; omega) hsz).mono ?_
          rintro e w5 ⟨rfl, h1, b1, -⟩
          have z5 := b1.size
          go_wp2
          refine ⟨⟨p + 1, by omega, by simp, ?_, by omega, HB1.out.trans b1⟩, by simp [intOf]; omega⟩
          rw [HE.out, Lib.byteCells_append]
          exact Or.inr h1
      · obtain rfl : p = xs.length := by omega
        go_wp2_with fail
        refine (Try.Builder_String_any_k w1.heap.size w1.heap.size (pmL xs xs.length) _ HBD.out hsz).mono ?_
        rintro e w5 ⟨rfl, -, b1, -⟩
        go_wp2
        go_ret2
        exact ⟨ret_sb HP.out.symm rfl, HB.out.trans ((HB1.out.trans b1).mono zB)⟩

end Go.Proofs.Ytcckpodpgenapaa
