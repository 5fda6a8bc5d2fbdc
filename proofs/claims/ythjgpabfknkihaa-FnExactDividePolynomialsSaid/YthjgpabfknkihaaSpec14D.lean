/- DividePolynomials, the model (written by tools/mk14d.py). -/
import Derived.Test.YthjgpabfknkihaaDiv14
import Derived.Test.YthjgpabfknkihaaAppA
import Derived.Test.YthjgpabfknkihaaAdd14
import Derived.OwnWalk
namespace Go.Proofs.Ythjgpabfknkihaa
open Go.ChangeShapes Go.WideShapes Go.ChangeAt Go.RowKit
set_option linter.unusedVariables false

def AnsQ (X Y : List Int) (b : Bool) (w : World) (e : Ending) (w' : World) : Prop :=
  ∃ v u m, e = .returned (.tuple #[v, u, .bool b]) ∧ OwnI w' w.heap.size m v X ∧ OwnI w' m w'.heap.size u Y ∧ w.heap.size ≤ m ∧ m ≤ w'.heap.size ∧ Below w.heap.size w w'
theorem ans_no {xs ys : List Int} {w w' : World} {A B : Option Addr} {c d : Nat} (h : dvOk xs ys = false) (hb : Below w.heap.size w w') : AnsQ (dvX xs ys) (dvY xs ys) (dvOk xs ys) w (.returned (.tuple #[.slice A 0 c, .slice B 0 d, .bool false])) w' := by
  refine ⟨.slice A 0 c, .slice B 0 d, w.heap.size, by rw [h], ?_, ?_, Nat.le_refl _, hb.size, hb⟩
  · rw [show dvX xs ys = [] from if_neg (by rw [h]; simp)]; exact ⟨_, _, rfl, .inl rfl⟩
  · rw [show dvY xs ys = [] from if_neg (by rw [h]; simp)]; exact ⟨_, _, rfl, .inl rfl⟩
theorem two_alloc {w : World} (o o' : Obj) : Below w.heap.size w ((w.alloc o).alloc o') := ((Below.refl _ w).alloc (Nat.le_refl _) o).alloc (by simp) o'
theorem dis_length {b : List Int} (h : ¬ (1 ≤ b.length ∧ b.length ≤ 13)) : disB b = false := by unfold disB; rw [decide_eq_false h]; rfl
theorem dis_last {b : List Int} (h : b.getD (b.length - 1) 0 ≠ 1) : disB b = false := by unfold disB; rw [decide_eq_false h]; simp
theorem dis_in {b : List Int} (h : inB 1 b = false) : disB b = false := by unfold disB; rw [h]; simp
theorem dv_no1 {a b : List Int} (h : facB a = false) : dvOk a b = false := decide_eq_false fun g => by rw [g.1] at h; cases h
theorem dv_no2 {a b : List Int} (h : disB b = false) : dvOk a b = false := decide_eq_false fun g => by rw [g.2.1] at h; cases h

set_option maxRecDepth 100000 in
set_option maxHeartbeats 3200000 in
theorem dividePolynomials_no (A A' : Option Addr) (xs ys : List Int) (cap cap' lo hi lo' hi' : Nat) (w : World) (hv : OwnI w lo hi (.slice A xs.length cap) xs) (hu : OwnI w lo' hi' (.slice A' ys.length cap') ys) (hl : xs.length ≤ 1099511627776) (hl' : ys.length ≤ 1099511627776) (hno : facB xs = false ∨ disB ys = false) :
    Calls Try.prog 7 #[.slice A xs.length cap, .slice A' ys.length cap'] w (AnsQ (dvX xs ys) (dvY xs ys) (dvOk xs ys) w) := by
  have HM := Lib.hid (l14Small A xs cap lo hi w hv hl)
  have HPY := Lib.hid (isPolynomial A' ys cap' lo' hi' w hu hl')
  rcases hfa : facB xs with _ | _
  · have HO := Lib.hid (dv_no1 (b := ys) hfa)
    rw [hfa] at HM
    clear hfa hv hu hno
    go_enter Try.func7, Try.ntmps7
    go_wp2_with fail
    (with_reducible refine HM.out.mono ?_)
    rintro e w' ⟨rfl, rfl⟩
    go_wp2
    go_ret3
    exact ans_no HO.out (two_alloc _ _)
  have HD := Lib.hid (show disB ys = false from hno.resolve_left (by rw [hfa]; simp))
  have HO := Lib.hid (dv_no2 (a := xs) HD.out)
  rw [hfa] at HM
  clear hfa hv hno
  rcases hpb : plyB ys with _ | _
  · rw [hpb] at HPY
    clear hpb hu
    go_enter Try.func7, Try.ntmps7
    go_wp2_with fail
    (with_reducible refine HM.out.mono ?_)
    rintro e w' ⟨rfl, rfl⟩
    go_wp2_with fail
    (with_reducible refine HPY.out.mono ?_)
    rintro e w' ⟨rfl, rfl⟩
    go_wp2
    go_ret3
    exact ans_no HO.out (two_alloc _ _)
  rw [hpb] at HPY
  clear hpb
  by_cases h13 : (1 : Int) ≤ (ys.length : Int) ∧ (ys.length : Int) ≤ 13
  case neg =>
    have HI := Lib.hid (fun W => l1In_not (ys.length : Int) 1 13 W h13)
    clear hu h13
    go_enter Try.func7, Try.ntmps7
    go_wp2_with fail
    (with_reducible refine HM.out.mono ?_)
    rintro e w' ⟨rfl, rfl⟩
    go_wp2_with fail
    (with_reducible refine HPY.out.mono ?_)
    rintro e w' ⟨rfl, rfl⟩
    go_wp2_with fail
    (with_reducible refine (HI.out _).mono ?_)
    rintro e w' ⟨rfl, rfl⟩
    go_wp2
    go_ret3
    exact ans_no HO.out (two_alloc _ _)
  have HI := Lib.hid (fun W => l1In_yes (ys.length : Int) 1 13 W h13.1 h13.2)
  obtain ⟨q, hq⟩ : ∃ q, q = ys.length - 1 := ⟨_, rfl⟩
  have hqi : (ys.length : Int) - 1 = (q : Int) := by omega
  have hqw : IntKind.i64.wrap (q : Int) = (q : Int) := IntWalk.i64_in _ (by omega)
  have hql : (q : Int) < (ys.length : Int) := by omega
  have HU := Lib.hid hu
  obtain ⟨g1, p1, e1, -, -, hc1, -⟩ := hu.cell (j := q) (by omega)
  simp only [Value.slice.injEq] at e1
  obtain ⟨rfl, -, rfl⟩ := e1
  have HL := Lib.hid (fun (h : ys.getD q 0 = 1) => show ys.getD (ys.length - 1) 0 = 1 by rw [← hq]; exact h)
  clear hq hu
  by_cases hla : ys.getD q 0 = 1
  case neg =>
    have hne : (ys.getD q 0 == 1) = false := beq_eq_false_iff_ne.2 hla
    have hne2 : (ys.getD q 0 != 1) = true := by simp only [bne, hne]; rfl
    generalize ys.getD q 0 = c1 at *
    clear hla HL
    go_enter Try.func7, Try.ntmps7
    go_wp2_with fail
    (with_reducible refine HM.out.mono ?_)
    rintro e w' ⟨rfl, rfl⟩
    go_wp2_with fail
    (with_reducible refine HPY.out.mono ?_)
    rintro e w' ⟨rfl, rfl⟩
    go_wp2_with fail
    (with_reducible refine (HI.out _).mono ?_)
    rintro e w' ⟨rfl, rfl⟩
    go_wp2
    go_ret3
    exact ans_no HO.out (two_alloc _ _)
  have HLA := Lib.hid (HL.out hla)
  rw [hla] at hc1
  clear hla HL
  go_enter Try.func7, Try.ntmps7
  go_wp2_with fail
  (with_reducible refine HM.out.mono ?_)
  rintro e w' ⟨rfl, rfl⟩
  go_wp2_with fail
  (with_reducible refine HPY.out.mono ?_)
  rintro e w' ⟨rfl, rfl⟩
  go_wp2_with fail
  (with_reducible refine (HI.out _).mono ?_)
  rintro e w' ⟨rfl, rfl⟩
  go_wp2
  go_loopw [7] (fun y wr => ∃ i : Nat, i ≤ ys.length ∧ y = .int .i64 i ∧ w = wr ∧ ∀ j, j < i → -1 ≤ ys.getD j 0 ∧ ys.getD j 0 ≤ 1) (fun y _ => ys.length - (intOf y).toNat)
  case atStart => exact ⟨0, Nat.zero_le _, rfl, rfl, fun j h => absurd h (Nat.not_lt_zero _)⟩
  case round =>
    obtain ⟨i, hi, rfl, rfl, hle⟩ := hrel
    have HLE := Lib.hid hle
    clear hle hc1
    by_cases hlt : i < ys.length
    · obtain ⟨g2, p2', e2, -, -, hc1, -⟩ := HU.out.cell (j := i) hlt
      simp only [Value.slice.injEq, Option.some.injEq, Addr.mk.injEq] at e2
      obtain ⟨⟨rfl, -⟩, -⟩ := e2
      have hii : (i : Int) < (ys.length : Int) := by omega
      by_cases e : -1 ≤ ys.getD i 0 ∧ ys.getD i 0 ≤ 1
      · have HI2 := Lib.hid (fun W => l1In_yes (ys.getD i 0) (-1) 1 W e.1 e.2)
        have HSTEP := Lib.hid (show ∀ j, j < i + 1 → -1 ≤ ys.getD j 0 ∧ ys.getD j 0 ≤ 1 from fun j hj => by
          by_cases ej : j = i
          · subst ej; exact e
          · exact HLE.out j (by omega))
        clear e
        generalize ys.getD i 0 = x at *
        go_wp2_with fail
        (with_reducible refine (HI2.out _).mono ?_)
        rintro e w' ⟨rfl, rfl⟩
        go_wp2
        exact ⟨⟨i + 1, by omega, by simp, by first | rfl | trivial, HSTEP.out⟩, by simp [intOf]; omega⟩
      · have HI2 := Lib.hid (fun W => l1In_not (ys.getD i 0) (-1) 1 W e)
        clear e
        generalize ys.getD i 0 = x at *
        go_wp2_with fail
        (with_reducible refine (HI2.out _).mono ?_)
        rintro e w' ⟨rfl, rfl⟩
        go_wp2
        go_ret3
        exact ans_no HO.out (two_alloc _ _)
    · have HIN : inB 1 ys = true := (inB_iff _ _).2 fun j hj => HLE.out j (by omega)
      exfalso
      have h := HD.out
      unfold disB at h
      rw [HIN, HLA.out, decide_eq_true (by omega)] at h
      cases h

end Go.Proofs.Ythjgpabfknkihaa
