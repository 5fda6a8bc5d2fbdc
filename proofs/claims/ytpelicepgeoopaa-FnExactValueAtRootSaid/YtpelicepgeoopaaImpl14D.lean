/- DividePolynomials, the program: isDivisor, slices.Clone, what is refused. -/
import Derived.Test.YtpelicepgeoopaaSpec14E
import Derived.Test.YtpelicepgeoopaaFac14I
import Derived.Lib.SliceRun
namespace Go.Proofs.Ytpelicepgeoopaa
open Go.ChangeShapes Go.WideShapes Go.ChangeAt Go.RowKit
set_option linter.unusedVariables false

set_option maxRecDepth 100000 in
set_option maxHeartbeats 1600000 in
theorem isDivisorI (A : Option Addr) (ys : List Int) (cap lo hi : Nat) (w : World) (hu : OwnI w lo hi (.slice A ys.length cap) ys) (hhi : hi ≤ w.heap.size) (hl : ys.length ≤ 1099511627776) :
    Calls Try.prog 42 #[.slice A ys.length cap] w fun e w' => e = .returned (.bool (disB ys)) ∧ Below w.heap.size w w' := by
  have HW := Lib.hid (areWithin 1 A ys cap lo hi w (by omega) (by omega) hu hhi hl)
  have HU := Lib.hid hu
  by_cases h1 : 1 ≤ ys.length
  case neg =>
    have HP := Lib.hid (show disB ys = false from dis_length (by omega))
    have d1 : decide ((1 : Int) ≤ (ys.length : Int)) = false := decide_eq_false (by omega)
    clear hu
    go_enter Try.func42, Try.ntmps42
    go_wp2
    go_ret
    exact ⟨ret_bool HP.out.symm, Below.refl _ _⟩
  have d1 : decide ((1 : Int) ≤ (ys.length : Int)) = true := decide_eq_true (by omega)
  by_cases h13 : ys.length ≤ 13
  case neg =>
    have HP := Lib.hid (show disB ys = false from dis_length (by omega))
    have d2 : decide ((ys.length : Int) ≤ 13) = false := decide_eq_false (by omega)
    clear hu
    go_enter Try.func42, Try.ntmps42
    go_wp2
    go_ret
    exact ⟨ret_bool HP.out.symm, Below.refl _ _⟩
  have d2 : decide ((ys.length : Int) ≤ 13) = true := decide_eq_true (by omega)
  rcases hin : inB 1 ys with _ | _
  · have HP := Lib.hid (show disB ys = false from dis_in hin)
    rw [hin] at HW
    clear hin hu
    go_enter Try.func42, Try.ntmps42
    go_wp2_with fail
    (with_reducible refine HW.out.mono ?_)
    rintro e w1 ⟨rfl, hb⟩
    go_wp2
    go_ret
    exact ⟨ret_bool HP.out.symm, hb⟩
  · obtain ⟨q, hq⟩ : ∃ q, q = ys.length - 1 := ⟨_, rfl⟩
    have HP := Lib.hid (show disB ys = decide (ys.getD q 0 = 1) by unfold disB; rw [hin, decide_eq_true (by omega), hq]; rfl)
    have hqi : (ys.length : Int) - 1 = (q : Int) := by omega
    have hqw : IntKind.i64.wrap (q : Int) = (q : Int) := IntWalk.i64_in _ (by omega)
    have hql : (q : Int) < (ys.length : Int) := by omega
    have hqn : q < ys.length := by omega
    obtain ⟨g1, p1, e1, -, -, hc1, -⟩ := hu.cell (j := q) hqn
    simp only [Value.slice.injEq] at e1
    obtain ⟨rfl, -, rfl⟩ := e1
    have hHI := Lib.hid hhi
    rw [hin] at HW
    clear hin hu hq hc1
    have HCC := Lib.hid (fun W (h : Below w.heap.size w W) => show W.cell? ⟨g1, q, none⟩ = some (.int .i64 (ys.getD q 0)) by
      obtain ⟨g2, p2, e2, -, -, hc2, -⟩ := (HU.out.keep h hHI.out).cell (j := q) hqn
      simp only [Value.slice.injEq, Option.some.injEq, Addr.mk.injEq] at e2
      obtain ⟨⟨rfl, -⟩, -⟩ := e2
      exact hc2)
    by_cases hla : ys.getD q 0 = 1
    · rw [decide_eq_true hla] at HP
      rw [hla] at HCC
      clear hla
      go_enter Try.func42, Try.ntmps42
      go_wp2_with fail
      (with_reducible refine HW.out.mono ?_)
      rintro e w1 ⟨rfl, hb⟩
      have hc1 := HCC.out _ hb
      go_wp2
      go_ret
      exact ⟨ret_bool HP.out.symm, hb⟩
    · rw [decide_eq_false hla] at HP
      have hne : (ys.getD q 0 == 1) = false := beq_eq_false_iff_ne.2 hla
      generalize ys.getD q 0 = c at *
      clear hla
      go_enter Try.func42, Try.ntmps42
      go_wp2_with fail
      (with_reducible refine HW.out.mono ?_)
      rintro e w1 ⟨rfl, hb⟩
      have hc1 := HCC.out _ hb
      go_wp2
      go_ret
      exact ⟨ret_bool HP.out.symm, hb⟩

set_option maxRecDepth 100000 in
set_option maxHeartbeats 1600000 in
theorem cloneI (ga : Nat) (xs : List Int) (cap lo hi : Nat) (w : World) (hv : OwnI w lo hi (.slice (some ⟨ga, 0, none⟩) xs.length cap) xs) (hhi : hi ≤ w.heap.size) (h0 : 0 < xs.length) (hl : xs.length ≤ 1099511627) :
    Calls Try.prog 43 #[.slice (some ⟨ga, 0, none⟩) xs.length cap] w fun e w' => ∃ g c, e = .returned (.slice (some ⟨g, 0, none⟩) xs.length c) ∧ xs.length ≤ c ∧ w.heap.size ≤ g ∧ g < w'.heap.size ∧ OwnI w' w.heap.size w'.heap.size (.slice (some ⟨g, 0, none⟩) xs.length c) xs ∧ Below w.heap.size w w' := by
  obtain ⟨ga', pa, ea, -, hga, -, -⟩ := hv.cell (j := 0) h0
  simp only [Value.slice.injEq, Option.some.injEq, Addr.mk.injEq] at ea
  obtain ⟨⟨rfl, -⟩, -, rfl⟩ := ea
  have HXC := Lib.hid (fun j (hj : j < xs.length) => show w.cell? ⟨ga, 0 + j, none⟩ = some (.int .i64 (xs.getD j 0)) by
    obtain ⟨g5, p5, e5, -, -, hc5, -⟩ := hv.cell (j := j) hj
    simp only [Value.slice.injEq, Option.some.injEq, Addr.mk.injEq] at e5
    obtain ⟨⟨rfl, -⟩, -⟩ := e5
    rw [Nat.zero_add]; exact hc5)
  have HROW0 := Lib.hid (World.ownsRow_made (base := w.heap.size) (e := 3) (size := 1) w #[] 0 (Nat.le_refl _) (Nat.zero_le _) (by simp))
  have hgaw : ga < w.heap.size := by omega
  have hnil := Lib.run_eql_slice_nil (P := Try.prog) w 22 3 (some ⟨ga, 0, none⟩) xs.length cap 0 0 Try.underlying22
  clear hv
  go_enter Try.func43, Try.ntmps43
  go_wp2_with (at_builtin; go_must (refine wpAppA rfl _ _ rfl w.heap.size _ 0 [] xs rfl HROW0.out ga 0 xs.length _ rfl rfl (fun j hj => (World.cell?_alloc_lt w _ ⟨ga, 0 + j, none⟩ hgaw).trans (HXC.out j hj)) (by omega) (by omega) (by simp) ?_); intro v3 w3 hown3 hg3)
  rw [List.nil_append, Nat.zero_add] at hown3
  have HO3 := OwnI.of_row hown3
  rcases hown3.2 with ⟨rfl, hz⟩ | ⟨g2, c2, cur2, rfl, hg2, hh2, hnc2, -⟩
  · omega
  have hg2w : g2 < w3.heap.size := (Array.getElem?_eq_some_iff.1 hh2).1
  have HB3 : Below w.heap.size w w3 := ((Below.refl _ w).alloc (Nat.le_refl _) _).grown hg3 (by simp) (fun k hk => (World.ownsRow.lt HROW0.out k hk).1)
  go_ret
  exact ⟨g2, c2, rfl, hnc2, hg2, hg2w, HO3, HB3⟩

end Go.Proofs.Ytpelicepgeoopaa
