/- DividePolynomials, the program: a dividend that is nil. -/
import Derived.Test.YtpelicepgeoopaaImpl14E
namespace Go.Proofs.Ytpelicepgeoopaa
open Go.ChangeShapes Go.WideShapes Go.ChangeAt Go.RowKit
set_option linter.unusedVariables false

set_option maxRecDepth 100000 in
theorem cloneNone (n cap : Nat) (w : World) :
    Calls Try.prog 43 #[.slice none n cap] w fun e w' => e = .returned (.slice none 0 0) ∧ w = w' := by
  have hnil := Lib.run_eql_slice_nil (P := Try.prog) w 22 3 none n cap 0 0 Try.underlying22
  go_enter Try.func43, Try.ntmps43
  go_wp2
  go_ret
  exact ⟨rfl, rfl⟩
theorem dQ_nil {ys : List Int} (h : 1 ≤ ys.length) : dQ [] ys = 0 := by unfold dQ; simp only [List.length_nil]; omega
theorem dv_nil {ys : List Int} (hd : disB ys = true) : dvOk [] ys = true ∧ dvX [] ys = [] ∧ dvY [] ys = [] := by
  have hq := dQ_nil (dis_parts hd).1.1
  have ho : dvOk [] ys = true := decide_eq_true ⟨by decide, hd, fun i hi => by rw [hq] at hi; omega, (by rfl : plyB (trL (reL [] ys)) = true)⟩
  refine ⟨ho, ?_, ?_⟩
  · unfold dvX; rw [if_pos ho]; unfold quL; rw [hq]; rfl
  · unfold dvY; rw [if_pos ho]; rfl

set_option maxRecDepth 100000 in
set_option maxHeartbeats 3200000 in
theorem dividePolynomialsI_none (A' : Option Addr) (ys : List Int) (n cap cap' lo' hi' : Nat) (w : World) (hu : OwnI w lo' hi' (.slice A' ys.length cap') ys) (hhu : hi' ≤ w.heap.size) (hd : disB ys = true) (hn : n = 0) :
    Calls Try.prog 28 #[.slice none n cap, .slice A' ys.length cap'] w (AnsP (dvX [] ys) (dvY [] ys) (dvOk [] ys) w) := by
  obtain ⟨⟨d1, d13⟩, -, -⟩ := dis_parts hd
  have HV := Lib.hid (dv_nil hd)
  have HM := Lib.hid (isFactorI none [] cap 0 0 w ⟨_, _, rfl, .inl rfl⟩ (Nat.zero_le _) (Nat.zero_le _) (Nat.zero_le _))
  rw [show facB [] = true from by decide] at HM
  rw [show ([] : List Int).length = n from hn.symm] at HM
  have HD := Lib.hid (fun W (h : Below w.heap.size w W) => isDivisorI A' ys cap' lo' hi' W (hu.keep h hhu) (Nat.le_trans hhu h.size) (by omega))
  rw [hd] at HD
  have HCL := Lib.hid (fun W => cloneNone n cap W)
  have HT := Lib.hid (fun W => show Calls Try.prog 45 #[.slice none 0 0] W (fun e w' => e = .returned (.slice none 0 0) ∧ W = w') from trimmed none [] 0 W ⟨Nat.le_refl _, fun j hj => absurd hj (Nat.not_lt_zero _)⟩ (Nat.zero_le _))
  have HP := Lib.hid (fun W => show Calls Try.prog 46 #[.slice none 0 0] W (fun e w' => e = .returned (.bool true) ∧ Below W.heap.size W w') from by
    have h := isPolynomialI none [] 0 0 0 W ⟨_, _, rfl, .inl rfl⟩ (Nat.zero_le _) (Nat.zero_le _) (Nat.zero_le _)
    rw [show plyB [] = true from by decide] at h
    exact h)
  have HL0 := Lib.hid hn
  have hmx1 : max ((n : Int) - (ys.length : Int) + 1) (0 : Int) = 0 := by omega
  have hmx2 : (if (n : Int) - (ys.length : Int) + 1 < (0 : Int) then (0 : Int) else (n : Int) - (ys.length : Int) + 1) = 0 := by split <;> omega
  have hmx3 : (if (0 : Int) < (n : Int) - (ys.length : Int) + 1 then (n : Int) - (ys.length : Int) + 1 else 0) = 0 := by split <;> omega
  have hw1 : IntKind.i64.wrap ((n : Int) - (ys.length : Int)) = (n : Int) - (ys.length : Int) := IntWalk.i64_in _ (by omega)
  have hw2 : IntKind.i64.wrap ((n : Int) - (ys.length : Int) + 1) = (n : Int) - (ys.length : Int) + 1 := IntWalk.i64_in _ (by omega)
  obtain ⟨i0, hi0, hz0, hz1, hzb⟩ := info_parts info3
  clear hu hd hn
  go_enter Try.func28, Try.ntmps28
  go_wp2_with fail
  (with_reducible refine HM.out.mono ?_)
  rintro e w1 ⟨rfl, hb⟩
  have HB1 := Lib.hid hb
  clear hb
  go_wp2_with fail
  (with_reducible refine (HD.out _ ?h).mono ?_)
  case h => exact HB1.out
  rintro e w2 ⟨rfl, hb⟩
  have HB2 := Lib.hid (HB1.out.trans (hb.mono HB1.out.size))
  have hB2 := HB2.out.size
  clear hb
  go_wp2_with fail
  (with_reducible refine (HCL.out _).mono ?_)
  rintro e w3 ⟨rfl, rfl⟩
  go_wp2_with (at_make; go_must (refine wpList_make_full _ rfl _ _ 22 rfl w2.heap.size 3 i0 (.int .i64 0) 1 Try.underlying22 hi0 hz0 hz1 .i64 .i64 (0 : Int) (0 : Int) 0 rfl rfl rfl rfl (by rw [hzb]; omega) (by unfold maxLen; omega) (Nat.le_refl _) ?_); intro w4 hown4 hgrow4)
  have HB4 := Lib.hid (HB2.out.grown hgrow4 hB2 (fun k hk => nomatch hk))
  clear hown4 hgrow4
  refine wp_loop_rounds 1 ?_
  rw [rounds_succ]
  go_wp2_with fail
  (with_reducible refine (HT.out _).mono ?_)
  rintro e w' ⟨rfl, rfl⟩
  go_wp2_with fail
  (with_reducible refine (HP.out _).mono ?_)
  rintro e w6 ⟨rfl, hb6⟩
  have HB6 := Lib.hid (HB4.out.trans (hb6.mono HB4.out.size))
  clear hb6
  go_wp2
  go_ret3
  exact ⟨.slice (some ⟨w2.heap.size, 0, none⟩) 0 0, .slice none 0 0, w.heap.size, ret_q rfl rfl HV.out.1.symm, by rw [HV.out.2.1]; exact ⟨_, _, rfl, .inl rfl⟩, by rw [HV.out.2.2]; exact ⟨_, _, rfl, .inl rfl⟩, Nat.le_refl _, HB6.out.size, HB6.out⟩

end Go.Proofs.Ytpelicepgeoopaa
