/- The walk of the law of Avoiders, from the two functions' contracts. -/
import Derived.Test.YtamepojgpeblpaaTblKZ
import Derived.Test.YtamepojgpeblpaaAvT31
namespace Go.Proofs.Ytamepojgpeblpaa
open Go.ChangeShapes Go.WideShapes Go.ChangeAt Go.RowKit
set_option linter.unusedVariables false

set_option maxRecDepth 100000 in
set_option maxHeartbeats 3200000 in
theorem lawAvoiders (n0 : Int) (s0 : ByteArray) (ls : List (List Int)) (R1 : Bool) (w : World) (ms0 : s0.size ≤ 9223372036854775807) (hll : ls.length ≤ 1048576) (htt : tot ls ≤ 1048576) (hrr : ∀ j, (ls.getD j []).length ≤ 1099511627776)
    (hS : s0.size ≤ 1048576 → ∀ w, Calls Try.prog 38 #[.int .i64 n0, .string s0] w fun e w' => ∃ v, e = .returned (.tuple #[v, .bool R1]) ∧ OwnT w' w.heap.size w'.heap.size v ls ∧ Below w.heap.size w w')
    (hI : s0.size ≤ 1048576 → ∀ w, Calls Try.prog 39 #[.int .i64 n0, .string s0] w fun e w' => ∃ v vs, e = .returned (.tuple #[v, .bool R1]) ∧ Tb w' w.heap.size v vs ls ∧ Below w.heap.size w w') :
    Calls Try.prog 13 #[.int .i64 n0, .string s0] w fun e w' => e = .returned (.bool true) ∧ Below w.heap.size w w' := by
  by_cases hbig0 : 1048576 < s0.size
  · have hbi0 : (1048576 : Int) < (s0.size : Int) := by omega
    clear hS hI
    go_enter Try.func13, Try.ntmps13
    go_wp2
    go_ret
    exact ⟨rfl, Below.refl _ _⟩
  have hsm0 : s0.size ≤ 1048576 := by omega
  have HS := Lib.hid (hS hsm0)
  have HI := Lib.hid (hI hsm0)
  clear hS hI
  have HRR := Lib.hid hrr
  clear hrr
  have hq0 : ¬ ((1 : Int) + (tot ls : Int) < 0) := by omega
  have hr1 : (R1 != R1) = false := by simp
  have hq1 : (R1 == R1) = true := by simp
  have Hw0 := Lib.hid (Below.refl w.heap.size w)
  go_enter Try.func13, Try.ntmps13
  go_wp2_with fail
  (with_reducible refine (HS.out _).mono ?_)
  rintro e w1 ⟨v1, rfl, ho, hb⟩
  have z1 := hb.size
  obtain ⟨A1, c1, rfl, -⟩ := id ho
  have W0 := Lib.hid ho
  have Hw1 := Lib.hid (Hw0.out.trans (hb.mono Hw0.out.size))
  clear hb ho
  go_wp2_with fail
  (with_reducible refine (HI.out _).mono ?_)
  rintro e w2 ⟨v2, vs2, rfl, ho, hb⟩
  have z2 := hb.size
  obtain ⟨A2, c2, rfl⟩ := ho.form
  have G0 := Lib.hid (TbH.of ho)
  have W0_2 := Lib.hid (W0.out.keep hb (by omega))
  have Hw2 := Lib.hid (Hw1.out.trans (hb.mono Hw1.out.size))
  clear hb ho
  go_wp2_with fail
  (with_reducible refine (eqSS_same _ _ _ _ _ _ ls _ G0.out.toT W0_2.out (by omega) (by omega) (by omega) HRR.out).mono ?_)
  rintro e w3 ⟨rfl, hb⟩
  have z3 := hb.size
  have W0_3 := Lib.hid (W0_2.out.keep hb (by omega))
  have G0_3 := Lib.hid (G0.out.keep hb (by omega))
  have Hw3 := Lib.hid (Hw2.out.trans (hb.mono Hw2.out.size))
  clear hb
  go_wp2_with fail
  (with_reducible refine (markSS _ _ _ ls 1 _ G0_3.out.tb (by omega) (by omega) (by omega) (by omega) (by omega)).mono ?_)
  rintro e wm ⟨rfl, ho, hb⟩
  have zm := hb.size
  have G0_m := Lib.hid ho
  have W0_m := Lib.hid (W0_3.out.keep hb (by omega))
  have Hwm := Lib.hid (Hw3.out.trans (hb.mono (by omega)))
  clear hb ho
  have e1 : (1 : Int) + (tot ls : Int) = (1 : Int) + (tot ls : Int) := rfl
  go_wp2_with fail
  (with_reducible refine (heldSS _ _ _ ls 1 _ G0_m.out (by omega) (by omega) (by omega) (by omega) (by omega)).mono ?_)
  rintro e w5 ⟨rfl, hb⟩
  have z5 := hb.size
  have W0_5 := Lib.hid (W0_m.out.keep hb (by omega))
  have G0_5 := Lib.hid (G0_m.out.keep hb (by omega))
  have Hw5 := Lib.hid (Hwm.out.trans (hb.mono Hwm.out.size))
  clear hb
  go_wp2_with fail
  (with_reducible refine (HI.out _).mono ?_)
  rintro e w6 ⟨v6, vs6, rfl, ho, hb⟩
  have z6 := hb.size
  obtain ⟨A6, c6, rfl⟩ := ho.form
  have H0 := Lib.hid (OwnT.of ho)
  have W0_6 := Lib.hid (W0_5.out.keep hb (by omega))
  have G0_6 := Lib.hid (G0_5.out.keep hb (by omega))
  have Hw6 := Lib.hid (Hw5.out.trans (hb.mono Hw5.out.size))
  clear hb ho
  go_wp2_with fail
  (with_reducible refine (eqSS_same _ _ _ _ _ _ ls _ H0.out W0_6.out (by omega) (by omega) (by omega) HRR.out).mono ?_)
  rintro e w7 ⟨rfl, hb⟩
  have z7 := hb.size
  have G0_7 := Lib.hid (G0_6.out.keep hb (by omega))
  have Hw7 := Lib.hid (Hw6.out.trans (hb.mono Hw6.out.size))
  clear hb
  go_wp2_with fail
  (with_reducible refine (heldSS _ _ _ ls 1 _ G0_7.out (by omega) (by omega) (by omega) (by omega) (by omega)).mono ?_)
  rintro e w8 ⟨rfl, hb⟩
  have Hw8 := Lib.hid (Hw7.out.trans (hb.mono Hw7.out.size))
  clear hb
  go_wp2
  go_ret
  exact ⟨rfl, Hw8.out⟩

def avBd (ls : List (List Int)) : Bool := decide (ls.length ≤ 1048576) && decide (tot ls ≤ 1048576) && ls.all (fun l => decide (l.length ≤ 1048576))
set_option maxRecDepth 100000 in
theorem avBd_231 : ∀ n, n < 6 → avBd (avS (pmLs n) (conB r231) (pmLs n).length) = true := by decide +kernel
set_option maxRecDepth 100000 in
theorem avBd_321 : ∀ n, n < 6 → avBd (avS (pmLs n) (conB r321) (pmLs n).length) = true := by decide +kernel
theorem avBd_all (n : Int) (s : ByteArray) : avBd (avP n s) = true := by
  unfold avP
  split
  · split
    · exact avBd_231 _ (by omega)
    · split
      · exact avBd_321 _ (by omega)
      · rfl
  · rfl
theorem avP_bd (n : Int) (s : ByteArray) : (avP n s).length ≤ 1048576 ∧ tot (avP n s) ≤ 1048576 ∧ ∀ j, ((avP n s).getD j []).length ≤ 1099511627776 := by
  have h := avBd_all n s
  unfold avBd at h
  simp only [Bool.and_eq_true, decide_eq_true_eq, List.all_eq_true] at h
  refine ⟨h.1.1, h.1.2, fun j => ?_⟩
  rw [List.getD_eq_getElem?_getD]
  rcases hq : (avP n s)[j]? with _ | l
  · simp
  · have := h.2 l (List.mem_of_getElem? hq)
    simp only [Option.getD_some]
    omega

end Go.Proofs.Ytamepojgpeblpaa
