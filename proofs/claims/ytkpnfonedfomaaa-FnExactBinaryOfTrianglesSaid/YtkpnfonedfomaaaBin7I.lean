/- The program's BinaryOfTriangles. -/
import Derived.Test.YtkpnfonedfomaaaTree7I
namespace Go.Proofs.Ytkpnfonedfomaaa
open Go.ChangeShapes Go.WideShapes Go.ChangeAt Go.RowKit
set_option linter.unusedVariables false

set_option maxRecDepth 100000 in
set_option maxHeartbeats 3200000 in
theorem binTriI (n : Int) (v : Value) (ls : List (List Int)) (lo hi : Nat) (w : World) (hv : OwnT w lo hi v ls) (hh : hi ≤ w.heap.size) (hl : ls.length ≤ 1048576) :
    Calls Try.prog 19 #[.int .i64 n, v] w fun e w' => e = .returned (.tuple #[.string (triT n ls), .bool (triB n ls)]) ∧ Below w.heap.size w w' := by
  have HPO := Lib.hid (polygonOfI n v ls lo hi w hv hh hl)
  clear hv
  go_enter Try.func19, Try.ntmps19
  go_wp2_with fail
  (with_reducible refine HPO.out.mono ?_)
  rintro e w1 ⟨v1, rfl, hpi, hb1⟩
  have HB1 := Lib.hid hb1
  have z1 := hb1.size
  have HS := Lib.hid (Pg.start w1 0 0 (fun _ => 0) 45)
  have HBA := Lib.hid ((Below.refl w1.heap.size w1).alloc (Nat.le_refl _) (.cells (pgA 0 0 fun _ => 0) 45))
  clear hb1
  rcases hpi with ⟨ht, rfl⟩ | ⟨ht, rfl⟩
  · rw [ht]
    obtain ⟨⟨hn1, hn2, hn3⟩, hl7, -⟩ := tri_bd ht
    have HT := Lib.hid ht
    have HE := Lib.hid (show triT n ls = baL (sh (trF (jnB n (csT ls)) 10 0 (n - 1))) from if_pos ht)
    have HTA := Lib.hid (fun W => treeAtI n (csT ls) (by rw [csT_len]; exact hl7) ⟨by omega, by omega⟩ 10 0 (n - 1) (Int.le_refl _) (by omega) (by omega) (by omega) W)
    rw [csT_len] at HTA
    have hnd := trF_nds (jnB n (csT ls)) 10 0 (n - 1) (by omega)
    clear hn3 ht
    generalize trF (jnB n (csT ls)) 10 0 (n - 1) = T at *
    have HF := Lib.hid (textF T (by omega))
    have na := nil_text T
    have ma := met_text T
    have ea := ent_text T
    generalize ty T = Ta at *
    generalize body T = Va at *
    generalize fText T = Fa at *
    go_wp2_with (first | (refine wpStPg rfl _ _ rfl w1.heap.size n ls.length (flF (csT ls)) 0 0 (fun _ => 0) HS.out rfl rfl ?_; intro w2 hP2 hO2; have HP2 := Lib.hid hP2; have HB2 := Lib.hid (HB1.out.trans ((HBA.out.trans (hO2.below _ (Nat.le_refl _))).mono z1)); clear hP2 hO2 HS HBA HB1) | (refine wpLdPg rfl _ rfl _ _ _ _ HP2.out rfl ?_))
    (with_reducible refine (HTA.out _).mono ?_)
    rintro e w3 ⟨rfl, hb3⟩
    have HB3 := Lib.hid (HB2.out.trans (hb3.mono HB2.out.size))
    clear hb3
    go_wp2_with fail
    (with_reducible refine (HF.out _).mono ?_)
    rintro e w4 ⟨rfl, hb4⟩
    have HB4 := Lib.hid (HB3.out.trans (hb4.mono HB3.out.size))
    clear hb4
    go_wp2
    go_ret2
    exact ⟨ret_sb HE.out.symm HT.out.symm, HB4.out⟩
  · have HE := Lib.hid (show triT n ls = ⟨#[]⟩ from if_neg (by rw [ht]; simp))
    have HT := Lib.hid ht
    rw [ht]
    clear ht
    go_wp2_with (refine wpStPg rfl _ _ rfl w1.heap.size 0 0 (fun _ => 0) 0 0 (fun _ => 0) HS.out rfl rfl ?_; intro w2 hP2 hO2; have HB2 := Lib.hid (HB1.out.trans ((HBA.out.trans (hO2.below _ (Nat.le_refl _))).mono z1)); clear hP2 hO2)
    go_ret2
    exact ⟨ret_sb HE.out.symm HT.out.symm, HB2.out⟩

end Go.Proofs.Ytkpnfonedfomaaa
