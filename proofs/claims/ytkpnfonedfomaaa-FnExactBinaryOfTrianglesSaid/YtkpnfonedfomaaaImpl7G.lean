/- The program's IsTriangulation. -/
import Derived.Test.YtkpnfonedfomaaaImpl7F
namespace Go.Proofs.Ytkpnfonedfomaaa
open Go.ChangeShapes Go.WideShapes Go.ChangeAt Go.RowKit
set_option linter.unusedVariables false

set_option maxRecDepth 100000 in
set_option maxHeartbeats 1600000 in
theorem isTriI (n : Int) (v : Value) (ls : List (List Int)) (lo hi : Nat) (w : World) (hv : OwnT w lo hi v ls) (hh : hi ≤ w.heap.size) (hl : ls.length ≤ 1048576) :
    Calls Try.prog 12 #[.int .i64 n, v] w fun e w' => e = .returned (.bool (triB n ls)) ∧ Below w.heap.size w w' := by
  have HPO := Lib.hid (polygonOfI n v ls lo hi w hv hh hl)
  clear hv
  go_enter Try.func12, Try.ntmps12
  go_wp2_with fail
  (with_reducible refine HPO.out.mono ?_)
  rintro e w1 ⟨v1, rfl, hpi, hb1⟩
  have HB1 := Lib.hid hb1
  have HS := Lib.hid (Pg.start w1 0 0 (fun _ => 0) 45)
  have HBA := Lib.hid ((Below.refl w1.heap.size w1).alloc (Nat.le_refl _) (.cells (pgA 0 0 fun _ => 0) 45))
  clear hb1
  rcases hpi with ⟨ht, rfl⟩ | ⟨ht, rfl⟩
  · rw [ht]
    go_wp2_with (refine wpStPg rfl _ _ rfl w1.heap.size n ls.length (flF (csT ls)) 0 0 (fun _ => 0) HS.out rfl rfl ?_; intro w2 hP2 hO2; have HB2 := Lib.hid (HB1.out.trans ((HBA.out.trans (hO2.below _ (Nat.le_refl _))).mono HB1.out.size)); clear hP2 hO2)
    go_ret
    exact ⟨ret_bool ht.symm, HB2.out⟩
  · rw [ht]
    go_wp2_with (refine wpStPg rfl _ _ rfl w1.heap.size 0 0 (fun _ => 0) 0 0 (fun _ => 0) HS.out rfl rfl ?_; intro w2 hP2 hO2; have HB2 := Lib.hid (HB1.out.trans ((HBA.out.trans (hO2.below _ (Nat.le_refl _))).mono HB1.out.size)); clear hP2 hO2)
    go_ret
    exact ⟨ret_bool ht.symm, HB2.out⟩

end Go.Proofs.Ytkpnfonedfomaaa
