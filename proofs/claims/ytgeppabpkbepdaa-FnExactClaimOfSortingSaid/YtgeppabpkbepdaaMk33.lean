/- Claims of seven cells: marked, held. -/
import Derived.Test.YtgeppabpkbepdaaClm33
namespace Go.Proofs.Ytgeppabpkbepdaa
open Go.ChangeShapes Go.WideShapes Go.ChangeAt Go.RowKit
set_option linter.unusedVariables false

theorem Apart.wide33 {lo hi lo' hi' : Nat} {w w' : World} (h : Apart lo hi w w') (h1 : lo' ≤ lo) (h2 : hi ≤ hi') : Apart lo' hi' w w' := ⟨h.os, h.tape, h.output, h.size, fun k hk => h.block k (by omega)⟩
theorem Apart.trans33 {lo hi : Nat} {w w' w'' : World} (h : Apart lo hi w w') (h' : Apart lo hi w' w'') : Apart lo hi w w'' := ⟨h'.os.trans h.os, h'.tape.trans h.tape, h'.output.trans h.output, Nat.le_trans h.size h'.size, fun k hk => (h'.block k hk).trans (h.block k hk)⟩

set_option maxRecDepth 100000 in
set_option maxHeartbeats 1600000 in
theorem markClaim (k : Int) (f : ByteArray) (u v : Value) (xs ys : List Int) (l1 h1 l2 h2 lo hi : Nat) (w : World) (o1 : OwnI w l1 h1 u xs) (o2 : OwnI w l2 h2 v ys) (hd : h1 ≤ l2 ∨ h2 ≤ l1)
    (m1 : lo ≤ l1) (m2 : lo ≤ l2) (m3 : h1 ≤ hi) (m4 : h2 ≤ hi) (m5 : hi ≤ w.heap.size) (hx : xs.length ≤ 1048576) (hy : ys.length ≤ 1048576) :
    Calls Try.prog 18 #[clV k f u v, .int .i64 1] w fun e w' => e = .returned (.int .i64 (1 + (xs.length : Int) + (ys.length : Int))) ∧ OwnI w' l1 h1 u (marks 1 xs.length) ∧ OwnI w' l2 h2 v (marks (1 + (xs.length : Int)) ys.length) ∧ ∃ w0, Below w.heap.size w w0 ∧ Apart lo hi w0 w' := by
  have HA := Lib.hid (Cl.start w k f u v)
  have HG := Lib.hid (show Below w.heap.size w (w.alloc (clO k f u v)) from (Below.refl _ w).alloc (Nat.le_refl _) _)
  have O1 := Lib.hid (o1.keep HG.out (by omega))
  have O2 := Lib.hid (o2.keep HG.out (by omega))
  have s1 : (w.alloc (clO k f u v)).heap.size = w.heap.size + 1 := by simp
  obtain ⟨a0, a1, a2, a3, a4, a5, a6, al⟩ := HA.out
  clear o1 o2 al
  go_enter Try.func18, Try.ntmps18
  go_wp2_with fail
  (with_reducible refine (markStr0 _ _).mono ?_)
  rintro e w1 ⟨rfl, hw⟩
  subst hw
  go_wp2_with fail
  (with_reducible refine (markO _ _ _ xs 1 _ O1.out (by omega) (by omega) (by omega)).mono ?_)
  rintro e w2 ⟨rfl, ho, hb⟩
  have M1 := Lib.hid ho
  have HA2 := Lib.hid (HA.out.apart hb (by omega))
  have O2_2 := Lib.hid (O2.out.apart hb (by omega))
  have HP := Lib.hid (hb.wide33 m1 m3)
  clear a0 a1 a2 a3 a4 a5 a6 hb ho
  obtain ⟨a0, a1, a2, a3, a4, a5, a6, al⟩ := HA2.out
  clear al
  go_wp2_with fail
  (with_reducible refine (markO _ _ _ ys _ _ O2_2.out (by omega) (by omega) (by omega)).mono ?_)
  rintro e w3 ⟨rfl, ho, hb⟩
  have M2 := Lib.hid ho
  have M1_3 := Lib.hid (M1.out.apart hb (by omega))
  have HA3 := Lib.hid (HA2.out.apart hb (by omega))
  have HP3 := Lib.hid (HP.out.trans33 (hb.wide33 m2 m4))
  clear a0 a1 a2 a3 a4 a5 a6 hb ho
  obtain ⟨a0, a1, a2, a3, a4, a5, a6, al⟩ := HA3.out
  clear al
  go_wp2_with fail
  (with_reducible refine (markTab0 _ _).mono ?_)
  rintro e w4 ⟨rfl, hw⟩
  subst hw
  go_wp2
  go_ret
  exact ⟨rfl, M1_3.out, M2.out, _, HG.out, HP3.out⟩

set_option maxRecDepth 100000 in
set_option maxHeartbeats 1600000 in
theorem heldClaim (k : Int) (f : ByteArray) (u v : Value) (n m : Nat) (l1 h1 l2 h2 : Nat) (w : World) (o1 : OwnI w l1 h1 u (marks 1 n)) (o2 : OwnI w l2 h2 v (marks (1 + (n : Int)) m))
    (m3 : h1 ≤ w.heap.size) (m4 : h2 ≤ w.heap.size) (hx : n ≤ 1048576) (hy : m ≤ 1048576) :
    Calls Try.prog 19 #[clV k f u v, .int .i64 1] w fun e w' => e = .returned (.int .i64 (1 + (n : Int) + (m : Int))) ∧ Below w.heap.size w w' := by
  have hn1 : ¬ 1 + (n : Int) < 0 := by omega
  have hn2 : ¬ 1 + (n : Int) + (m : Int) < 0 := by omega
  have HA := Lib.hid (Cl.start w k f u v)
  have HG := Lib.hid (show Below w.heap.size w (w.alloc (clO k f u v)) from (Below.refl _ w).alloc (Nat.le_refl _) _)
  have O1 := Lib.hid (o1.keep HG.out (by omega))
  have O2 := Lib.hid (o2.keep HG.out (by omega))
  obtain ⟨a0, a1, a2, a3, a4, a5, a6, al⟩ := HA.out
  clear o1 o2 al
  go_enter Try.func19, Try.ntmps19
  go_wp2_with fail
  (with_reducible refine (heldStr0 _ _).mono ?_)
  rintro e w1 ⟨rfl, hw⟩
  subst hw
  go_wp2_with fail
  (with_reducible refine (heldI _ _ _ n 1 _ O1.out (by omega) (by omega) (by omega)).mono ?_)
  rintro e w2 ⟨rfl, hw⟩
  subst hw
  go_wp2_with fail
  (with_reducible refine (heldI _ _ _ m _ _ O2.out (by omega) (by omega) (by omega)).mono ?_)
  rintro e w3 ⟨rfl, hw⟩
  subst hw
  go_wp2_with fail
  (with_reducible refine (heldTab0 _ _).mono ?_)
  rintro e w4 ⟨rfl, hw⟩
  subst hw
  go_wp2
  go_ret
  exact ⟨rfl, HG.out⟩

end Go.Proofs.Ytgeppabpkbepdaa
