/- The walk of ClaimOfSorting's exact law, from the two functions' contracts (written by tools/genlaw33.py). -/
import Derived.Test.YtgeppabpkbepdaaMk33
import Derived.Test.YtgeppabpkbepdaaSort33
import Derived.Test.YtgeppabpkbepdaaSpec2G
namespace Go.Proofs.Ytgeppabpkbepdaa
open Go.ChangeShapes Go.WideShapes Go.ChangeAt Go.RowKit
set_option linter.unusedVariables false

theorem boxed33 (w : World) (k : Int) (s : ByteArray) (u v : Value) : Cl (w.alloc (.cells #[.int .i64 k, .string s, .string ⟨#[]⟩, .slice none 0 0, u, v, .slice none 0 0] 31)) w.heap.size k s u v ∧ Below w.heap.size w (w.alloc (.cells #[.int .i64 k, .string s, .string ⟨#[]⟩, .slice none 0 0, u, v, .slice none 0 0] 31)) ∧ (w.alloc (.cells #[.int .i64 k, .string s, .string ⟨#[]⟩, .slice none 0 0, u, v, .slice none 0 0] 31)).heap.size = w.heap.size + 1 :=
  ⟨Cl.start w k s u v, (Below.refl _ w).alloc (Nat.le_refl _) _, by simp⟩

set_option maxRecDepth 100000 in
set_option maxHeartbeats 6400000 in
theorem lawClaimOfSorting (v0 : Value) (xs0 : List Int) (k : Int) (s : ByteArray) (xs ys : List Int) (R : Bool) (w : World) (hv0 : ArgI w v0 xs0) (mp0 : xs0.length ≤ 9223372036854775807) (hxl : xs.length ≤ 1048576) (hyl : ys.length ≤ 1048576)
    (hS : xs0.length ≤ 1048576 → ∀ u0 lo0 hi0, ∀ w, OwnI w lo0 hi0 (.slice u0 xs0.length xs0.length) xs0 → hi0 ≤ w.heap.size → Calls Try.prog 13 #[(.slice u0 xs0.length xs0.length)] w (AnsCl k s xs ys R w))
    (hI : xs0.length ≤ 1048576 → ∀ u0 lo0 hi0, ∀ w, OwnI w lo0 hi0 (.slice u0 xs0.length xs0.length) xs0 → hi0 ≤ w.heap.size → Calls Try.prog 15 #[(.slice u0 xs0.length xs0.length)] w (AnsCl k s xs ys R w)) :
    Calls Try.prog 5 #[v0] w fun e w' => e = .returned (.bool true) ∧ Below w.heap.size w w' := by
  obtain ⟨Aa0, ca0, rfl, -⟩ := id hv0
  by_cases hbig0 : 1048576 < xs0.length
  · have hbi0 : (1048576 : Int) < (xs0.length : Int) := by omega
    clear hS hI hv0
    go_enter Try.func5, Try.ntmps5
    go_wp2
    go_ret
    exact ⟨rfl, Below.refl _ _⟩
  have hsm0 : xs0.length ≤ 1048576 := by omega
  have HS := Lib.hid (hS hsm0)
  have HI := Lib.hid (hI hsm0)
  have HV0 := Lib.hid hv0
  clear hS hI hv0
  have hr1 : (R != R) = false := by simp
  have hq1 : (R == R) = true := by simp
  have hn0 : ¬ 1 + (xs0.length : Int) < 0 := by omega
  have hn1 : ¬ 1 + (xs.length : Int) + (ys.length : Int) < 0 := by omega
  have hn2 : (1 + (xs.length : Int) + (ys.length : Int) != 1 + (xs.length : Int) + (ys.length : Int)) = false := by simp
  have hn3 : (1 + (xs.length : Int) + (ys.length : Int) == 1 + (xs.length : Int) + (ys.length : Int)) = true := by simp
  have Hw0 := Lib.hid (Below.refl w.heap.size w)
  go_enter Try.func5, Try.ntmps5
  go_wp2_with fail
  (with_reducible refine (toIntC _ xs0 _ (HV0.out.keep Hw0.out) hsm0).mono ?_)
  rintro e w1 ⟨A1, rfl, ho, hb⟩
  have z1 := hb.size
  have Hw1 := Lib.hid (Hw0.out.trans (hb.mono Hw0.out.size))
  clear hb
  have T := Lib.hid ho
  clear ho
  go_wp2_with fail
  (with_reducible refine (HS.out _ _ _ _ T.out (by omega)).mono ?_)
  rintro e w2 ⟨xu2, xv2, l2, h2, p2, q2, rfl, oN, oO, d2, e21, e22, e23, e24, hb⟩
  have z2 := hb.size
  have T_2 := Lib.hid (T.out.keep hb (by omega))
  have Hw2 := Lib.hid (Hw1.out.trans (hb.mono Hw1.out.size))
  clear hb
  obtain ⟨u2, cu2, rfl, -⟩ := id oN
  obtain ⟨v2, cv2, rfl, -⟩ := id oO
  have W1 := Lib.hid oN
  have W2 := Lib.hid oO
  clear oN oO
  obtain ⟨BC, BB, BZ⟩ := boxed33 w2 k s (.slice u2 xs.length cu2) (.slice v2 ys.length cv2)
  have HBC := Lib.hid BC
  have HBB := Lib.hid BB
  clear BC BB
  go_wp2_with fail
  have BC := HBC.out
  have hb := HBB.out
  clear HBC HBB
  generalize (w2.alloc (.cells #[.int .i64 k, .string s, .string ⟨#[]⟩, .slice none 0 0, (.slice u2 xs.length cu2), (.slice v2 ys.length cv2), .slice none 0 0] 31)) = w3 at BC hb BZ ⊢
  have z3 := hb.size
  have W1_3 := Lib.hid (W1.out.keep hb (by omega))
  have W2_3 := Lib.hid (W2.out.keep hb (by omega))
  have M := Lib.hid BC
  have Hw3 := Lib.hid (Hw2.out.trans (hb.mono Hw2.out.size))
  clear hb BC
  (with_reducible refine (toIntC _ xs0 _ (HV0.out.keep Hw3.out) hsm0).mono ?_)
  rintro e w4 ⟨A4, rfl, ho, hb⟩
  have z4 := hb.size
  have W1_4 := Lib.hid (W1_3.out.keep hb (by omega))
  have W2_4 := Lib.hid (W2_3.out.keep hb (by omega))
  have M_4 := Lib.hid (M.out.keep hb (by omega))
  have Hw4 := Lib.hid (Hw3.out.trans (hb.mono Hw3.out.size))
  clear hb
  have X := Lib.hid ho
  clear ho
  go_wp2_with fail
  (with_reducible refine (HI.out _ _ _ _ X.out (by omega)).mono ?_)
  rintro e w5 ⟨xu5, xv5, l5, h5, p5, q5, rfl, oN, oO, d5, e51, e52, e53, e54, hb⟩
  have z5 := hb.size
  have W1_5 := Lib.hid (W1_4.out.keep hb (by omega))
  have W2_5 := Lib.hid (W2_4.out.keep hb (by omega))
  have M_5 := Lib.hid (M_4.out.keep hb (by omega))
  have X_5 := Lib.hid (X.out.keep hb (by omega))
  have Hw5 := Lib.hid (Hw4.out.trans (hb.mono Hw4.out.size))
  clear hb
  obtain ⟨u5, cu5, rfl, -⟩ := id oN
  obtain ⟨v5, cv5, rfl, -⟩ := id oO
  have G1 := Lib.hid oN
  have G2 := Lib.hid oO
  clear oN oO
  obtain ⟨BC, BB, BZ⟩ := boxed33 w5 k s (.slice u5 xs.length cu5) (.slice v5 ys.length cv5)
  have HBC := Lib.hid BC
  have HBB := Lib.hid BB
  clear BC BB
  obtain ⟨c0, c1, c2, c3, c4, c5, c6, -⟩ := HBC.out
  obtain ⟨m0, m1, m2, m3, m4, m5, m6, -⟩ := (M_5.out.keep HBB.out (by omega))
  go_wp2_with fail
  clear  c0 c1 c2 c3 c4 c5 c6 m0 m1 m2 m3 m4 m5 m6
  have BC := HBC.out
  have hb := HBB.out
  clear HBC HBB
  generalize (w5.alloc (.cells #[.int .i64 k, .string s, .string ⟨#[]⟩, .slice none 0 0, (.slice u5 xs.length cu5), (.slice v5 ys.length cv5), .slice none 0 0] 31)) = w6 at BC hb BZ ⊢
  have z6 := hb.size
  have W1_6 := Lib.hid (W1_5.out.keep hb (by omega))
  have W2_6 := Lib.hid (W2_5.out.keep hb (by omega))
  have M_6 := Lib.hid (M_5.out.keep hb (by omega))
  have X_6 := Lib.hid (X_5.out.keep hb (by omega))
  have G1_6 := Lib.hid (G1.out.keep hb (by omega))
  have G2_6 := Lib.hid (G2.out.keep hb (by omega))
  have N := Lib.hid BC
  have Hw6 := Lib.hid (Hw5.out.trans (hb.mono Hw5.out.size))
  clear hb BC
  (with_reducible refine (eqClaim_same k s (.slice u5 xs.length cu5) (.slice v5 ys.length cv5) (.slice u2 xs.length cu2) (.slice v2 ys.length cv2) xs ys _ _ _ _ _ _ _ _ _ G1_6.out G2_6.out W1_6.out W2_6.out (by omega) (by omega) (by omega) (by omega) hxl hyl).mono ?_)
  rintro e w7 ⟨rfl, hb⟩
  have z7 := hb.size
  have W1_7 := Lib.hid (W1_6.out.keep hb (by omega))
  have W2_7 := Lib.hid (W2_6.out.keep hb (by omega))
  have M_7 := Lib.hid (M_6.out.keep hb (by omega))
  have X_7 := Lib.hid (X_6.out.keep hb (by omega))
  have G1_7 := Lib.hid (G1_6.out.keep hb (by omega))
  have G2_7 := Lib.hid (G2_6.out.keep hb (by omega))
  have N_7 := Lib.hid (N.out.keep hb (by omega))
  have Hw7 := Lib.hid (Hw6.out.trans (hb.mono Hw6.out.size))
  clear hb
  go_wp2_with fail
  (with_reducible refine (toIntC _ xs0 _ (HV0.out.keep Hw7.out) hsm0).mono ?_)
  rintro e w8 ⟨A8, rfl, ho, hb⟩
  have z8 := hb.size
  have W1_8 := Lib.hid (W1_7.out.keep hb (by omega))
  have W2_8 := Lib.hid (W2_7.out.keep hb (by omega))
  have M_8 := Lib.hid (M_7.out.keep hb (by omega))
  have X_8 := Lib.hid (X_7.out.keep hb (by omega))
  have G1_8 := Lib.hid (G1_7.out.keep hb (by omega))
  have G2_8 := Lib.hid (G2_7.out.keep hb (by omega))
  have N_8 := Lib.hid (N_7.out.keep hb (by omega))
  have Hw8 := Lib.hid (Hw7.out.trans (hb.mono Hw7.out.size))
  clear hb
  have T := Lib.hid ho
  clear ho
  go_wp2_with fail
  (with_reducible refine (eqI_same _ _ _ _ _ _ xs0 _ X_8.out T.out (by omega)).mono ?_)
  rintro e w9 ⟨rfl, hb⟩
  have z9 := hb.size
  have W1_9 := Lib.hid (W1_8.out.keep hb (by omega))
  have W2_9 := Lib.hid (W2_8.out.keep hb (by omega))
  have M_9 := Lib.hid (M_8.out.keep hb (by omega))
  have X_9 := Lib.hid (X_8.out.keep hb (by omega))
  have G1_9 := Lib.hid (G1_8.out.keep hb (by omega))
  have G2_9 := Lib.hid (G2_8.out.keep hb (by omega))
  have N_9 := Lib.hid (N_8.out.keep hb (by omega))
  have T_9 := Lib.hid (T.out.keep hb (by omega))
  have Hw9 := Lib.hid (Hw8.out.trans (hb.mono Hw8.out.size))
  clear hb
  go_wp2_with fail
  (with_reducible refine (markO _ _ _ xs0 1 _ X_9.out (by omega) (by omega) (by omega)).mono ?_)
  rintro e w10 ⟨rfl, -, hb⟩
  have z10 := hb.size
  have W1_10 := Lib.hid (W1_9.out.apart hb (by omega))
  have W2_10 := Lib.hid (W2_9.out.apart hb (by omega))
  have M_10 := Lib.hid (M_9.out.apart hb (by omega))
  have G1_10 := Lib.hid (G1_9.out.apart hb (by omega))
  have G2_10 := Lib.hid (G2_9.out.apart hb (by omega))
  have N_10 := Lib.hid (N_9.out.apart hb (by omega))
  have Hw10 := Lib.hid (Hw9.out.trans (hb.below (by omega)))
  clear hb
  obtain ⟨m0, m1, m2, m3, m4, m5, m6, -⟩ := M_10.out
  obtain ⟨n0, n1, n2, n3, n4, n5, n6, -⟩ := N_10.out
  go_wp2_with fail
  (with_reducible refine (eqClaim_same k s (.slice u5 xs.length cu5) (.slice v5 ys.length cv5) (.slice u2 xs.length cu2) (.slice v2 ys.length cv2) xs ys _ _ _ _ _ _ _ _ _ G1_10.out G2_10.out W1_10.out W2_10.out (by omega) (by omega) (by omega) (by omega) hxl hyl).mono ?_)
  rintro e w11 ⟨rfl, hb⟩
  have z11 := hb.size
  clear m0 m1 m2 m3 m4 m5 m6
  clear n0 n1 n2 n3 n4 n5 n6
  have W1_11 := Lib.hid (W1_10.out.keep hb (by omega))
  have W2_11 := Lib.hid (W2_10.out.keep hb (by omega))
  have M_11 := Lib.hid (M_10.out.keep hb (by omega))
  have G1_11 := Lib.hid (G1_10.out.keep hb (by omega))
  have G2_11 := Lib.hid (G2_10.out.keep hb (by omega))
  have N_11 := Lib.hid (N_10.out.keep hb (by omega))
  have Hw11 := Lib.hid (Hw10.out.trans (hb.mono Hw10.out.size))
  clear hb
  obtain ⟨n0, n1, n2, n3, n4, n5, n6, -⟩ := N_11.out
  go_wp2_with fail
  (with_reducible refine (markClaim k s (.slice u5 xs.length cu5) (.slice v5 ys.length cv5) xs ys _ _ _ _ w4.heap.size w5.heap.size _ G1_11.out G2_11.out d5 (by omega) (by omega) (by omega) (by omega) (by omega) hxl hyl).mono ?_)
  rintro e w12 ⟨rfl, mg1, mg2, wx, hb, ha⟩
  have zx := hb.size
  clear n0 n1 n2 n3 n4 n5 n6
  have W1_12 := Lib.hid (W1_11.out.keep hb (by omega))
  have W2_12 := Lib.hid (W2_11.out.keep hb (by omega))
  have M_12 := Lib.hid (M_11.out.keep hb (by omega))
  have N_12 := Lib.hid (N_11.out.keep hb (by omega))
  have Hwx := Lib.hid (Hw11.out.trans (hb.mono Hw11.out.size))
  clear hb
  have z12 := ha.size
  have W1_12a := Lib.hid (W1_12.out.apart ha (by omega))
  have W2_12a := Lib.hid (W2_12.out.apart ha (by omega))
  have M_12a := Lib.hid (M_12.out.apart ha (by omega))
  have N_12a := Lib.hid (N_12.out.apart ha (by omega))
  have Hw12 := Lib.hid (Hwx.out.trans (ha.below (by omega)))
  have P1 := Lib.hid mg1
  have P2 := Lib.hid mg2
  clear ha mg1 mg2
  obtain ⟨n0, n1, n2, n3, n4, n5, n6, -⟩ := N_12a.out
  go_wp2_with fail
  (with_reducible refine (heldClaim k s (.slice u5 xs.length cu5) (.slice v5 ys.length cv5) xs.length ys.length _ _ _ _ _ P1.out P2.out (by omega) (by omega) hxl hyl).mono ?_)
  rintro e w13 ⟨rfl, hb⟩
  have z13 := hb.size
  clear n0 n1 n2 n3 n4 n5 n6
  have W1_13 := Lib.hid (W1_12a.out.keep hb (by omega))
  have W2_13 := Lib.hid (W2_12a.out.keep hb (by omega))
  have M_13 := Lib.hid (M_12a.out.keep hb (by omega))
  have N_13 := Lib.hid (N_12a.out.keep hb (by omega))
  have P1_13 := Lib.hid (P1.out.keep hb (by omega))
  have P2_13 := Lib.hid (P2.out.keep hb (by omega))
  have Hw13 := Lib.hid (Hw12.out.trans (hb.mono Hw12.out.size))
  clear hb
  go_wp2_with fail
  (with_reducible refine (toIntC _ xs0 _ (HV0.out.keep Hw13.out) hsm0).mono ?_)
  rintro e w14 ⟨A14, rfl, ho, hb⟩
  have z14 := hb.size
  have W1_14 := Lib.hid (W1_13.out.keep hb (by omega))
  have W2_14 := Lib.hid (W2_13.out.keep hb (by omega))
  have M_14 := Lib.hid (M_13.out.keep hb (by omega))
  have N_14 := Lib.hid (N_13.out.keep hb (by omega))
  have P1_14 := Lib.hid (P1_13.out.keep hb (by omega))
  have P2_14 := Lib.hid (P2_13.out.keep hb (by omega))
  have Hw14 := Lib.hid (Hw13.out.trans (hb.mono Hw13.out.size))
  clear hb
  have T := Lib.hid ho
  clear ho
  go_wp2_with fail
  (with_reducible refine (HI.out _ _ _ _ T.out (by omega)).mono ?_)
  rintro e w15 ⟨xu9, xv9, l15, h15, p15, q15, rfl, oN, oO, d15, e151, e152, e153, e154, hb⟩
  have z15 := hb.size
  have W1_15 := Lib.hid (W1_14.out.keep hb (by omega))
  have W2_15 := Lib.hid (W2_14.out.keep hb (by omega))
  have M_15 := Lib.hid (M_14.out.keep hb (by omega))
  have N_15 := Lib.hid (N_14.out.keep hb (by omega))
  have P1_15 := Lib.hid (P1_14.out.keep hb (by omega))
  have P2_15 := Lib.hid (P2_14.out.keep hb (by omega))
  have T_15 := Lib.hid (T.out.keep hb (by omega))
  have Hw15 := Lib.hid (Hw14.out.trans (hb.mono Hw14.out.size))
  clear hb
  obtain ⟨u9, cu9, rfl, -⟩ := id oN
  obtain ⟨v9, cv9, rfl, -⟩ := id oO
  have H1 := Lib.hid oN
  have H2 := Lib.hid oO
  clear oN oO
  obtain ⟨BC, BB, BZ⟩ := boxed33 w15 k s (.slice u9 xs.length cu9) (.slice v9 ys.length cv9)
  have HBC := Lib.hid BC
  have HBB := Lib.hid BB
  clear BC BB
  obtain ⟨c0, c1, c2, c3, c4, c5, c6, -⟩ := HBC.out
  obtain ⟨m0, m1, m2, m3, m4, m5, m6, -⟩ := (M_15.out.keep HBB.out (by omega))
  go_wp2_with fail
  clear  c0 c1 c2 c3 c4 c5 c6 m0 m1 m2 m3 m4 m5 m6
  have BC := HBC.out
  have hb := HBB.out
  clear HBC HBB
  generalize (w15.alloc (.cells #[.int .i64 k, .string s, .string ⟨#[]⟩, .slice none 0 0, (.slice u9 xs.length cu9), (.slice v9 ys.length cv9), .slice none 0 0] 31)) = w16 at BC hb BZ ⊢
  have z16 := hb.size
  have W1_16 := Lib.hid (W1_15.out.keep hb (by omega))
  have W2_16 := Lib.hid (W2_15.out.keep hb (by omega))
  have M_16 := Lib.hid (M_15.out.keep hb (by omega))
  have N_16 := Lib.hid (N_15.out.keep hb (by omega))
  have P1_16 := Lib.hid (P1_15.out.keep hb (by omega))
  have P2_16 := Lib.hid (P2_15.out.keep hb (by omega))
  have H1_16 := Lib.hid (H1.out.keep hb (by omega))
  have H2_16 := Lib.hid (H2.out.keep hb (by omega))
  have O := Lib.hid BC
  have Hw16 := Lib.hid (Hw15.out.trans (hb.mono Hw15.out.size))
  clear hb BC
  (with_reducible refine (eqClaim_same k s (.slice u9 xs.length cu9) (.slice v9 ys.length cv9) (.slice u2 xs.length cu2) (.slice v2 ys.length cv2) xs ys _ _ _ _ _ _ _ _ _ H1_16.out H2_16.out W1_16.out W2_16.out (by omega) (by omega) (by omega) (by omega) hxl hyl).mono ?_)
  rintro e w17 ⟨rfl, hb⟩
  have z17 := hb.size
  have W1_17 := Lib.hid (W1_16.out.keep hb (by omega))
  have W2_17 := Lib.hid (W2_16.out.keep hb (by omega))
  have M_17 := Lib.hid (M_16.out.keep hb (by omega))
  have N_17 := Lib.hid (N_16.out.keep hb (by omega))
  have P1_17 := Lib.hid (P1_16.out.keep hb (by omega))
  have P2_17 := Lib.hid (P2_16.out.keep hb (by omega))
  have H1_17 := Lib.hid (H1_16.out.keep hb (by omega))
  have H2_17 := Lib.hid (H2_16.out.keep hb (by omega))
  have O_17 := Lib.hid (O.out.keep hb (by omega))
  have Hw17 := Lib.hid (Hw16.out.trans (hb.mono Hw16.out.size))
  clear hb
  obtain ⟨n0, n1, n2, n3, n4, n5, n6, -⟩ := N_17.out
  go_wp2_with fail
  (with_reducible refine (heldClaim k s (.slice u5 xs.length cu5) (.slice v5 ys.length cv5) xs.length ys.length _ _ _ _ _ P1_17.out P2_17.out (by omega) (by omega) hxl hyl).mono ?_)
  rintro e w18 ⟨rfl, hb⟩
  have z18 := hb.size
  clear n0 n1 n2 n3 n4 n5 n6
  have W1_18 := Lib.hid (W1_17.out.keep hb (by omega))
  have W2_18 := Lib.hid (W2_17.out.keep hb (by omega))
  have M_18 := Lib.hid (M_17.out.keep hb (by omega))
  have N_18 := Lib.hid (N_17.out.keep hb (by omega))
  have P1_18 := Lib.hid (P1_17.out.keep hb (by omega))
  have P2_18 := Lib.hid (P2_17.out.keep hb (by omega))
  have H1_18 := Lib.hid (H1_17.out.keep hb (by omega))
  have H2_18 := Lib.hid (H2_17.out.keep hb (by omega))
  have O_18 := Lib.hid (O_17.out.keep hb (by omega))
  have Hw18 := Lib.hid (Hw17.out.trans (hb.mono Hw17.out.size))
  clear hb
  go_wp2
  go_ret
  exact ⟨rfl, Hw18.out⟩

theorem csN_len (xs : List Int) : (csN xs).length ≤ 1048576 := by
  unfold csN
  split
  · rename_i h
    unfold popOk at h
    simp only [Bool.and_eq_true] at h
    have := (perm_yes h.1).1
    omega
  · split
    · rename_i h
      unfold conB at h
      simp only [Bool.and_eq_true] at h
      have := (perm_yes h.1).1
      omega
    · simp
theorem csO_len (xs : List Int) : (csO xs).length ≤ 1048576 := by
  unfold csO
  split
  · simp
  · split
    · unfold patP ftP; repeat (first | split | simp)
    · simp

end Go.Proofs.Ytgeppabpkbepdaa
