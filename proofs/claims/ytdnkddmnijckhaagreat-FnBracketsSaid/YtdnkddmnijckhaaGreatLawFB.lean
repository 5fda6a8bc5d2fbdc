/- The walk of the law FnBrackets: one contract a call. -/
import Derived.Test.YtdnkddmnijckhaaGreatPackB
namespace Go.Proofs.YtdnkddmnijckhaaGreat
open Go.ChangeShapes Go.WideShapes Go.ChangeAt Go.RowKit
set_option linter.unusedVariables false

theorem Code.carry {w w' : World} {A : Option Addr} {n : Nat} (h : Code w w.heap.size A n) (hb : Below w.heap.size w w') : Code w' w'.heap.size A n := by
  have h1 := h.keep hb.block
  refine ⟨h1.1, fun j hj => ?_⟩
  obtain ⟨b, off, z, e1, e2, e3⟩ := h1.2 j hj
  exact ⟨b, off, z, e1, Nat.lt_of_lt_of_le e2 hb.size, e3⟩

set_option maxRecDepth 100000 in
set_option maxHeartbeats 51200000 in
theorem brackets_walk (A : Option Addr) (n cap : Nat) (w : World) (hc : n ≤ 1048576 → Code w w.heap.size A n) :
    Calls Tryz.prog 3 #[.slice A n cap] w fun e w' => e = .returned (.bool true) ∧ Below w.heap.size w w' := by
  by_cases hbig : 1048576 < n
  · have hd : decide (1048576 < n) = true := by simpa using hbig
    clear hc
    go_enter Tryz.func3, Tryz.ntmps3
    go_wp2_with fail
    (with_reducible refine (bigC A n cap _).mono ?_)
    rintro e w1 ⟨rfl, rfl⟩
    go_wp2
    go_ret
    exact ⟨rfl, Below.refl _ _⟩
  have hdn : decide (1048576 < n) = false := by simpa using hbig
  have HC := Lib.hid (hc (by omega))
  clear hc hbig
  go_enter Tryz.func3, Tryz.ntmps3
  go_wp2_with fail
  (with_reducible refine (bigC A n cap _).mono ?_)
  rintro e w0 ⟨rfl, rfl⟩
  go_wp2_with fail
  (with_reducible refine (drawPartner A n cap _ HC.out).mono ?_)
  rintro e w1 ⟨s, i, hs, hi0, hi1, rfl, hb⟩
  have z1 := hb.size
  have Hw1 := Lib.hid hb
  clear hb
  obtain ⟨p, fPI, fPS, hcase⟩ := pkPartner s i hs hi0
  have HfPI := Lib.hid fPI
  have HfPS := Lib.hid fPS
  have hpp : (p != p) = false := by simp
  have hii : (i != i) = false := by simp
  clear fPI fPS hs
  go_wp2_with fail
  (with_reducible refine (HfPI.out.now _).mono ?_)
  rintro e w2 ⟨rfl, hb⟩
  have z2 := hb.size
  have Hw2 := Lib.hid (Hw1.out.trans (hb.mono Hw1.out.size))
  clear hb
  go_wp2_with fail
  (with_reducible refine (HfPS.out.now _).mono ?_)
  rintro e w3 ⟨rfl, hb⟩
  have z3 := hb.size
  have Hw3 := Lib.hid (Hw2.out.trans (hb.mono Hw2.out.size))
  clear hb
  rcases hcase with hneg | ⟨p0, p1, pne, fBack⟩
  · have hn0 : ¬ (0 : Int) ≤ p := by omega
    go_wp2_with fail
    (with_reducible refine (drawShift A n cap _ (HC.out.carry Hw3.out)).mono ?_)
    rintro e w4 ⟨x, hx, rfl, hb⟩
    have z4 := hb.size
    have Hw4 := Lib.hid (Hw3.out.trans (hb.mono Hw3.out.size))
    clear hb
    obtain ⟨y, b, fXI, fXS, hcs⟩ := pkShift x hx
    have HfXI := Lib.hid fXI
    have HfXS := Lib.hid fXS
    have hyy : (y.toList != y.toList) = false := by simp
    have hxx : (x.toList != x.toList) = false := by simp
    clear fXI fXS
    rcases b with _ | _
    · clear hcs hx
      by_cases hx1 : (1 : Int) < (x.size : Int)
      · go_wp2_with fail
        (with_reducible refine (HfXI.out.now _).mono ?_)
        rintro e w5 ⟨rfl, hb⟩
        have z5 := hb.size
        have Hw5 := Lib.hid (Hw4.out.trans (hb.mono Hw4.out.size))
        clear hb
        go_wp2_with fail
        (with_reducible refine (HfXS.out.now _).mono ?_)
        rintro e w6 ⟨rfl, hb⟩
        have z6 := hb.size
        have Hw6 := Lib.hid (Hw5.out.trans (hb.mono Hw5.out.size))
        clear hb
        go_wp2
        refine wp_loop_rounds 1 ?_
        rw [rounds_succ]
        go_wp2_with fail
        (with_reducible refine (drawBrackets A n cap _ (HC.out.carry Hw6.out)).mono ?_)
        rintro e w7 ⟨w8, hw8, rfl, hb⟩
        have z7 := hb.size
        have Hw7 := Lib.hid (Hw6.out.trans (hb.mono Hw6.out.size))
        clear hb
        obtain ⟨c8, n8, fCI, fCS, hone⟩ := pkBrackets w8 hw8
        have hcc : (c8.toList != c8.toList) = false := by simp
        have hww : (w8.toList != w8.toList) = false := by simp
        have hnn : (n8 != n8) = false := by simp
        rcases hd8 : dyck w8 with _ | _
        · rw [hd8] at fCI fCS
          have HfCI := Lib.hid fCI
          have HfCS := Lib.hid fCS
          clear fCI fCS hone hd8 hw8
          go_wp2_with fail
          (with_reducible refine (HfCI.out.now _).mono ?_)
          rintro e w8 ⟨rfl, hb⟩
          have z8 := hb.size
          have Hw8 := Lib.hid (Hw7.out.trans (hb.mono Hw7.out.size))
          clear hb
          go_wp2_with fail
          (with_reducible refine (HfCS.out.now _).mono ?_)
          rintro e w9 ⟨rfl, hb⟩
          have z9 := hb.size
          have Hw9 := Lib.hid (Hw8.out.trans (hb.mono Hw8.out.size))
          clear hb
          go_wp2_with fail
          (with_reducible refine (drawPathOfBrackets A n cap _ (HC.out.carry Hw9.out)).mono ?_)
          rintro e w10 ⟨d, hd9, rfl, hb⟩
          have z10 := hb.size
          have Hw10 := Lib.hid (Hw9.out.trans (hb.mono Hw9.out.size))
          clear hb
          obtain ⟨p9, o9, x9, y9, f1, f2, f3, f4, f5, f6⟩ := pkLast d hd9
          have Hf1 := Lib.hid f1
          have Hf2 := Lib.hid f2
          have Hf3 := Lib.hid f3
          have Hf4 := Lib.hid f4
          have Hf5 := Lib.hid f5
          have Hf6 := Lib.hid f6
          have hp9 : (p9.toList == p9.toList) = true := by simp
          have ho9 : (o9 == o9) = true := by simp
          clear f1 f2 f3 f4 f5 f6 hd9
          go_wp2_with fail
          (with_reducible refine (Hf1.out.now _).mono ?_)
          rintro e w11 ⟨rfl, hb⟩
          have z11 := hb.size
          have Hw11 := Lib.hid (Hw10.out.trans (hb.mono Hw10.out.size))
          clear hb
          go_wp2_with fail
          (with_reducible refine (Hf2.out.now _).mono ?_)
          rintro e w12 ⟨rfl, hb⟩
          have z12 := hb.size
          have Hw12 := Lib.hid (Hw11.out.trans (hb.mono Hw11.out.size))
          clear hb
          go_wp2_with fail
          (with_reducible refine (Hf3.out.now _).mono ?_)
          rintro e w13 ⟨rfl, hb⟩
          have z13 := hb.size
          have Hw13 := Lib.hid (Hw12.out.trans (hb.mono Hw12.out.size))
          clear hb
          go_wp2_with fail
          (with_reducible refine (Hf4.out.now _).mono ?_)
          rintro e w14 ⟨rfl, hb⟩
          have z14 := hb.size
          have Hw14 := Lib.hid (Hw13.out.trans (hb.mono Hw13.out.size))
          clear hb
          go_wp2_with fail
          (with_reducible refine (Hf5.out.now _).mono ?_)
          rintro e w15 ⟨rfl, hb⟩
          have z15 := hb.size
          have Hw15 := Lib.hid (Hw14.out.trans (hb.mono Hw14.out.size))
          clear hb
          go_wp2_with fail
          (with_reducible refine (Hf6.out.now _).mono ?_)
          rintro e w16 ⟨rfl, hb⟩
          have z16 := hb.size
          have Hw16 := Lib.hid (Hw15.out.trans (hb.mono Hw15.out.size))
          clear hb
          go_wp2
          go_ret
          exact ⟨rfl, Hw16.out⟩
        · obtain ⟨fB, fN, fA⟩ := hone hd8
          rw [hd8] at fCI fCS
          have HfCI := Lib.hid fCI
          have HfCS := Lib.hid fCS
          have HfB := Lib.hid fB
          have HfN := Lib.hid fN
          have HfA := Lib.hid fA
          clear fCI fCS hone hd8 hw8 fB fN fA
          go_wp2_with fail
          (with_reducible refine (HfCI.out.now _).mono ?_)
          rintro e w8 ⟨rfl, hb⟩
          have z8 := hb.size
          have Hw8 := Lib.hid (Hw7.out.trans (hb.mono Hw7.out.size))
          clear hb
          go_wp2_with fail
          (with_reducible refine (HfCS.out.now _).mono ?_)
          rintro e w9 ⟨rfl, hb⟩
          have z9 := hb.size
          have Hw9 := Lib.hid (Hw8.out.trans (hb.mono Hw8.out.size))
          clear hb
          go_wp2_with fail
          (with_reducible refine (HfB.out.now _).mono ?_)
          rintro e w10 ⟨rfl, hb⟩
          have z10 := hb.size
          have Hw10 := Lib.hid (Hw9.out.trans (hb.mono Hw9.out.size))
          clear hb
          go_wp2_with fail
          (with_reducible refine (HfN.out.now _).mono ?_)
          rintro e w11 ⟨rfl, hb⟩
          have z11 := hb.size
          have Hw11 := Lib.hid (Hw10.out.trans (hb.mono Hw10.out.size))
          clear hb
          go_wp2_with fail
          (with_reducible refine (HfA.out.now _).mono ?_)
          rintro e w12 ⟨rfl, hb⟩
          have z12 := hb.size
          have Hw12 := Lib.hid (Hw11.out.trans (hb.mono Hw11.out.size))
          clear hb
          go_wp2_with fail
          (with_reducible refine (drawPathOfBrackets A n cap _ (HC.out.carry Hw12.out)).mono ?_)
          rintro e w13 ⟨d, hd9, rfl, hb⟩
          have z13 := hb.size
          have Hw13 := Lib.hid (Hw12.out.trans (hb.mono Hw12.out.size))
          clear hb
          obtain ⟨p9, o9, x9, y9, f1, f2, f3, f4, f5, f6⟩ := pkLast d hd9
          have Hf1 := Lib.hid f1
          have Hf2 := Lib.hid f2
          have Hf3 := Lib.hid f3
          have Hf4 := Lib.hid f4
          have Hf5 := Lib.hid f5
          have Hf6 := Lib.hid f6
          have hp9 : (p9.toList == p9.toList) = true := by simp
          have ho9 : (o9 == o9) = true := by simp
          clear f1 f2 f3 f4 f5 f6 hd9
          go_wp2_with fail
          (with_reducible refine (Hf1.out.now _).mono ?_)
          rintro e w14 ⟨rfl, hb⟩
          have z14 := hb.size
          have Hw14 := Lib.hid (Hw13.out.trans (hb.mono Hw13.out.size))
          clear hb
          go_wp2_with fail
          (with_reducible refine (Hf2.out.now _).mono ?_)
          rintro e w15 ⟨rfl, hb⟩
          have z15 := hb.size
          have Hw15 := Lib.hid (Hw14.out.trans (hb.mono Hw14.out.size))
          clear hb
          go_wp2_with fail
          (with_reducible refine (Hf3.out.now _).mono ?_)
          rintro e w16 ⟨rfl, hb⟩
          have z16 := hb.size
          have Hw16 := Lib.hid (Hw15.out.trans (hb.mono Hw15.out.size))
          clear hb
          go_wp2_with fail
          (with_reducible refine (Hf4.out.now _).mono ?_)
          rintro e w17 ⟨rfl, hb⟩
          have z17 := hb.size
          have Hw17 := Lib.hid (Hw16.out.trans (hb.mono Hw16.out.size))
          clear hb
          go_wp2_with fail
          (with_reducible refine (Hf5.out.now _).mono ?_)
          rintro e w18 ⟨rfl, hb⟩
          have z18 := hb.size
          have Hw18 := Lib.hid (Hw17.out.trans (hb.mono Hw17.out.size))
          clear hb
          go_wp2_with fail
          (with_reducible refine (Hf6.out.now _).mono ?_)
          rintro e w19 ⟨rfl, hb⟩
          have z19 := hb.size
          have Hw19 := Lib.hid (Hw18.out.trans (hb.mono Hw18.out.size))
          clear hb
          go_wp2
          go_ret
          exact ⟨rfl, Hw19.out⟩
      · go_wp2_with fail
        (with_reducible refine (HfXI.out.now _).mono ?_)
        rintro e w5 ⟨rfl, hb⟩
        have z5 := hb.size
        have Hw5 := Lib.hid (Hw4.out.trans (hb.mono Hw4.out.size))
        clear hb
        go_wp2_with fail
        (with_reducible refine (HfXS.out.now _).mono ?_)
        rintro e w6 ⟨rfl, hb⟩
        have z6 := hb.size
        have Hw6 := Lib.hid (Hw5.out.trans (hb.mono Hw5.out.size))
        clear hb
        go_wp2
        refine wp_loop_rounds 1 ?_
        rw [rounds_succ]
        go_wp2_with fail
        (with_reducible refine (drawBrackets A n cap _ (HC.out.carry Hw6.out)).mono ?_)
        rintro e w7 ⟨w8, hw8, rfl, hb⟩
        have z7 := hb.size
        have Hw7 := Lib.hid (Hw6.out.trans (hb.mono Hw6.out.size))
        clear hb
        obtain ⟨c8, n8, fCI, fCS, hone⟩ := pkBrackets w8 hw8
        have hcc : (c8.toList != c8.toList) = false := by simp
        have hww : (w8.toList != w8.toList) = false := by simp
        have hnn : (n8 != n8) = false := by simp
        rcases hd8 : dyck w8 with _ | _
        · rw [hd8] at fCI fCS
          have HfCI := Lib.hid fCI
          have HfCS := Lib.hid fCS
          clear fCI fCS hone hd8 hw8
          go_wp2_with fail
          (with_reducible refine (HfCI.out.now _).mono ?_)
          rintro e w8 ⟨rfl, hb⟩
          have z8 := hb.size
          have Hw8 := Lib.hid (Hw7.out.trans (hb.mono Hw7.out.size))
          clear hb
          go_wp2_with fail
          (with_reducible refine (HfCS.out.now _).mono ?_)
          rintro e w9 ⟨rfl, hb⟩
          have z9 := hb.size
          have Hw9 := Lib.hid (Hw8.out.trans (hb.mono Hw8.out.size))
          clear hb
          go_wp2_with fail
          (with_reducible refine (drawPathOfBrackets A n cap _ (HC.out.carry Hw9.out)).mono ?_)
          rintro e w10 ⟨d, hd9, rfl, hb⟩
          have z10 := hb.size
          have Hw10 := Lib.hid (Hw9.out.trans (hb.mono Hw9.out.size))
          clear hb
          obtain ⟨p9, o9, x9, y9, f1, f2, f3, f4, f5, f6⟩ := pkLast d hd9
          have Hf1 := Lib.hid f1
          have Hf2 := Lib.hid f2
          have Hf3 := Lib.hid f3
          have Hf4 := Lib.hid f4
          have Hf5 := Lib.hid f5
          have Hf6 := Lib.hid f6
          have hp9 : (p9.toList == p9.toList) = true := by simp
          have ho9 : (o9 == o9) = true := by simp
          clear f1 f2 f3 f4 f5 f6 hd9
          go_wp2_with fail
          (with_reducible refine (Hf1.out.now _).mono ?_)
          rintro e w11 ⟨rfl, hb⟩
          have z11 := hb.size
          have Hw11 := Lib.hid (Hw10.out.trans (hb.mono Hw10.out.size))
          clear hb
          go_wp2_with fail
          (with_reducible refine (Hf2.out.now _).mono ?_)
          rintro e w12 ⟨rfl, hb⟩
          have z12 := hb.size
          have Hw12 := Lib.hid (Hw11.out.trans (hb.mono Hw11.out.size))
          clear hb
          go_wp2_with fail
          (with_reducible refine (Hf3.out.now _).mono ?_)
          rintro e w13 ⟨rfl, hb⟩
          have z13 := hb.size
          have Hw13 := Lib.hid (Hw12.out.trans (hb.mono Hw12.out.size))
          clear hb
          go_wp2_with fail
          (with_reducible refine (Hf4.out.now _).mono ?_)
          rintro e w14 ⟨rfl, hb⟩
          have z14 := hb.size
          have Hw14 := Lib.hid (Hw13.out.trans (hb.mono Hw13.out.size))
          clear hb
          go_wp2_with fail
          (with_reducible refine (Hf5.out.now _).mono ?_)
          rintro e w15 ⟨rfl, hb⟩
          have z15 := hb.size
          have Hw15 := Lib.hid (Hw14.out.trans (hb.mono Hw14.out.size))
          clear hb
          go_wp2_with fail
          (with_reducible refine (Hf6.out.now _).mono ?_)
          rintro e w16 ⟨rfl, hb⟩
          have z16 := hb.size
          have Hw16 := Lib.hid (Hw15.out.trans (hb.mono Hw15.out.size))
          clear hb
          go_wp2
          go_ret
          exact ⟨rfl, Hw16.out⟩
        · obtain ⟨fB, fN, fA⟩ := hone hd8
          rw [hd8] at fCI fCS
          have HfCI := Lib.hid fCI
          have HfCS := Lib.hid fCS
          have HfB := Lib.hid fB
          have HfN := Lib.hid fN
          have HfA := Lib.hid fA
          clear fCI fCS hone hd8 hw8 fB fN fA
          go_wp2_with fail
          (with_reducible refine (HfCI.out.now _).mono ?_)
          rintro e w8 ⟨rfl, hb⟩
          have z8 := hb.size
          have Hw8 := Lib.hid (Hw7.out.trans (hb.mono Hw7.out.size))
          clear hb
          go_wp2_with fail
          (with_reducible refine (HfCS.out.now _).mono ?_)
          rintro e w9 ⟨rfl, hb⟩
          have z9 := hb.size
          have Hw9 := Lib.hid (Hw8.out.trans (hb.mono Hw8.out.size))
          clear hb
          go_wp2_with fail
          (with_reducible refine (HfB.out.now _).mono ?_)
          rintro e w10 ⟨rfl, hb⟩
          have z10 := hb.size
          have Hw10 := Lib.hid (Hw9.out.trans (hb.mono Hw9.out.size))
          clear hb
          go_wp2_with fail
          (with_reducible refine (HfN.out.now _).mono ?_)
          rintro e w11 ⟨rfl, hb⟩
          have z11 := hb.size
          have Hw11 := Lib.hid (Hw10.out.trans (hb.mono Hw10.out.size))
          clear hb
          go_wp2_with fail
          (with_reducible refine (HfA.out.now _).mono ?_)
          rintro e w12 ⟨rfl, hb⟩
          have z12 := hb.size
          have Hw12 := Lib.hid (Hw11.out.trans (hb.mono Hw11.out.size))
          clear hb
          go_wp2_with fail
          (with_reducible refine (drawPathOfBrackets A n cap _ (HC.out.carry Hw12.out)).mono ?_)
          rintro e w13 ⟨d, hd9, rfl, hb⟩
          have z13 := hb.size
          have Hw13 := Lib.hid (Hw12.out.trans (hb.mono Hw12.out.size))
          clear hb
          obtain ⟨p9, o9, x9, y9, f1, f2, f3, f4, f5, f6⟩ := pkLast d hd9
          have Hf1 := Lib.hid f1
          have Hf2 := Lib.hid f2
          have Hf3 := Lib.hid f3
          have Hf4 := Lib.hid f4
          have Hf5 := Lib.hid f5
          have Hf6 := Lib.hid f6
          have hp9 : (p9.toList == p9.toList) = true := by simp
          have ho9 : (o9 == o9) = true := by simp
          clear f1 f2 f3 f4 f5 f6 hd9
          go_wp2_with fail
          (with_reducible refine (Hf1.out.now _).mono ?_)
          rintro e w14 ⟨rfl, hb⟩
          have z14 := hb.size
          have Hw14 := Lib.hid (Hw13.out.trans (hb.mono Hw13.out.size))
          clear hb
          go_wp2_with fail
          (with_reducible refine (Hf2.out.now _).mono ?_)
          rintro e w15 ⟨rfl, hb⟩
          have z15 := hb.size
          have Hw15 := Lib.hid (Hw14.out.trans (hb.mono Hw14.out.size))
          clear hb
          go_wp2_with fail
          (with_reducible refine (Hf3.out.now _).mono ?_)
          rintro e w16 ⟨rfl, hb⟩
          have z16 := hb.size
          have Hw16 := Lib.hid (Hw15.out.trans (hb.mono Hw15.out.size))
          clear hb
          go_wp2_with fail
          (with_reducible refine (Hf4.out.now _).mono ?_)
          rintro e w17 ⟨rfl, hb⟩
          have z17 := hb.size
          have Hw17 := Lib.hid (Hw16.out.trans (hb.mono Hw16.out.size))
          clear hb
          go_wp2_with fail
          (with_reducible refine (Hf5.out.now _).mono ?_)
          rintro e w18 ⟨rfl, hb⟩
          have z18 := hb.size
          have Hw18 := Lib.hid (Hw17.out.trans (hb.mono Hw17.out.size))
          clear hb
          go_wp2_with fail
          (with_reducible refine (Hf6.out.now _).mono ?_)
          rintro e w19 ⟨rfl, hb⟩
          have z19 := hb.size
          have Hw19 := Lib.hid (Hw18.out.trans (hb.mono Hw18.out.size))
          clear hb
          go_wp2
          go_ret
          exact ⟨rfl, Hw19.out⟩
    · by_cases h0 : 0 < x.size
      · have hx12 : x.size ≤ 12 := hx
        obtain ⟨hye, hg⟩ := hcs rfl h0
        obtain ⟨w9, v9, ms, ys, b1, b2, b3, ⟨k0, hk0, hall⟩, hml, hyl, fP, fM, fT, fO, fB⟩ := pkRound x hx hg h0
        rw [← hye] at hall fB
        have h0i : (0 : Int) < (x.size : Int) := by omega
        have HALL := Lib.hid hall
        have HK0 := Lib.hid hk0
        have HfP := Lib.hid fP
        have HfM := Lib.hid fM
        have HfT := Lib.hid fT
        have HfO := Lib.hid fO
        have HfB := Lib.hid fB
        clear hcs hx hye hg hall hk0 fP fM fT fO fB
        go_wp2_with fail
        (with_reducible refine (HfXI.out.now _).mono ?_)
        rintro e w5 ⟨rfl, hb⟩
        have z5 := hb.size
        have Hw5 := Lib.hid (Hw4.out.trans (hb.mono Hw4.out.size))
        clear hb
        go_wp2_with fail
        (with_reducible refine (HfXS.out.now _).mono ?_)
        rintro e w6 ⟨rfl, hb⟩
        have z6 := hb.size
        have Hw6 := Lib.hid (Hw5.out.trans (hb.mono Hw5.out.size))
        clear hb
        go_wp2
        go_loopw [7, 8, 11] (fun Y Z K wr => ∃ (k j : Nat) (u : ByteArray), K = .int .i64 k ∧ Y = .string u ∧ Z = .bool true ∧ k + j = x.size ∧ 1 ≤ k ∧ shAll x j u = true ∧ Below w6.heap.size w6 wr) (fun _ _ K _ => x.size - (intOf K).toNat)
        case atStart => exact ⟨1, k0, y, rfl, rfl, rfl, by have := HK0.out; omega, by omega, HALL.out, Below.refl _ _⟩
        case round =>
          obtain ⟨k, j, u, rfl, rfl, rfl, hkj, hk1, hsh, hb⟩ := hrel
          have HBL := Lib.hid hb
          have zL := hb.size
          have HKJ := Lib.hid hkj
          have hk12 : k ≤ 12 := by omega
          clear hb hkj
          rcases j with _ | j
          · have hux : u = x := str_of_list (by simpa [shAll] using hsh)
            rw [hux]
            obtain rfl : k = x.size := by have := HKJ.out; omega
            clear hsh hux
            have HwL := Lib.hid (Hw6.out.trans (HBL.out.mono Hw6.out.size))
            have zW := HBL.out.size
            clear HBL
            go_wp2_with fail
            (with_reducible refine (HfP.out.now _).mono ?_)
            rintro e w7 ⟨rfl, hb⟩
            have z7 := hb.size
            have Hw7 := Lib.hid (HwL.out.trans (hb.mono HwL.out.size))
            clear hb
            go_wp2_with fail
            (with_reducible refine (HfM.out _).mono ?_)
            rintro e w8 ⟨v8, rfl, ho, hb⟩
            have z8 := hb.size
            obtain ⟨A8, c8, rfl, -⟩ := id ho
            have HQ8 := Lib.hid ho
            have Hw8 := Lib.hid (Hw7.out.trans (hb.mono Hw7.out.size))
            clear hb ho
            go_wp2_with fail
            (with_reducible refine (HfT.out _ _ _ _ HQ8.out (Nat.le_refl _)).mono ?_)
            rintro e w9 ⟨v9, rfl, ho, hb⟩
            have z9 := hb.size
            obtain ⟨A9, c9, rfl, -⟩ := id ho
            have HQ9 := Lib.hid ho
            have Hw9 := Lib.hid (Hw8.out.trans (hb.mono Hw8.out.size))
            clear hb ho
            go_wp2_with fail
            (with_reducible refine (HfO.out _ _ _ _ HQ9.out (Nat.le_refl _)).mono ?_)
            rintro e w10 ⟨rfl, hb⟩
            have z10 := hb.size
            have Hw10 := Lib.hid (Hw9.out.trans (hb.mono Hw9.out.size))
            clear hb
            go_wp2_with fail
            (with_reducible refine (HfB.out.now _).mono ?_)
            rintro e w11 ⟨rfl, hb⟩
            have z11 := hb.size
            have Hw11 := Lib.hid (Hw10.out.trans (hb.mono Hw10.out.size))
            clear hb
            go_wp2_with fail
            (with_reducible refine (drawBrackets A n cap _ (HC.out.carry Hw11.out)).mono ?_)
            rintro e w12 ⟨w8, hw8, rfl, hb⟩
            have z12 := hb.size
            have Hw12 := Lib.hid (Hw11.out.trans (hb.mono Hw11.out.size))
            clear hb
            obtain ⟨c8, n8, fCI, fCS, hone⟩ := pkBrackets w8 hw8
            have hcc : (c8.toList != c8.toList) = false := by simp
            have hww : (w8.toList != w8.toList) = false := by simp
            have hnn : (n8 != n8) = false := by simp
            rcases hd8 : dyck w8 with _ | _
            · rw [hd8] at fCI fCS
              have HfCI := Lib.hid fCI
              have HfCS := Lib.hid fCS
              clear fCI fCS hone hd8 hw8
              go_wp2_with fail
              (with_reducible refine (HfCI.out.now _).mono ?_)
              rintro e w13 ⟨rfl, hb⟩
              have z13 := hb.size
              have Hw13 := Lib.hid (Hw12.out.trans (hb.mono Hw12.out.size))
              clear hb
              go_wp2_with fail
              (with_reducible refine (HfCS.out.now _).mono ?_)
              rintro e w14 ⟨rfl, hb⟩
              have z14 := hb.size
              have Hw14 := Lib.hid (Hw13.out.trans (hb.mono Hw13.out.size))
              clear hb
              go_wp2_with fail
              (with_reducible refine (drawPathOfBrackets A n cap _ (HC.out.carry Hw14.out)).mono ?_)
              rintro e w15 ⟨d, hd9, rfl, hb⟩
              have z15 := hb.size
              have Hw15 := Lib.hid (Hw14.out.trans (hb.mono Hw14.out.size))
              clear hb
              obtain ⟨p9, o9, x9, y9, f1, f2, f3, f4, f5, f6⟩ := pkLast d hd9
              have Hf1 := Lib.hid f1
              have Hf2 := Lib.hid f2
              have Hf3 := Lib.hid f3
              have Hf4 := Lib.hid f4
              have Hf5 := Lib.hid f5
              have Hf6 := Lib.hid f6
              have hp9 : (p9.toList == p9.toList) = true := by simp
              have ho9 : (o9 == o9) = true := by simp
              clear f1 f2 f3 f4 f5 f6 hd9
              go_wp2_with fail
              (with_reducible refine (Hf1.out.now _).mono ?_)
              rintro e w16 ⟨rfl, hb⟩
              have z16 := hb.size
              have Hw16 := Lib.hid (Hw15.out.trans (hb.mono Hw15.out.size))
              clear hb
              go_wp2_with fail
              (with_reducible refine (Hf2.out.now _).mono ?_)
              rintro e w17 ⟨rfl, hb⟩
              have z17 := hb.size
              have Hw17 := Lib.hid (Hw16.out.trans (hb.mono Hw16.out.size))
              clear hb
              go_wp2_with fail
              (with_reducible refine (Hf3.out.now _).mono ?_)
              rintro e w18 ⟨rfl, hb⟩
              have z18 := hb.size
              have Hw18 := Lib.hid (Hw17.out.trans (hb.mono Hw17.out.size))
              clear hb
              go_wp2_with fail
              (with_reducible refine (Hf4.out.now _).mono ?_)
              rintro e w19 ⟨rfl, hb⟩
              have z19 := hb.size
              have Hw19 := Lib.hid (Hw18.out.trans (hb.mono Hw18.out.size))
              clear hb
              go_wp2_with fail
              (with_reducible refine (Hf5.out.now _).mono ?_)
              rintro e w20 ⟨rfl, hb⟩
              have z20 := hb.size
              have Hw20 := Lib.hid (Hw19.out.trans (hb.mono Hw19.out.size))
              clear hb
              go_wp2_with fail
              (with_reducible refine (Hf6.out.now _).mono ?_)
              rintro e w21 ⟨rfl, hb⟩
              have z21 := hb.size
              have Hw21 := Lib.hid (Hw20.out.trans (hb.mono Hw20.out.size))
              clear hb
              go_wp2
              go_ret
              exact ⟨rfl, Hw21.out⟩
            · obtain ⟨fB, fN, fA⟩ := hone hd8
              rw [hd8] at fCI fCS
              have HfCI := Lib.hid fCI
              have HfCS := Lib.hid fCS
              have HfB := Lib.hid fB
              have HfN := Lib.hid fN
              have HfA := Lib.hid fA
              clear fCI fCS hone hd8 hw8 fB fN fA
              go_wp2_with fail
              (with_reducible refine (HfCI.out.now _).mono ?_)
              rintro e w13 ⟨rfl, hb⟩
              have z13 := hb.size
              have Hw13 := Lib.hid (Hw12.out.trans (hb.mono Hw12.out.size))
              clear hb
              go_wp2_with fail
              (with_reducible refine (HfCS.out.now _).mono ?_)
              rintro e w14 ⟨rfl, hb⟩
              have z14 := hb.size
              have Hw14 := Lib.hid (Hw13.out.trans (hb.mono Hw13.out.size))
              clear hb
              go_wp2_with fail
              (with_reducible refine (HfB.out.now _).mono ?_)
              rintro e w15 ⟨rfl, hb⟩
              have z15 := hb.size
              have Hw15 := Lib.hid (Hw14.out.trans (hb.mono Hw14.out.size))
              clear hb
              go_wp2_with fail
              (with_reducible refine (HfN.out.now _).mono ?_)
              rintro e w16 ⟨rfl, hb⟩
              have z16 := hb.size
              have Hw16 := Lib.hid (Hw15.out.trans (hb.mono Hw15.out.size))
              clear hb
              go_wp2_with fail
              (with_reducible refine (HfA.out.now _).mono ?_)
              rintro e w17 ⟨rfl, hb⟩
              have z17 := hb.size
              have Hw17 := Lib.hid (Hw16.out.trans (hb.mono Hw16.out.size))
              clear hb
              go_wp2_with fail
              (with_reducible refine (drawPathOfBrackets A n cap _ (HC.out.carry Hw17.out)).mono ?_)
              rintro e w18 ⟨d, hd9, rfl, hb⟩
              have z18 := hb.size
              have Hw18 := Lib.hid (Hw17.out.trans (hb.mono Hw17.out.size))
              clear hb
              obtain ⟨p9, o9, x9, y9, f1, f2, f3, f4, f5, f6⟩ := pkLast d hd9
              have Hf1 := Lib.hid f1
              have Hf2 := Lib.hid f2
              have Hf3 := Lib.hid f3
              have Hf4 := Lib.hid f4
              have Hf5 := Lib.hid f5
              have Hf6 := Lib.hid f6
              have hp9 : (p9.toList == p9.toList) = true := by simp
              have ho9 : (o9 == o9) = true := by simp
              clear f1 f2 f3 f4 f5 f6 hd9
              go_wp2_with fail
              (with_reducible refine (Hf1.out.now _).mono ?_)
              rintro e w19 ⟨rfl, hb⟩
              have z19 := hb.size
              have Hw19 := Lib.hid (Hw18.out.trans (hb.mono Hw18.out.size))
              clear hb
              go_wp2_with fail
              (with_reducible refine (Hf2.out.now _).mono ?_)
              rintro e w20 ⟨rfl, hb⟩
              have z20 := hb.size
              have Hw20 := Lib.hid (Hw19.out.trans (hb.mono Hw19.out.size))
              clear hb
              go_wp2_with fail
              (with_reducible refine (Hf3.out.now _).mono ?_)
              rintro e w21 ⟨rfl, hb⟩
              have z21 := hb.size
              have Hw21 := Lib.hid (Hw20.out.trans (hb.mono Hw20.out.size))
              clear hb
              go_wp2_with fail
              (with_reducible refine (Hf4.out.now _).mono ?_)
              rintro e w22 ⟨rfl, hb⟩
              have z22 := hb.size
              have Hw22 := Lib.hid (Hw21.out.trans (hb.mono Hw21.out.size))
              clear hb
              go_wp2_with fail
              (with_reducible refine (Hf5.out.now _).mono ?_)
              rintro e w23 ⟨rfl, hb⟩
              have z23 := hb.size
              have Hw23 := Lib.hid (Hw22.out.trans (hb.mono Hw22.out.size))
              clear hb
              go_wp2_with fail
              (with_reducible refine (Hf6.out.now _).mono ?_)
              rintro e w24 ⟨rfl, hb⟩
              have z24 := hb.size
              have Hw24 := Lib.hid (Hw23.out.trans (hb.mono Hw23.out.size))
              clear hb
              go_wp2
              go_ret
              exact ⟨rfl, Hw24.out⟩
          · rw [shAll, Bool.and_eq_true] at hsh
            obtain ⟨hgood, hnext⟩ := hsh
            have HST := Lib.hid (pkStep hgood)
            have HN := Lib.hid hnext
            have hkx : (k : Int) < (x.size : Int) := by have := HKJ.out; omega
            clear hgood hnext
            generalize shOne u = u2 at *
            go_wp2_with fail
            (with_reducible refine (HST.out.now _).mono ?_)
            rintro e w' ⟨rfl, hb⟩
            go_wp2
            exact ⟨⟨k + 1, j, u2, by simp, rfl, rfl, by have := HKJ.out; omega, by omega, HN.out, HBL.out.trans (hb.mono zL)⟩, by simp [intOf]; omega⟩
      · have hx0 : x.size = 0 := by omega
        have hx1 : ¬ (1 : Int) < (x.size : Int) := by omega
        have hx2 : ¬ (0 : Int) < (x.size : Int) := by omega
        clear hcs hx h0
        go_wp2_with fail
        (with_reducible refine (HfXI.out.now _).mono ?_)
        rintro e w5 ⟨rfl, hb⟩
        have z5 := hb.size
        have Hw5 := Lib.hid (Hw4.out.trans (hb.mono Hw4.out.size))
        clear hb
        go_wp2_with fail
        (with_reducible refine (HfXS.out.now _).mono ?_)
        rintro e w6 ⟨rfl, hb⟩
        have z6 := hb.size
        have Hw6 := Lib.hid (Hw5.out.trans (hb.mono Hw5.out.size))
        clear hb
        go_wp2
        refine wp_loop_rounds 1 ?_
        rw [rounds_succ]
        go_wp2_with fail
        (with_reducible refine (drawBrackets A n cap _ (HC.out.carry Hw6.out)).mono ?_)
        rintro e w7 ⟨w8, hw8, rfl, hb⟩
        have z7 := hb.size
        have Hw7 := Lib.hid (Hw6.out.trans (hb.mono Hw6.out.size))
        clear hb
        obtain ⟨c8, n8, fCI, fCS, hone⟩ := pkBrackets w8 hw8
        have hcc : (c8.toList != c8.toList) = false := by simp
        have hww : (w8.toList != w8.toList) = false := by simp
        have hnn : (n8 != n8) = false := by simp
        rcases hd8 : dyck w8 with _ | _
        · rw [hd8] at fCI fCS
          have HfCI := Lib.hid fCI
          have HfCS := Lib.hid fCS
          clear fCI fCS hone hd8 hw8
          go_wp2_with fail
          (with_reducible refine (HfCI.out.now _).mono ?_)
          rintro e w8 ⟨rfl, hb⟩
          have z8 := hb.size
          have Hw8 := Lib.hid (Hw7.out.trans (hb.mono Hw7.out.size))
          clear hb
          go_wp2_with fail
          (with_reducible refine (HfCS.out.now _).mono ?_)
          rintro e w9 ⟨rfl, hb⟩
          have z9 := hb.size
          have Hw9 := Lib.hid (Hw8.out.trans (hb.mono Hw8.out.size))
          clear hb
          go_wp2_with fail
          (with_reducible refine (drawPathOfBrackets A n cap _ (HC.out.carry Hw9.out)).mono ?_)
          rintro e w10 ⟨d, hd9, rfl, hb⟩
          have z10 := hb.size
          have Hw10 := Lib.hid (Hw9.out.trans (hb.mono Hw9.out.size))
          clear hb
          obtain ⟨p9, o9, x9, y9, f1, f2, f3, f4, f5, f6⟩ := pkLast d hd9
          have Hf1 := Lib.hid f1
          have Hf2 := Lib.hid f2
          have Hf3 := Lib.hid f3
          have Hf4 := Lib.hid f4
          have Hf5 := Lib.hid f5
          have Hf6 := Lib.hid f6
          have hp9 : (p9.toList == p9.toList) = true := by simp
          have ho9 : (o9 == o9) = true := by simp
          clear f1 f2 f3 f4 f5 f6 hd9
          go_wp2_with fail
          (with_reducible refine (Hf1.out.now _).mono ?_)
          rintro e w11 ⟨rfl, hb⟩
          have z11 := hb.size
          have Hw11 := Lib.hid (Hw10.out.trans (hb.mono Hw10.out.size))
          clear hb
          go_wp2_with fail
          (with_reducible refine (Hf2.out.now _).mono ?_)
          rintro e w12 ⟨rfl, hb⟩
          have z12 := hb.size
          have Hw12 := Lib.hid (Hw11.out.trans (hb.mono Hw11.out.size))
          clear hb
          go_wp2_with fail
          (with_reducible refine (Hf3.out.now _).mono ?_)
          rintro e w13 ⟨rfl, hb⟩
          have z13 := hb.size
          have Hw13 := Lib.hid (Hw12.out.trans (hb.mono Hw12.out.size))
          clear hb
          go_wp2_with fail
          (with_reducible refine (Hf4.out.now _).mono ?_)
          rintro e w14 ⟨rfl, hb⟩
          have z14 := hb.size
          have Hw14 := Lib.hid (Hw13.out.trans (hb.mono Hw13.out.size))
          clear hb
          go_wp2_with fail
          (with_reducible refine (Hf5.out.now _).mono ?_)
          rintro e w15 ⟨rfl, hb⟩
          have z15 := hb.size
          have Hw15 := Lib.hid (Hw14.out.trans (hb.mono Hw14.out.size))
          clear hb
          go_wp2_with fail
          (with_reducible refine (Hf6.out.now _).mono ?_)
          rintro e w16 ⟨rfl, hb⟩
          have z16 := hb.size
          have Hw16 := Lib.hid (Hw15.out.trans (hb.mono Hw15.out.size))
          clear hb
          go_wp2
          go_ret
          exact ⟨rfl, Hw16.out⟩
        · obtain ⟨fB, fN, fA⟩ := hone hd8
          rw [hd8] at fCI fCS
          have HfCI := Lib.hid fCI
          have HfCS := Lib.hid fCS
          have HfB := Lib.hid fB
          have HfN := Lib.hid fN
          have HfA := Lib.hid fA
          clear fCI fCS hone hd8 hw8 fB fN fA
          go_wp2_with fail
          (with_reducible refine (HfCI.out.now _).mono ?_)
          rintro e w8 ⟨rfl, hb⟩
          have z8 := hb.size
          have Hw8 := Lib.hid (Hw7.out.trans (hb.mono Hw7.out.size))
          clear hb
          go_wp2_with fail
          (with_reducible refine (HfCS.out.now _).mono ?_)
          rintro e w9 ⟨rfl, hb⟩
          have z9 := hb.size
          have Hw9 := Lib.hid (Hw8.out.trans (hb.mono Hw8.out.size))
          clear hb
          go_wp2_with fail
          (with_reducible refine (HfB.out.now _).mono ?_)
          rintro e w10 ⟨rfl, hb⟩
          have z10 := hb.size
          have Hw10 := Lib.hid (Hw9.out.trans (hb.mono Hw9.out.size))
          clear hb
          go_wp2_with fail
          (with_reducible refine (HfN.out.now _).mono ?_)
          rintro e w11 ⟨rfl, hb⟩
          have z11 := hb.size
          have Hw11 := Lib.hid (Hw10.out.trans (hb.mono Hw10.out.size))
          clear hb
          go_wp2_with fail
          (with_reducible refine (HfA.out.now _).mono ?_)
          rintro e w12 ⟨rfl, hb⟩
          have z12 := hb.size
          have Hw12 := Lib.hid (Hw11.out.trans (hb.mono Hw11.out.size))
          clear hb
          go_wp2_with fail
          (with_reducible refine (drawPathOfBrackets A n cap _ (HC.out.carry Hw12.out)).mono ?_)
          rintro e w13 ⟨d, hd9, rfl, hb⟩
          have z13 := hb.size
          have Hw13 := Lib.hid (Hw12.out.trans (hb.mono Hw12.out.size))
          clear hb
          obtain ⟨p9, o9, x9, y9, f1, f2, f3, f4, f5, f6⟩ := pkLast d hd9
          have Hf1 := Lib.hid f1
          have Hf2 := Lib.hid f2
          have Hf3 := Lib.hid f3
          have Hf4 := Lib.hid f4
          have Hf5 := Lib.hid f5
          have Hf6 := Lib.hid f6
          have hp9 : (p9.toList == p9.toList) = true := by simp
          have ho9 : (o9 == o9) = true := by simp
          clear f1 f2 f3 f4 f5 f6 hd9
          go_wp2_with fail
          (with_reducible refine (Hf1.out.now _).mono ?_)
          rintro e w14 ⟨rfl, hb⟩
          have z14 := hb.size
          have Hw14 := Lib.hid (Hw13.out.trans (hb.mono Hw13.out.size))
          clear hb
          go_wp2_with fail
          (with_reducible refine (Hf2.out.now _).mono ?_)
          rintro e w15 ⟨rfl, hb⟩
          have z15 := hb.size
          have Hw15 := Lib.hid (Hw14.out.trans (hb.mono Hw14.out.size))
          clear hb
          go_wp2_with fail
          (with_reducible refine (Hf3.out.now _).mono ?_)
          rintro e w16 ⟨rfl, hb⟩
          have z16 := hb.size
          have Hw16 := Lib.hid (Hw15.out.trans (hb.mono Hw15.out.size))
          clear hb
          go_wp2_with fail
          (with_reducible refine (Hf4.out.now _).mono ?_)
          rintro e w17 ⟨rfl, hb⟩
          have z17 := hb.size
          have Hw17 := Lib.hid (Hw16.out.trans (hb.mono Hw16.out.size))
          clear hb
          go_wp2_with fail
          (with_reducible refine (Hf5.out.now _).mono ?_)
          rintro e w18 ⟨rfl, hb⟩
          have z18 := hb.size
          have Hw18 := Lib.hid (Hw17.out.trans (hb.mono Hw17.out.size))
          clear hb
          go_wp2_with fail
          (with_reducible refine (Hf6.out.now _).mono ?_)
          rintro e w19 ⟨rfl, hb⟩
          have z19 := hb.size
          have Hw19 := Lib.hid (Hw18.out.trans (hb.mono Hw18.out.size))
          clear hb
          go_wp2
          go_ret
          exact ⟨rfl, Hw19.out⟩
  · have hpi : (p == i) = false := beq_eq_false_iff_ne.2 pne
    have HfBack := Lib.hid fBack
    clear fBack pne
    go_wp2_with fail
    (with_reducible refine (HfBack.out.now _).mono ?_)
    rintro e w4 ⟨rfl, hb⟩
    have z4 := hb.size
    have Hw4 := Lib.hid (Hw3.out.trans (hb.mono Hw3.out.size))
    clear hb
    go_wp2_with fail
    (with_reducible refine (drawShift A n cap _ (HC.out.carry Hw4.out)).mono ?_)
    rintro e w5 ⟨x, hx, rfl, hb⟩
    have z5 := hb.size
    have Hw5 := Lib.hid (Hw4.out.trans (hb.mono Hw4.out.size))
    clear hb
    obtain ⟨y, b, fXI, fXS, hcs⟩ := pkShift x hx
    have HfXI := Lib.hid fXI
    have HfXS := Lib.hid fXS
    have hyy : (y.toList != y.toList) = false := by simp
    have hxx : (x.toList != x.toList) = false := by simp
    clear fXI fXS
    rcases b with _ | _
    · clear hcs hx
      by_cases hx1 : (1 : Int) < (x.size : Int)
      · go_wp2_with fail
        (with_reducible refine (HfXI.out.now _).mono ?_)
        rintro e w6 ⟨rfl, hb⟩
        have z6 := hb.size
        have Hw6 := Lib.hid (Hw5.out.trans (hb.mono Hw5.out.size))
        clear hb
        go_wp2_with fail
        (with_reducible refine (HfXS.out.now _).mono ?_)
        rintro e w7 ⟨rfl, hb⟩
        have z7 := hb.size
        have Hw7 := Lib.hid (Hw6.out.trans (hb.mono Hw6.out.size))
        clear hb
        go_wp2
        refine wp_loop_rounds 1 ?_
        rw [rounds_succ]
        go_wp2_with fail
        (with_reducible refine (drawBrackets A n cap _ (HC.out.carry Hw7.out)).mono ?_)
        rintro e w8 ⟨w8, hw8, rfl, hb⟩
        have z8 := hb.size
        have Hw8 := Lib.hid (Hw7.out.trans (hb.mono Hw7.out.size))
        clear hb
        obtain ⟨c8, n8, fCI, fCS, hone⟩ := pkBrackets w8 hw8
        have hcc : (c8.toList != c8.toList) = false := by simp
        have hww : (w8.toList != w8.toList) = false := by simp
        have hnn : (n8 != n8) = false := by simp
        rcases hd8 : dyck w8 with _ | _
        · rw [hd8] at fCI fCS
          have HfCI := Lib.hid fCI
          have HfCS := Lib.hid fCS
          clear fCI fCS hone hd8 hw8
          go_wp2_with fail
          (with_reducible refine (HfCI.out.now _).mono ?_)
          rintro e w9 ⟨rfl, hb⟩
          have z9 := hb.size
          have Hw9 := Lib.hid (Hw8.out.trans (hb.mono Hw8.out.size))
          clear hb
          go_wp2_with fail
          (with_reducible refine (HfCS.out.now _).mono ?_)
          rintro e w10 ⟨rfl, hb⟩
          have z10 := hb.size
          have Hw10 := Lib.hid (Hw9.out.trans (hb.mono Hw9.out.size))
          clear hb
          go_wp2_with fail
          (with_reducible refine (drawPathOfBrackets A n cap _ (HC.out.carry Hw10.out)).mono ?_)
          rintro e w11 ⟨d, hd9, rfl, hb⟩
          have z11 := hb.size
          have Hw11 := Lib.hid (Hw10.out.trans (hb.mono Hw10.out.size))
          clear hb
          obtain ⟨p9, o9, x9, y9, f1, f2, f3, f4, f5, f6⟩ := pkLast d hd9
          have Hf1 := Lib.hid f1
          have Hf2 := Lib.hid f2
          have Hf3 := Lib.hid f3
          have Hf4 := Lib.hid f4
          have Hf5 := Lib.hid f5
          have Hf6 := Lib.hid f6
          have hp9 : (p9.toList == p9.toList) = true := by simp
          have ho9 : (o9 == o9) = true := by simp
          clear f1 f2 f3 f4 f5 f6 hd9
          go_wp2_with fail
          (with_reducible refine (Hf1.out.now _).mono ?_)
          rintro e w12 ⟨rfl, hb⟩
          have z12 := hb.size
          have Hw12 := Lib.hid (Hw11.out.trans (hb.mono Hw11.out.size))
          clear hb
          go_wp2_with fail
          (with_reducible refine (Hf2.out.now _).mono ?_)
          rintro e w13 ⟨rfl, hb⟩
          have z13 := hb.size
          have Hw13 := Lib.hid (Hw12.out.trans (hb.mono Hw12.out.size))
          clear hb
          go_wp2_with fail
          (with_reducible refine (Hf3.out.now _).mono ?_)
          rintro e w14 ⟨rfl, hb⟩
          have z14 := hb.size
          have Hw14 := Lib.hid (Hw13.out.trans (hb.mono Hw13.out.size))
          clear hb
          go_wp2_with fail
          (with_reducible refine (Hf4.out.now _).mono ?_)
          rintro e w15 ⟨rfl, hb⟩
          have z15 := hb.size
          have Hw15 := Lib.hid (Hw14.out.trans (hb.mono Hw14.out.size))
          clear hb
          go_wp2_with fail
          (with_reducible refine (Hf5.out.now _).mono ?_)
          rintro e w16 ⟨rfl, hb⟩
          have z16 := hb.size
          have Hw16 := Lib.hid (Hw15.out.trans (hb.mono Hw15.out.size))
          clear hb
          go_wp2_with fail
          (with_reducible refine (Hf6.out.now _).mono ?_)
          rintro e w17 ⟨rfl, hb⟩
          have z17 := hb.size
          have Hw17 := Lib.hid (Hw16.out.trans (hb.mono Hw16.out.size))
          clear hb
          go_wp2
          go_ret
          exact ⟨rfl, Hw17.out⟩
        · obtain ⟨fB, fN, fA⟩ := hone hd8
          rw [hd8] at fCI fCS
          have HfCI := Lib.hid fCI
          have HfCS := Lib.hid fCS
          have HfB := Lib.hid fB
          have HfN := Lib.hid fN
          have HfA := Lib.hid fA
          clear fCI fCS hone hd8 hw8 fB fN fA
          go_wp2_with fail
          (with_reducible refine (HfCI.out.now _).mono ?_)
          rintro e w9 ⟨rfl, hb⟩
          have z9 := hb.size
          have Hw9 := Lib.hid (Hw8.out.trans (hb.mono Hw8.out.size))
          clear hb
          go_wp2_with fail
          (with_reducible refine (HfCS.out.now _).mono ?_)
          rintro e w10 ⟨rfl, hb⟩
          have z10 := hb.size
          have Hw10 := Lib.hid (Hw9.out.trans (hb.mono Hw9.out.size))
          clear hb
          go_wp2_with fail
          (with_reducible refine (HfB.out.now _).mono ?_)
          rintro e w11 ⟨rfl, hb⟩
          have z11 := hb.size
          have Hw11 := Lib.hid (Hw10.out.trans (hb.mono Hw10.out.size))
          clear hb
          go_wp2_with fail
          (with_reducible refine (HfN.out.now _).mono ?_)
          rintro e w12 ⟨rfl, hb⟩
          have z12 := hb.size
          have Hw12 := Lib.hid (Hw11.out.trans (hb.mono Hw11.out.size))
          clear hb
          go_wp2_with fail
          (with_reducible refine (HfA.out.now _).mono ?_)
          rintro e w13 ⟨rfl, hb⟩
          have z13 := hb.size
          have Hw13 := Lib.hid (Hw12.out.trans (hb.mono Hw12.out.size))
          clear hb
          go_wp2_with fail
          (with_reducible refine (drawPathOfBrackets A n cap _ (HC.out.carry Hw13.out)).mono ?_)
          rintro e w14 ⟨d, hd9, rfl, hb⟩
          have z14 := hb.size
          have Hw14 := Lib.hid (Hw13.out.trans (hb.mono Hw13.out.size))
          clear hb
          obtain ⟨p9, o9, x9, y9, f1, f2, f3, f4, f5, f6⟩ := pkLast d hd9
          have Hf1 := Lib.hid f1
          have Hf2 := Lib.hid f2
          have Hf3 := Lib.hid f3
          have Hf4 := Lib.hid f4
          have Hf5 := Lib.hid f5
          have Hf6 := Lib.hid f6
          have hp9 : (p9.toList == p9.toList) = true := by simp
          have ho9 : (o9 == o9) = true := by simp
          clear f1 f2 f3 f4 f5 f6 hd9
          go_wp2_with fail
          (with_reducible refine (Hf1.out.now _).mono ?_)
          rintro e w15 ⟨rfl, hb⟩
          have z15 := hb.size
          have Hw15 := Lib.hid (Hw14.out.trans (hb.mono Hw14.out.size))
          clear hb
          go_wp2_with fail
          (with_reducible refine (Hf2.out.now _).mono ?_)
          rintro e w16 ⟨rfl, hb⟩
          have z16 := hb.size
          have Hw16 := Lib.hid (Hw15.out.trans (hb.mono Hw15.out.size))
          clear hb
          go_wp2_with fail
          (with_reducible refine (Hf3.out.now _).mono ?_)
          rintro e w17 ⟨rfl, hb⟩
          have z17 := hb.size
          have Hw17 := Lib.hid (Hw16.out.trans (hb.mono Hw16.out.size))
          clear hb
          go_wp2_with fail
          (with_reducible refine (Hf4.out.now _).mono ?_)
          rintro e w18 ⟨rfl, hb⟩
          have z18 := hb.size
          have Hw18 := Lib.hid (Hw17.out.trans (hb.mono Hw17.out.size))
          clear hb
          go_wp2_with fail
          (with_reducible refine (Hf5.out.now _).mono ?_)
          rintro e w19 ⟨rfl, hb⟩
          have z19 := hb.size
          have Hw19 := Lib.hid (Hw18.out.trans (hb.mono Hw18.out.size))
          clear hb
          go_wp2_with fail
          (with_reducible refine (Hf6.out.now _).mono ?_)
          rintro e w20 ⟨rfl, hb⟩
          have z20 := hb.size
          have Hw20 := Lib.hid (Hw19.out.trans (hb.mono Hw19.out.size))
          clear hb
          go_wp2
          go_ret
          exact ⟨rfl, Hw20.out⟩
      · go_wp2_with fail
        (with_reducible refine (HfXI.out.now _).mono ?_)
        rintro e w6 ⟨rfl, hb⟩
        have z6 := hb.size
        have Hw6 := Lib.hid (Hw5.out.trans (hb.mono Hw5.out.size))
        clear hb
        go_wp2_with fail
        (with_reducible refine (HfXS.out.now _).mono ?_)
        rintro e w7 ⟨rfl, hb⟩
        have z7 := hb.size
        have Hw7 := Lib.hid (Hw6.out.trans (hb.mono Hw6.out.size))
        clear hb
        go_wp2
        refine wp_loop_rounds 1 ?_
        rw [rounds_succ]
        go_wp2_with fail
        (with_reducible refine (drawBrackets A n cap _ (HC.out.carry Hw7.out)).mono ?_)
        rintro e w8 ⟨w8, hw8, rfl, hb⟩
        have z8 := hb.size
        have Hw8 := Lib.hid (Hw7.out.trans (hb.mono Hw7.out.size))
        clear hb
        obtain ⟨c8, n8, fCI, fCS, hone⟩ := pkBrackets w8 hw8
        have hcc : (c8.toList != c8.toList) = false := by simp
        have hww : (w8.toList != w8.toList) = false := by simp
        have hnn : (n8 != n8) = false := by simp
        rcases hd8 : dyck w8 with _ | _
        · rw [hd8] at fCI fCS
          have HfCI := Lib.hid fCI
          have HfCS := Lib.hid fCS
          clear fCI fCS hone hd8 hw8
          go_wp2_with fail
          (with_reducible refine (HfCI.out.now _).mono ?_)
          rintro e w9 ⟨rfl, hb⟩
          have z9 := hb.size
          have Hw9 := Lib.hid (Hw8.out.trans (hb.mono Hw8.out.size))
          clear hb
          go_wp2_with fail
          (with_reducible refine (HfCS.out.now _).mono ?_)
          rintro e w10 ⟨rfl, hb⟩
          have z10 := hb.size
          have Hw10 := Lib.hid (Hw9.out.trans (hb.mono Hw9.out.size))
          clear hb
          go_wp2_with fail
          (with_reducible refine (drawPathOfBrackets A n cap _ (HC.out.carry Hw10.out)).mono ?_)
          rintro e w11 ⟨d, hd9, rfl, hb⟩
          have z11 := hb.size
          have Hw11 := Lib.hid (Hw10.out.trans (hb.mono Hw10.out.size))
          clear hb
          obtain ⟨p9, o9, x9, y9, f1, f2, f3, f4, f5, f6⟩ := pkLast d hd9
          have Hf1 := Lib.hid f1
          have Hf2 := Lib.hid f2
          have Hf3 := Lib.hid f3
          have Hf4 := Lib.hid f4
          have Hf5 := Lib.hid f5
          have Hf6 := Lib.hid f6
          have hp9 : (p9.toList == p9.toList) = true := by simp
          have ho9 : (o9 == o9) = true := by simp
          clear f1 f2 f3 f4 f5 f6 hd9
          go_wp2_with fail
          (with_reducible refine (Hf1.out.now _).mono ?_)
          rintro e w12 ⟨rfl, hb⟩
          have z12 := hb.size
          have Hw12 := Lib.hid (Hw11.out.trans (hb.mono Hw11.out.size))
          clear hb
          go_wp2_with fail
          (with_reducible refine (Hf2.out.now _).mono ?_)
          rintro e w13 ⟨rfl, hb⟩
          have z13 := hb.size
          have Hw13 := Lib.hid (Hw12.out.trans (hb.mono Hw12.out.size))
          clear hb
          go_wp2_with fail
          (with_reducible refine (Hf3.out.now _).mono ?_)
          rintro e w14 ⟨rfl, hb⟩
          have z14 := hb.size
          have Hw14 := Lib.hid (Hw13.out.trans (hb.mono Hw13.out.size))
          clear hb
          go_wp2_with fail
          (with_reducible refine (Hf4.out.now _).mono ?_)
          rintro e w15 ⟨rfl, hb⟩
          have z15 := hb.size
          have Hw15 := Lib.hid (Hw14.out.trans (hb.mono Hw14.out.size))
          clear hb
          go_wp2_with fail
          (with_reducible refine (Hf5.out.now _).mono ?_)
          rintro e w16 ⟨rfl, hb⟩
          have z16 := hb.size
          have Hw16 := Lib.hid (Hw15.out.trans (hb.mono Hw15.out.size))
          clear hb
          go_wp2_with fail
          (with_reducible refine (Hf6.out.now _).mono ?_)
          rintro e w17 ⟨rfl, hb⟩
          have z17 := hb.size
          have Hw17 := Lib.hid (Hw16.out.trans (hb.mono Hw16.out.size))
          clear hb
          go_wp2
          go_ret
          exact ⟨rfl, Hw17.out⟩
        · obtain ⟨fB, fN, fA⟩ := hone hd8
          rw [hd8] at fCI fCS
          have HfCI := Lib.hid fCI
          have HfCS := Lib.hid fCS
          have HfB := Lib.hid fB
          have HfN := Lib.hid fN
          have HfA := Lib.hid fA
          clear fCI fCS hone hd8 hw8 fB fN fA
          go_wp2_with fail
          (with_reducible refine (HfCI.out.now _).mono ?_)
          rintro e w9 ⟨rfl, hb⟩
          have z9 := hb.size
          have Hw9 := Lib.hid (Hw8.out.trans (hb.mono Hw8.out.size))
          clear hb
          go_wp2_with fail
          (with_reducible refine (HfCS.out.now _).mono ?_)
          rintro e w10 ⟨rfl, hb⟩
          have z10 := hb.size
          have Hw10 := Lib.hid (Hw9.out.trans (hb.mono Hw9.out.size))
          clear hb
          go_wp2_with fail
          (with_reducible refine (HfB.out.now _).mono ?_)
          rintro e w11 ⟨rfl, hb⟩
          have z11 := hb.size
          have Hw11 := Lib.hid (Hw10.out.trans (hb.mono Hw10.out.size))
          clear hb
          go_wp2_with fail
          (with_reducible refine (HfN.out.now _).mono ?_)
          rintro e w12 ⟨rfl, hb⟩
          have z12 := hb.size
          have Hw12 := Lib.hid (Hw11.out.trans (hb.mono Hw11.out.size))
          clear hb
          go_wp2_with fail
          (with_reducible refine (HfA.out.now _).mono ?_)
          rintro e w13 ⟨rfl, hb⟩
          have z13 := hb.size
          have Hw13 := Lib.hid (Hw12.out.trans (hb.mono Hw12.out.size))
          clear hb
          go_wp2_with fail
          (with_reducible refine (drawPathOfBrackets A n cap _ (HC.out.carry Hw13.out)).mono ?_)
          rintro e w14 ⟨d, hd9, rfl, hb⟩
          have z14 := hb.size
          have Hw14 := Lib.hid (Hw13.out.trans (hb.mono Hw13.out.size))
          clear hb
          obtain ⟨p9, o9, x9, y9, f1, f2, f3, f4, f5, f6⟩ := pkLast d hd9
          have Hf1 := Lib.hid f1
          have Hf2 := Lib.hid f2
          have Hf3 := Lib.hid f3
          have Hf4 := Lib.hid f4
          have Hf5 := Lib.hid f5
          have Hf6 := Lib.hid f6
          have hp9 : (p9.toList == p9.toList) = true := by simp
          have ho9 : (o9 == o9) = true := by simp
          clear f1 f2 f3 f4 f5 f6 hd9
          go_wp2_with fail
          (with_reducible refine (Hf1.out.now _).mono ?_)
          rintro e w15 ⟨rfl, hb⟩
          have z15 := hb.size
          have Hw15 := Lib.hid (Hw14.out.trans (hb.mono Hw14.out.size))
          clear hb
          go_wp2_with fail
          (with_reducible refine (Hf2.out.now _).mono ?_)
          rintro e w16 ⟨rfl, hb⟩
          have z16 := hb.size
          have Hw16 := Lib.hid (Hw15.out.trans (hb.mono Hw15.out.size))
          clear hb
          go_wp2_with fail
          (with_reducible refine (Hf3.out.now _).mono ?_)
          rintro e w17 ⟨rfl, hb⟩
          have z17 := hb.size
          have Hw17 := Lib.hid (Hw16.out.trans (hb.mono Hw16.out.size))
          clear hb
          go_wp2_with fail
          (with_reducible refine (Hf4.out.now _).mono ?_)
          rintro e w18 ⟨rfl, hb⟩
          have z18 := hb.size
          have Hw18 := Lib.hid (Hw17.out.trans (hb.mono Hw17.out.size))
          clear hb
          go_wp2_with fail
          (with_reducible refine (Hf5.out.now _).mono ?_)
          rintro e w19 ⟨rfl, hb⟩
          have z19 := hb.size
          have Hw19 := Lib.hid (Hw18.out.trans (hb.mono Hw18.out.size))
          clear hb
          go_wp2_with fail
          (with_reducible refine (Hf6.out.now _).mono ?_)
          rintro e w20 ⟨rfl, hb⟩
          have z20 := hb.size
          have Hw20 := Lib.hid (Hw19.out.trans (hb.mono Hw19.out.size))
          clear hb
          go_wp2
          go_ret
          exact ⟨rfl, Hw20.out⟩
    · by_cases h0 : 0 < x.size
      · have hx12 : x.size ≤ 12 := hx
        obtain ⟨hye, hg⟩ := hcs rfl h0
        obtain ⟨w9, v9, ms, ys, b1, b2, b3, ⟨k0, hk0, hall⟩, hml, hyl, fP, fM, fT, fO, fB⟩ := pkRound x hx hg h0
        rw [← hye] at hall fB
        have h0i : (0 : Int) < (x.size : Int) := by omega
        have HALL := Lib.hid hall
        have HK0 := Lib.hid hk0
        have HfP := Lib.hid fP
        have HfM := Lib.hid fM
        have HfT := Lib.hid fT
        have HfO := Lib.hid fO
        have HfB := Lib.hid fB
        clear hcs hx hye hg hall hk0 fP fM fT fO fB
        go_wp2_with fail
        (with_reducible refine (HfXI.out.now _).mono ?_)
        rintro e w6 ⟨rfl, hb⟩
        have z6 := hb.size
        have Hw6 := Lib.hid (Hw5.out.trans (hb.mono Hw5.out.size))
        clear hb
        go_wp2_with fail
        (with_reducible refine (HfXS.out.now _).mono ?_)
        rintro e w7 ⟨rfl, hb⟩
        have z7 := hb.size
        have Hw7 := Lib.hid (Hw6.out.trans (hb.mono Hw6.out.size))
        clear hb
        go_wp2
        go_loopw [7, 8, 11] (fun Y Z K wr => ∃ (k j : Nat) (u : ByteArray), K = .int .i64 k ∧ Y = .string u ∧ Z = .bool true ∧ k + j = x.size ∧ 1 ≤ k ∧ shAll x j u = true ∧ Below w7.heap.size w7 wr) (fun _ _ K _ => x.size - (intOf K).toNat)
        case atStart => exact ⟨1, k0, y, rfl, rfl, rfl, by have := HK0.out; omega, by omega, HALL.out, Below.refl _ _⟩
        case round =>
          obtain ⟨k, j, u, rfl, rfl, rfl, hkj, hk1, hsh, hb⟩ := hrel
          have HBL := Lib.hid hb
          have zL := hb.size
          have HKJ := Lib.hid hkj
          have hk12 : k ≤ 12 := by omega
          clear hb hkj
          rcases j with _ | j
          · have hux : u = x := str_of_list (by simpa [shAll] using hsh)
            rw [hux]
            obtain rfl : k = x.size := by have := HKJ.out; omega
            clear hsh hux
            have HwL := Lib.hid (Hw7.out.trans (HBL.out.mono Hw7.out.size))
            have zW := HBL.out.size
            clear HBL
            go_wp2_with fail
            (with_reducible refine (HfP.out.now _).mono ?_)
            rintro e w8 ⟨rfl, hb⟩
            have z8 := hb.size
            have Hw8 := Lib.hid (HwL.out.trans (hb.mono HwL.out.size))
            clear hb
            go_wp2_with fail
            (with_reducible refine (HfM.out _).mono ?_)
            rintro e w9 ⟨v9, rfl, ho, hb⟩
            have z9 := hb.size
            obtain ⟨A9, c9, rfl, -⟩ := id ho
            have HQ9 := Lib.hid ho
            have Hw9 := Lib.hid (Hw8.out.trans (hb.mono Hw8.out.size))
            clear hb ho
            go_wp2_with fail
            (with_reducible refine (HfT.out _ _ _ _ HQ9.out (Nat.le_refl _)).mono ?_)
            rintro e w10 ⟨v10, rfl, ho, hb⟩
            have z10 := hb.size
            obtain ⟨A10, c10, rfl, -⟩ := id ho
            have HQ10 := Lib.hid ho
            have Hw10 := Lib.hid (Hw9.out.trans (hb.mono Hw9.out.size))
            clear hb ho
            go_wp2_with fail
            (with_reducible refine (HfO.out _ _ _ _ HQ10.out (Nat.le_refl _)).mono ?_)
            rintro e w11 ⟨rfl, hb⟩
            have z11 := hb.size
            have Hw11 := Lib.hid (Hw10.out.trans (hb.mono Hw10.out.size))
            clear hb
            go_wp2_with fail
            (with_reducible refine (HfB.out.now _).mono ?_)
            rintro e w12 ⟨rfl, hb⟩
            have z12 := hb.size
            have Hw12 := Lib.hid (Hw11.out.trans (hb.mono Hw11.out.size))
            clear hb
            go_wp2_with fail
            (with_reducible refine (drawBrackets A n cap _ (HC.out.carry Hw12.out)).mono ?_)
            rintro e w13 ⟨w8, hw8, rfl, hb⟩
            have z13 := hb.size
            have Hw13 := Lib.hid (Hw12.out.trans (hb.mono Hw12.out.size))
            clear hb
            obtain ⟨c8, n8, fCI, fCS, hone⟩ := pkBrackets w8 hw8
            have hcc : (c8.toList != c8.toList) = false := by simp
            have hww : (w8.toList != w8.toList) = false := by simp
            have hnn : (n8 != n8) = false := by simp
            rcases hd8 : dyck w8 with _ | _
            · rw [hd8] at fCI fCS
              have HfCI := Lib.hid fCI
              have HfCS := Lib.hid fCS
              clear fCI fCS hone hd8 hw8
              go_wp2_with fail
              (with_reducible refine (HfCI.out.now _).mono ?_)
              rintro e w14 ⟨rfl, hb⟩
              have z14 := hb.size
              have Hw14 := Lib.hid (Hw13.out.trans (hb.mono Hw13.out.size))
              clear hb
              go_wp2_with fail
              (with_reducible refine (HfCS.out.now _).mono ?_)
              rintro e w15 ⟨rfl, hb⟩
              have z15 := hb.size
              have Hw15 := Lib.hid (Hw14.out.trans (hb.mono Hw14.out.size))
              clear hb
              go_wp2_with fail
              (with_reducible refine (drawPathOfBrackets A n cap _ (HC.out.carry Hw15.out)).mono ?_)
              rintro e w16 ⟨d, hd9, rfl, hb⟩
              have z16 := hb.size
              have Hw16 := Lib.hid (Hw15.out.trans (hb.mono Hw15.out.size))
              clear hb
              obtain ⟨p9, o9, x9, y9, f1, f2, f3, f4, f5, f6⟩ := pkLast d hd9
              have Hf1 := Lib.hid f1
              have Hf2 := Lib.hid f2
              have Hf3 := Lib.hid f3
              have Hf4 := Lib.hid f4
              have Hf5 := Lib.hid f5
              have Hf6 := Lib.hid f6
              have hp9 : (p9.toList == p9.toList) = true := by simp
              have ho9 : (o9 == o9) = true := by simp
              clear f1 f2 f3 f4 f5 f6 hd9
              go_wp2_with fail
              (with_reducible refine (Hf1.out.now _).mono ?_)
              rintro e w17 ⟨rfl, hb⟩
              have z17 := hb.size
              have Hw17 := Lib.hid (Hw16.out.trans (hb.mono Hw16.out.size))
              clear hb
              go_wp2_with fail
              (with_reducible refine (Hf2.out.now _).mono ?_)
              rintro e w18 ⟨rfl, hb⟩
              have z18 := hb.size
              have Hw18 := Lib.hid (Hw17.out.trans (hb.mono Hw17.out.size))
              clear hb
              go_wp2_with fail
              (with_reducible refine (Hf3.out.now _).mono ?_)
              rintro e w19 ⟨rfl, hb⟩
              have z19 := hb.size
              have Hw19 := Lib.hid (Hw18.out.trans (hb.mono Hw18.out.size))
              clear hb
              go_wp2_with fail
              (with_reducible refine (Hf4.out.now _).mono ?_)
              rintro e w20 ⟨rfl, hb⟩
              have z20 := hb.size
              have Hw20 := Lib.hid (Hw19.out.trans (hb.mono Hw19.out.size))
              clear hb
              go_wp2_with fail
              (with_reducible refine (Hf5.out.now _).mono ?_)
              rintro e w21 ⟨rfl, hb⟩
              have z21 := hb.size
              have Hw21 := Lib.hid (Hw20.out.trans (hb.mono Hw20.out.size))
              clear hb
              go_wp2_with fail
              (with_reducible refine (Hf6.out.now _).mono ?_)
              rintro e w22 ⟨rfl, hb⟩
              have z22 := hb.size
              have Hw22 := Lib.hid (Hw21.out.trans (hb.mono Hw21.out.size))
              clear hb
              go_wp2
              go_ret
              exact ⟨rfl, Hw22.out⟩
            · obtain ⟨fB, fN, fA⟩ := hone hd8
              rw [hd8] at fCI fCS
              have HfCI := Lib.hid fCI
              have HfCS := Lib.hid fCS
              have HfB := Lib.hid fB
              have HfN := Lib.hid fN
              have HfA := Lib.hid fA
              clear fCI fCS hone hd8 hw8 fB fN fA
              go_wp2_with fail
              (with_reducible refine (HfCI.out.now _).mono ?_)
              rintro e w14 ⟨rfl, hb⟩
              have z14 := hb.size
              have Hw14 := Lib.hid (Hw13.out.trans (hb.mono Hw13.out.size))
              clear hb
              go_wp2_with fail
              (with_reducible refine (HfCS.out.now _).mono ?_)
              rintro e w15 ⟨rfl, hb⟩
              have z15 := hb.size
              have Hw15 := Lib.hid (Hw14.out.trans (hb.mono Hw14.out.size))
              clear hb
              go_wp2_with fail
              (with_reducible refine (HfB.out.now _).mono ?_)
              rintro e w16 ⟨rfl, hb⟩
              have z16 := hb.size
              have Hw16 := Lib.hid (Hw15.out.trans (hb.mono Hw15.out.size))
              clear hb
              go_wp2_with fail
              (with_reducible refine (HfN.out.now _).mono ?_)
              rintro e w17 ⟨rfl, hb⟩
              have z17 := hb.size
              have Hw17 := Lib.hid (Hw16.out.trans (hb.mono Hw16.out.size))
              clear hb
              go_wp2_with fail
              (with_reducible refine (HfA.out.now _).mono ?_)
              rintro e w18 ⟨rfl, hb⟩
              have z18 := hb.size
              have Hw18 := Lib.hid (Hw17.out.trans (hb.mono Hw17.out.size))
              clear hb
              go_wp2_with fail
              (with_reducible refine (drawPathOfBrackets A n cap _ (HC.out.carry Hw18.out)).mono ?_)
              rintro e w19 ⟨d, hd9, rfl, hb⟩
              have z19 := hb.size
              have Hw19 := Lib.hid (Hw18.out.trans (hb.mono Hw18.out.size))
              clear hb
              obtain ⟨p9, o9, x9, y9, f1, f2, f3, f4, f5, f6⟩ := pkLast d hd9
              have Hf1 := Lib.hid f1
              have Hf2 := Lib.hid f2
              have Hf3 := Lib.hid f3
              have Hf4 := Lib.hid f4
              have Hf5 := Lib.hid f5
              have Hf6 := Lib.hid f6
              have hp9 : (p9.toList == p9.toList) = true := by simp
              have ho9 : (o9 == o9) = true := by simp
              clear f1 f2 f3 f4 f5 f6 hd9
              go_wp2_with fail
              (with_reducible refine (Hf1.out.now _).mono ?_)
              rintro e w20 ⟨rfl, hb⟩
              have z20 := hb.size
              have Hw20 := Lib.hid (Hw19.out.trans (hb.mono Hw19.out.size))
              clear hb
              go_wp2_with fail
              (with_reducible refine (Hf2.out.now _).mono ?_)
              rintro e w21 ⟨rfl, hb⟩
              have z21 := hb.size
              have Hw21 := Lib.hid (Hw20.out.trans (hb.mono Hw20.out.size))
              clear hb
              go_wp2_with fail
              (with_reducible refine (Hf3.out.now _).mono ?_)
              rintro e w22 ⟨rfl, hb⟩
              have z22 := hb.size
              have Hw22 := Lib.hid (Hw21.out.trans (hb.mono Hw21.out.size))
              clear hb
              go_wp2_with fail
              (with_reducible refine (Hf4.out.now _).mono ?_)
              rintro e w23 ⟨rfl, hb⟩
              have z23 := hb.size
              have Hw23 := Lib.hid (Hw22.out.trans (hb.mono Hw22.out.size))
              clear hb
              go_wp2_with fail
              (with_reducible refine (Hf5.out.now _).mono ?_)
              rintro e w24 ⟨rfl, hb⟩
              have z24 := hb.size
              have Hw24 := Lib.hid (Hw23.out.trans (hb.mono Hw23.out.size))
              clear hb
              go_wp2_with fail
              (with_reducible refine (Hf6.out.now _).mono ?_)
              rintro e w25 ⟨rfl, hb⟩
              have z25 := hb.size
              have Hw25 := Lib.hid (Hw24.out.trans (hb.mono Hw24.out.size))
              clear hb
              go_wp2
              go_ret
              exact ⟨rfl, Hw25.out⟩
          · rw [shAll, Bool.and_eq_true] at hsh
            obtain ⟨hgood, hnext⟩ := hsh
            have HST := Lib.hid (pkStep hgood)
            have HN := Lib.hid hnext
            have hkx : (k : Int) < (x.size : Int) := by have := HKJ.out; omega
            clear hgood hnext
            generalize shOne u = u2 at *
            go_wp2_with fail
            (with_reducible refine (HST.out.now _).mono ?_)
            rintro e w' ⟨rfl, hb⟩
            go_wp2
            exact ⟨⟨k + 1, j, u2, by simp, rfl, rfl, by have := HKJ.out; omega, by omega, HN.out, HBL.out.trans (hb.mono zL)⟩, by simp [intOf]; omega⟩
      · have hx0 : x.size = 0 := by omega
        have hx1 : ¬ (1 : Int) < (x.size : Int) := by omega
        have hx2 : ¬ (0 : Int) < (x.size : Int) := by omega
        clear hcs hx h0
        go_wp2_with fail
        (with_reducible refine (HfXI.out.now _).mono ?_)
        rintro e w6 ⟨rfl, hb⟩
        have z6 := hb.size
        have Hw6 := Lib.hid (Hw5.out.trans (hb.mono Hw5.out.size))
        clear hb
        go_wp2_with fail
        (with_reducible refine (HfXS.out.now _).mono ?_)
        rintro e w7 ⟨rfl, hb⟩
        have z7 := hb.size
        have Hw7 := Lib.hid (Hw6.out.trans (hb.mono Hw6.out.size))
        clear hb
        go_wp2
        refine wp_loop_rounds 1 ?_
        rw [rounds_succ]
        go_wp2_with fail
        (with_reducible refine (drawBrackets A n cap _ (HC.out.carry Hw7.out)).mono ?_)
        rintro e w8 ⟨w8, hw8, rfl, hb⟩
        have z8 := hb.size
        have Hw8 := Lib.hid (Hw7.out.trans (hb.mono Hw7.out.size))
        clear hb
        obtain ⟨c8, n8, fCI, fCS, hone⟩ := pkBrackets w8 hw8
        have hcc : (c8.toList != c8.toList) = false := by simp
        have hww : (w8.toList != w8.toList) = false := by simp
        have hnn : (n8 != n8) = false := by simp
        rcases hd8 : dyck w8 with _ | _
        · rw [hd8] at fCI fCS
          have HfCI := Lib.hid fCI
          have HfCS := Lib.hid fCS
          clear fCI fCS hone hd8 hw8
          go_wp2_with fail
          (with_reducible refine (HfCI.out.now _).mono ?_)
          rintro e w9 ⟨rfl, hb⟩
          have z9 := hb.size
          have Hw9 := Lib.hid (Hw8.out.trans (hb.mono Hw8.out.size))
          clear hb
          go_wp2_with fail
          (with_reducible refine (HfCS.out.now _).mono ?_)
          rintro e w10 ⟨rfl, hb⟩
          have z10 := hb.size
          have Hw10 := Lib.hid (Hw9.out.trans (hb.mono Hw9.out.size))
          clear hb
          go_wp2_with fail
          (with_reducible refine (drawPathOfBrackets A n cap _ (HC.out.carry Hw10.out)).mono ?_)
          rintro e w11 ⟨d, hd9, rfl, hb⟩
          have z11 := hb.size
          have Hw11 := Lib.hid (Hw10.out.trans (hb.mono Hw10.out.size))
          clear hb
          obtain ⟨p9, o9, x9, y9, f1, f2, f3, f4, f5, f6⟩ := pkLast d hd9
          have Hf1 := Lib.hid f1
          have Hf2 := Lib.hid f2
          have Hf3 := Lib.hid f3
          have Hf4 := Lib.hid f4
          have Hf5 := Lib.hid f5
          have Hf6 := Lib.hid f6
          have hp9 : (p9.toList == p9.toList) = true := by simp
          have ho9 : (o9 == o9) = true := by simp
          clear f1 f2 f3 f4 f5 f6 hd9
          go_wp2_with fail
          (with_reducible refine (Hf1.out.now _).mono ?_)
          rintro e w12 ⟨rfl, hb⟩
          have z12 := hb.size
          have Hw12 := Lib.hid (Hw11.out.trans (hb.mono Hw11.out.size))
          clear hb
          go_wp2_with fail
          (with_reducible refine (Hf2.out.now _).mono ?_)
          rintro e w13 ⟨rfl, hb⟩
          have z13 := hb.size
          have Hw13 := Lib.hid (Hw12.out.trans (hb.mono Hw12.out.size))
          clear hb
          go_wp2_with fail
          (with_reducible refine (Hf3.out.now _).mono ?_)
          rintro e w14 ⟨rfl, hb⟩
          have z14 := hb.size
          have Hw14 := Lib.hid (Hw13.out.trans (hb.mono Hw13.out.size))
          clear hb
          go_wp2_with fail
          (with_reducible refine (Hf4.out.now _).mono ?_)
          rintro e w15 ⟨rfl, hb⟩
          have z15 := hb.size
          have Hw15 := Lib.hid (Hw14.out.trans (hb.mono Hw14.out.size))
          clear hb
          go_wp2_with fail
          (with_reducible refine (Hf5.out.now _).mono ?_)
          rintro e w16 ⟨rfl, hb⟩
          have z16 := hb.size
          have Hw16 := Lib.hid (Hw15.out.trans (hb.mono Hw15.out.size))
          clear hb
          go_wp2_with fail
          (with_reducible refine (Hf6.out.now _).mono ?_)
          rintro e w17 ⟨rfl, hb⟩
          have z17 := hb.size
          have Hw17 := Lib.hid (Hw16.out.trans (hb.mono Hw16.out.size))
          clear hb
          go_wp2
          go_ret
          exact ⟨rfl, Hw17.out⟩
        · obtain ⟨fB, fN, fA⟩ := hone hd8
          rw [hd8] at fCI fCS
          have HfCI := Lib.hid fCI
          have HfCS := Lib.hid fCS
          have HfB := Lib.hid fB
          have HfN := Lib.hid fN
          have HfA := Lib.hid fA
          clear fCI fCS hone hd8 hw8 fB fN fA
          go_wp2_with fail
          (with_reducible refine (HfCI.out.now _).mono ?_)
          rintro e w9 ⟨rfl, hb⟩
          have z9 := hb.size
          have Hw9 := Lib.hid (Hw8.out.trans (hb.mono Hw8.out.size))
          clear hb
          go_wp2_with fail
          (with_reducible refine (HfCS.out.now _).mono ?_)
          rintro e w10 ⟨rfl, hb⟩
          have z10 := hb.size
          have Hw10 := Lib.hid (Hw9.out.trans (hb.mono Hw9.out.size))
          clear hb
          go_wp2_with fail
          (with_reducible refine (HfB.out.now _).mono ?_)
          rintro e w11 ⟨rfl, hb⟩
          have z11 := hb.size
          have Hw11 := Lib.hid (Hw10.out.trans (hb.mono Hw10.out.size))
          clear hb
          go_wp2_with fail
          (with_reducible refine (HfN.out.now _).mono ?_)
          rintro e w12 ⟨rfl, hb⟩
          have z12 := hb.size
          have Hw12 := Lib.hid (Hw11.out.trans (hb.mono Hw11.out.size))
          clear hb
          go_wp2_with fail
          (with_reducible refine (HfA.out.now _).mono ?_)
          rintro e w13 ⟨rfl, hb⟩
          have z13 := hb.size
          have Hw13 := Lib.hid (Hw12.out.trans (hb.mono Hw12.out.size))
          clear hb
          go_wp2_with fail
          (with_reducible refine (drawPathOfBrackets A n cap _ (HC.out.carry Hw13.out)).mono ?_)
          rintro e w14 ⟨d, hd9, rfl, hb⟩
          have z14 := hb.size
          have Hw14 := Lib.hid (Hw13.out.trans (hb.mono Hw13.out.size))
          clear hb
          obtain ⟨p9, o9, x9, y9, f1, f2, f3, f4, f5, f6⟩ := pkLast d hd9
          have Hf1 := Lib.hid f1
          have Hf2 := Lib.hid f2
          have Hf3 := Lib.hid f3
          have Hf4 := Lib.hid f4
          have Hf5 := Lib.hid f5
          have Hf6 := Lib.hid f6
          have hp9 : (p9.toList == p9.toList) = true := by simp
          have ho9 : (o9 == o9) = true := by simp
          clear f1 f2 f3 f4 f5 f6 hd9
          go_wp2_with fail
          (with_reducible refine (Hf1.out.now _).mono ?_)
          rintro e w15 ⟨rfl, hb⟩
          have z15 := hb.size
          have Hw15 := Lib.hid (Hw14.out.trans (hb.mono Hw14.out.size))
          clear hb
          go_wp2_with fail
          (with_reducible refine (Hf2.out.now _).mono ?_)
          rintro e w16 ⟨rfl, hb⟩
          have z16 := hb.size
          have Hw16 := Lib.hid (Hw15.out.trans (hb.mono Hw15.out.size))
          clear hb
          go_wp2_with fail
          (with_reducible refine (Hf3.out.now _).mono ?_)
          rintro e w17 ⟨rfl, hb⟩
          have z17 := hb.size
          have Hw17 := Lib.hid (Hw16.out.trans (hb.mono Hw16.out.size))
          clear hb
          go_wp2_with fail
          (with_reducible refine (Hf4.out.now _).mono ?_)
          rintro e w18 ⟨rfl, hb⟩
          have z18 := hb.size
          have Hw18 := Lib.hid (Hw17.out.trans (hb.mono Hw17.out.size))
          clear hb
          go_wp2_with fail
          (with_reducible refine (Hf5.out.now _).mono ?_)
          rintro e w19 ⟨rfl, hb⟩
          have z19 := hb.size
          have Hw19 := Lib.hid (Hw18.out.trans (hb.mono Hw18.out.size))
          clear hb
          go_wp2_with fail
          (with_reducible refine (Hf6.out.now _).mono ?_)
          rintro e w20 ⟨rfl, hb⟩
          have z20 := hb.size
          have Hw20 := Lib.hid (Hw19.out.trans (hb.mono Hw19.out.size))
          clear hb
          go_wp2
          go_ret
          exact ⟨rfl, Hw20.out⟩

end Go.Proofs.YtdnkddmnijckhaaGreat
