/- The walk of the law FnCycles: one contract a call (written by tools/gen28w.py). -/
import Derived.Test.YtfkkjdggmlggbaaCyc28
import Derived.Test.YtfkkjdggmlggbaaDraw28
import Derived.Test.YtfkkjdggmlggbaaImpl28B
import Derived.Test.YtfkkjdggmlggbaaImpl2A
namespace Go.Proofs.Ytfkkjdggmlggbaa
open Go.ChangeShapes Go.WideShapes Go.ChangeAt Go.RowKit
set_option linter.unusedVariables false

theorem Code.carry {w w' : World} {A : Option Addr} {n : Nat} (h : Code w w.heap.size A n) (hb : Below w.heap.size w w') : Code w' w'.heap.size A n := by
  have h1 := h.keep hb.block
  refine ⟨h1.1, fun j hj => ?_⟩
  obtain ⟨b, off, z, e1, e2, e3⟩ := h1.2 j hj
  exact ⟨b, off, z, e1, Nat.lt_of_lt_of_le e2 hb.size, e3⟩

set_option maxRecDepth 100000 in
set_option maxHeartbeats 6400000 in
theorem cycles_walk (A : Option Addr) (n cap : Nat) (w : World) (hc : n ≤ 1048576 → Code w w.heap.size A n) :
    Calls Try.prog 3 #[.slice A n cap] w fun e w' => e = .returned (.bool true) ∧ Below w.heap.size w w' := by
  by_cases hbig : 1048576 < n
  · have hd : decide (1048576 < n) = true := by simpa using hbig
    clear hc
    go_enter Try.func3, Try.ntmps3
    go_wp2_with fail
    (with_reducible refine (bigC A n cap _).mono ?_)
    rintro e w1 ⟨rfl, rfl⟩
    go_wp2
    go_ret
    exact ⟨rfl, Below.refl _ _⟩
  have hdn : decide (1048576 < n) = false := by simpa using hbig
  have HC := Lib.hid (hc (by omega))
  clear hc hbig
  go_enter Try.func3, Try.ntmps3
  go_wp2_with fail
  (with_reducible refine (bigC A n cap _).mono ?_)
  rintro e w0 ⟨rfl, rfl⟩
  go_wp2_with fail
  (with_reducible refine (drawGoodShift A n cap _ HC.out).mono ?_)
  rintro e w1 ⟨s, hs, rfl, hb⟩
  have hs20 : s.size ≤ 20 := hs
  have Hw1 := Lib.hid hb
  clear hb hs
  have F1 := Lib.hid (fun W => goodShiftI s W (by omega))
  have F2 := Lib.hid (fun W => goodShift s W (by omega))
  have F3 := Lib.hid (fun W => dyckOfCircleI s W (by omega))
  have F4 := Lib.hid (fun W => dyckOfCircle s W (by omega))
  have F5 := Lib.hid (fun W => isBalancedI s W (by omega))
  have F6 := Lib.hid (fun W => isBalanced s W (by omega))
  have F7 := Lib.hid (fun W => countGoodShiftsI s W (by omega))
  have F8 := Lib.hid (fun W => countGoodShifts s W (by omega))
  rcases hd : balB s with _ | _
  · have hcg : cgP s = -1 := by unfold cgP; rw [hd]; rfl
    rw [hd] at F1 F2 F3 F4 F5 F6
    rw [hcg] at F7 F8
    generalize gsP s = g at *
    have hgg : (g != g) = false := by simp
    generalize dcP s = y at *
    have hyy : (y.toList != y.toList) = false := by simp
    clear hd hcg
    go_wp2_with fail
    (with_reducible refine (F1.out _).mono ?_)
    rintro e w2 ⟨rfl, hb⟩
    have Hw2 := Lib.hid (Hw1.out.trans (hb.mono Hw1.out.size))
    clear hb
    go_wp2_with fail
    (with_reducible refine (F2.out _).mono ?_)
    rintro e w3 ⟨rfl, hb⟩
    have Hw3 := Lib.hid (Hw2.out.trans (hb.mono Hw2.out.size))
    clear hb
    go_wp2_with fail
    (with_reducible refine (F3.out _).mono ?_)
    rintro e w4 ⟨rfl, hb⟩
    have Hw4 := Lib.hid (Hw3.out.trans (hb.mono Hw3.out.size))
    clear hb
    go_wp2_with fail
    (with_reducible refine (F4.out _).mono ?_)
    rintro e w5 ⟨rfl, hb⟩
    have Hw5 := Lib.hid (Hw4.out.trans (hb.mono Hw4.out.size))
    clear hb
    go_wp2_with fail
    (with_reducible refine (F5.out _).mono ?_)
    rintro e w6 ⟨rfl, hb⟩
    have Hw6 := Lib.hid (Hw5.out.trans (hb.mono Hw5.out.size))
    clear hb
    go_wp2_with fail
    (with_reducible refine (F5.out _).mono ?_)
    rintro e w7 ⟨rfl, hb⟩
    have Hw7 := Lib.hid (Hw6.out.trans (hb.mono Hw6.out.size))
    clear hb
    go_wp2_with fail
    (with_reducible refine (F6.out _).mono ?_)
    rintro e w' ⟨rfl, rfl⟩
    go_wp2_with fail
    (with_reducible refine (F7.out _).mono ?_)
    rintro e w8 ⟨rfl, hb⟩
    have Hw8 := Lib.hid (Hw7.out.trans (hb.mono Hw7.out.size))
    clear hb
    go_wp2_with fail
    (with_reducible refine (F8.out _).mono ?_)
    rintro e w9 ⟨rfl, hb⟩
    have Hw9 := Lib.hid (Hw8.out.trans (hb.mono Hw8.out.size))
    clear hb
    have HC2 := Lib.hid (HC.out.carry Hw9.out)
    go_wp2_with fail
    (with_reducible refine (drawShiftWord A n cap _ HC2.out).mono ?_)
    rintro e w10 ⟨a, b, ha, b0, b1, rfl, hb⟩
    have ha20 : a.size ≤ 20 := ha
    have Hw10 := Lib.hid (Hw9.out.trans (hb.mono Hw9.out.size))
    clear hb ha
    have F11 := Lib.hid (fun W => shiftWordI a b W (by omega))
    have F12 := Lib.hid (fun W => shiftWord a b W (by omega))
    generalize swP a b = c at *
    generalize swOk a b = o3 at *
    have hcc : (c.toList == c.toList) = true := by simp
    have ho3 : (o3 == o3) = true := by simp
    go_wp2_with fail
    (with_reducible refine (F11.out _).mono ?_)
    rintro e w11 ⟨rfl, hb⟩
    have Hw11 := Lib.hid (Hw10.out.trans (hb.mono Hw10.out.size))
    clear hb
    go_wp2_with fail
    (with_reducible refine (F12.out _).mono ?_)
    rintro e w12 ⟨rfl, hb⟩
    have Hw12 := Lib.hid (Hw11.out.trans (hb.mono Hw11.out.size))
    clear hb
    have HC3 := Lib.hid (HC.out.carry Hw12.out)
    go_wp2_with fail
    (with_reducible refine (drawCircleOf A n cap _ HC3.out).mono ?_)
    rintro e w13 ⟨p, q, hp, q0, q1, rfl, hb⟩
    have hp20 : p.size ≤ 20 := hp
    have Hw13 := Lib.hid (Hw12.out.trans (hb.mono Hw12.out.size))
    clear hb hp
    have F13 := Lib.hid (fun W => circleOfI p q W (by omega))
    have F14 := Lib.hid (fun W => circleOf p q W (by omega))
    have F15 := Lib.hid (fun (h : coOk p q = true) W => isBalancedI (coP p q) W (by have := (bal_parts (co_bal h)).2.2; omega))
    rcases ho5 : coOk p q with _ | _
    · rw [ho5] at F13 F14
      clear ho5 F15
      generalize coP p q = h2 at *
      have hh2 : (h2.toList == h2.toList) = true := by simp
      go_wp2_with fail
      (with_reducible refine (F13.out _).mono ?_)
      rintro e w14 ⟨rfl, hb⟩
      have Hw14 := Lib.hid (Hw13.out.trans (hb.mono Hw13.out.size))
      clear hb
      go_wp2_with fail
      (with_reducible refine (F14.out _).mono ?_)
      rintro e w15 ⟨rfl, hb⟩
      have Hw15 := Lib.hid (Hw14.out.trans (hb.mono Hw14.out.size))
      clear hb
      go_wp2
      go_ret
      exact ⟨rfl, Hw15.out⟩
    · have F16 := Lib.hid (F15.out ho5)
      rw [co_bal ho5] at F16
      rw [ho5] at F13 F14
      clear ho5 F15
      generalize coP p q = h2 at *
      have hh2 : (h2.toList == h2.toList) = true := by simp
      go_wp2_with fail
      (with_reducible refine (F13.out _).mono ?_)
      rintro e w14 ⟨rfl, hb⟩
      have Hw14 := Lib.hid (Hw13.out.trans (hb.mono Hw13.out.size))
      clear hb
      go_wp2_with fail
      (with_reducible refine (F14.out _).mono ?_)
      rintro e w15 ⟨rfl, hb⟩
      have Hw15 := Lib.hid (Hw14.out.trans (hb.mono Hw14.out.size))
      clear hb
      go_wp2_with fail
      (with_reducible refine (F16.out _).mono ?_)
      rintro e w16 ⟨rfl, hb⟩
      have Hw16 := Lib.hid (Hw15.out.trans (hb.mono Hw15.out.size))
      clear hb
      go_wp2
      go_ret
      exact ⟨rfl, Hw16.out⟩
  · obtain ⟨hcg, k, hk, hgk, -⟩ := cg_one hd
    obtain ⟨y1, y2, y3⟩ := co_back hd
    have hsz := bal_size hd
    rw [hgk] at y2 y3
    obtain ⟨r, hr⟩ : ∃ r, ((s.size : Int) - (k : Int)).tmod (s.size : Int) = r := ⟨_, rfl⟩
    rw [hr] at y2 y3
    have F9 := Lib.hid (fun W => circleOfI (dcP s) r W (by have := dyck_size y1; omega))
    rw [y2, y3] at F9
    have F10 := Lib.hid (fun W => isDyckI_yes (dcP s) W y1)
    have hn0 : ¬ ((s.size : Int) = 0) := by omega
    rw [hgk] at F1 F2
    have hkl : (k : Int) < (s.size : Int) := by omega
    rw [hd] at F1 F2 F3 F4 F5 F6
    rw [hcg] at F7 F8
    have hgg : ((k : Int) != (k : Int)) = false := by simp
    clear y1 y2 y3 hk hgk
    generalize dcP s = y at *
    have hyy : (y.toList != y.toList) = false := by simp
    clear hd hcg
    have hss : (s.toList != s.toList) = false := by simp
    go_wp2_with fail
    (with_reducible refine (F1.out _).mono ?_)
    rintro e w2 ⟨rfl, hb⟩
    have Hw2 := Lib.hid (Hw1.out.trans (hb.mono Hw1.out.size))
    clear hb
    go_wp2_with fail
    (with_reducible refine (F2.out _).mono ?_)
    rintro e w3 ⟨rfl, hb⟩
    have Hw3 := Lib.hid (Hw2.out.trans (hb.mono Hw2.out.size))
    clear hb
    go_wp2_with fail
    (with_reducible refine (F3.out _).mono ?_)
    rintro e w4 ⟨rfl, hb⟩
    have Hw4 := Lib.hid (Hw3.out.trans (hb.mono Hw3.out.size))
    clear hb
    go_wp2_with fail
    (with_reducible refine (F4.out _).mono ?_)
    rintro e w5 ⟨rfl, hb⟩
    have Hw5 := Lib.hid (Hw4.out.trans (hb.mono Hw4.out.size))
    clear hb
    go_wp2_with fail
    (with_reducible refine (F5.out _).mono ?_)
    rintro e w6 ⟨rfl, hb⟩
    have Hw6 := Lib.hid (Hw5.out.trans (hb.mono Hw5.out.size))
    clear hb
    go_wp2_with fail
    (with_reducible refine (F5.out _).mono ?_)
    rintro e w7 ⟨rfl, hb⟩
    have Hw7 := Lib.hid (Hw6.out.trans (hb.mono Hw6.out.size))
    clear hb
    go_wp2_with fail
    (with_reducible refine (F6.out _).mono ?_)
    rintro e w' ⟨rfl, rfl⟩
    go_wp2_with fail
    (with_reducible refine (F7.out _).mono ?_)
    rintro e w8 ⟨rfl, hb⟩
    have Hw8 := Lib.hid (Hw7.out.trans (hb.mono Hw7.out.size))
    clear hb
    go_wp2_with fail
    (with_reducible refine (F8.out _).mono ?_)
    rintro e w9 ⟨rfl, hb⟩
    have Hw9 := Lib.hid (Hw8.out.trans (hb.mono Hw8.out.size))
    clear hb
    go_wp2_with fail
    (with_reducible refine (F7.out _).mono ?_)
    rintro e w10 ⟨rfl, hb⟩
    have Hw10 := Lib.hid (Hw9.out.trans (hb.mono Hw9.out.size))
    clear hb
    go_wp2_with fail
    (with_reducible refine (F9.out _).mono ?_)
    rintro e w11 ⟨rfl, hb⟩
    have Hw11 := Lib.hid (Hw10.out.trans (hb.mono Hw10.out.size))
    clear hb
    go_wp2_with fail
    (with_reducible refine (F10.out _).mono ?_)
    rintro e w12 ⟨rfl, hb⟩
    have Hw12 := Lib.hid (Hw11.out.trans (hb.mono Hw11.out.size))
    clear hb
    have HC2 := Lib.hid (HC.out.carry Hw12.out)
    go_wp2_with fail
    (with_reducible refine (drawShiftWord A n cap _ HC2.out).mono ?_)
    rintro e w13 ⟨a, b, ha, b0, b1, rfl, hb⟩
    have ha20 : a.size ≤ 20 := ha
    have Hw13 := Lib.hid (Hw12.out.trans (hb.mono Hw12.out.size))
    clear hb ha
    have F11 := Lib.hid (fun W => shiftWordI a b W (by omega))
    have F12 := Lib.hid (fun W => shiftWord a b W (by omega))
    generalize swP a b = c at *
    generalize swOk a b = o3 at *
    have hcc : (c.toList == c.toList) = true := by simp
    have ho3 : (o3 == o3) = true := by simp
    go_wp2_with fail
    (with_reducible refine (F11.out _).mono ?_)
    rintro e w14 ⟨rfl, hb⟩
    have Hw14 := Lib.hid (Hw13.out.trans (hb.mono Hw13.out.size))
    clear hb
    go_wp2_with fail
    (with_reducible refine (F12.out _).mono ?_)
    rintro e w15 ⟨rfl, hb⟩
    have Hw15 := Lib.hid (Hw14.out.trans (hb.mono Hw14.out.size))
    clear hb
    have HC3 := Lib.hid (HC.out.carry Hw15.out)
    go_wp2_with fail
    (with_reducible refine (drawCircleOf A n cap _ HC3.out).mono ?_)
    rintro e w16 ⟨p, q, hp, q0, q1, rfl, hb⟩
    have hp20 : p.size ≤ 20 := hp
    have Hw16 := Lib.hid (Hw15.out.trans (hb.mono Hw15.out.size))
    clear hb hp
    have F13 := Lib.hid (fun W => circleOfI p q W (by omega))
    have F14 := Lib.hid (fun W => circleOf p q W (by omega))
    have F15 := Lib.hid (fun (h : coOk p q = true) W => isBalancedI (coP p q) W (by have := (bal_parts (co_bal h)).2.2; omega))
    rcases ho5 : coOk p q with _ | _
    · rw [ho5] at F13 F14
      clear ho5 F15
      generalize coP p q = h2 at *
      have hh2 : (h2.toList == h2.toList) = true := by simp
      go_wp2_with fail
      (with_reducible refine (F13.out _).mono ?_)
      rintro e w17 ⟨rfl, hb⟩
      have Hw17 := Lib.hid (Hw16.out.trans (hb.mono Hw16.out.size))
      clear hb
      go_wp2_with fail
      (with_reducible refine (F14.out _).mono ?_)
      rintro e w18 ⟨rfl, hb⟩
      have Hw18 := Lib.hid (Hw17.out.trans (hb.mono Hw17.out.size))
      clear hb
      go_wp2
      go_ret
      exact ⟨rfl, Hw18.out⟩
    · have F16 := Lib.hid (F15.out ho5)
      rw [co_bal ho5] at F16
      rw [ho5] at F13 F14
      clear ho5 F15
      generalize coP p q = h2 at *
      have hh2 : (h2.toList == h2.toList) = true := by simp
      go_wp2_with fail
      (with_reducible refine (F13.out _).mono ?_)
      rintro e w17 ⟨rfl, hb⟩
      have Hw17 := Lib.hid (Hw16.out.trans (hb.mono Hw16.out.size))
      clear hb
      go_wp2_with fail
      (with_reducible refine (F14.out _).mono ?_)
      rintro e w18 ⟨rfl, hb⟩
      have Hw18 := Lib.hid (Hw17.out.trans (hb.mono Hw17.out.size))
      clear hb
      go_wp2_with fail
      (with_reducible refine (F16.out _).mono ?_)
      rintro e w19 ⟨rfl, hb⟩
      have Hw19 := Lib.hid (Hw18.out.trans (hb.mono Hw18.out.size))
      clear hb
      go_wp2
      go_ret
      exact ⟨rfl, Hw19.out⟩

end Go.Proofs.Ytfkkjdggmlggbaa
