/- The contracts of the drawing functions of chapter 28. -/
import Derived.Test.YtfkkjdggmlggbaaDrawP
import Derived.Test.YtfkkjdggmlggbaaSpec28
namespace Go.Proofs.Ytfkkjdggmlggbaa
open Go.ChangeShapes Go.WideShapes Go.ChangeAt Go.RowKit
set_option linter.unusedVariables false

def S20 (s : ByteArray) : Prop := s.size ≤ 20

set_option maxRecDepth 100000 in
set_option maxHeartbeats 3200000 in
theorem cycle_any (B K : Nat) (A : Option Addr) (n cap : Nat) (w : World) (hc : Code w K A n) (hK : K ≤ B) (hcur : Cur w B A n cap) :
    Calls Try.prog 21 #[.pointer (some ⟨B, 0, none⟩)] w (DrewS S20 B A n cap w) := by
  have HC := Lib.hid hc
  have HU := Lib.hid hcur
  have hBlt := hcur.lt
  clear hc hcur
  go_enter Try.func21, Try.ntmps21
  go_wp2_with fail
  (with_reducible refine (below_any B K A n cap 7 _ HC.out hK HU.out (by omega) (by omega)).mono ?_)
  rintro e w1 ⟨y, hy, rfl, hcur, hg⟩
  have HU1 := Lib.hid hcur
  have HG1 := Lib.hid hg
  have z1 := hg.size
  clear hcur hg
  obtain ⟨y0, y1⟩ := hy
  go_wp2
  go_loopw [3, 4] (fun x3 x4 wr => ∃ (t : ByteArray) (m : Int), x3 = .string t ∧ x4 = .int .i64 m ∧ 0 ≤ m ∧ m ≤ 6 ∧ (t.size : Int) + 2 * m ≤ 13 ∧ Cur wr B A n cap ∧ w.grownBy wr (some B)) (fun _ x4 _ => (intOf x4).toNat)
  case atStart => exact ⟨_, y, rfl, rfl, y0, by omega, by show ((1 : Nat) : Int) + 2 * y ≤ 13; omega, HU1.out, HG1.out⟩
  case round =>
    obtain ⟨t, m, rfl, rfl, m0, m6, hsz, hcur, hg⟩ := hrel
    have HU2 := Lib.hid hcur
    have HG2 := Lib.hid hg
    have z2 := hg.size
    have HC2 := Lib.hid (HC.out.keep (fun b hb => hg.block b (by omega) (by simp; omega)))
    clear hcur hg HU1 HG1
    by_cases hpos : 0 < m
    · have ht11 : t.size ≤ 11 := by omega
      go_wp2_with fail
      (with_reducible refine (below_any B K A n cap ((t.size : Int) + 1) _ HC2.out hK HU2.out (by omega) (by omega)).mono ?_)
      rintro e w3 ⟨k, hk, rfl, hcur, hg⟩
      have HU3 := Lib.hid hcur
      have HG3 := Lib.hid (grown_trans HG2.out hg)
      have HC3 := Lib.hid (HC2.out.keep (fun b hb => hg.block b (by omega) (by simp; omega)))
      have z3 := hg.size
      clear hcur hg
      obtain ⟨k0, k1⟩ := hk
      obtain ⟨k, rfl⟩ : ∃ j : Nat, k = j := ⟨k.toNat, by omega⟩
      obtain ⟨a, b, -, hab, hlo, hhi⟩ := rt_parts t k (by omega)
      have hs1 : (b ++ (⟨#[117]⟩ : ByteArray) ++ a).size = t.size + 1 := by
        rw [ByteArray.size_append, ByteArray.size_append]
        have : (⟨#[117]⟩ : ByteArray).size = 1 := rfl
        omega
      have ha11 : a.size ≤ 11 := by omega
      have hb11 : b.size ≤ 11 := by omega
      have HS1 := Lib.hid hs1
      have HC3D := Lib.hid (fun q => show Code (w3.drewN q) K A n from HC3.out)
      have HU3D := Lib.hid (fun q => show Cur (w3.drewN q) B A n cap from HU3.out)
      clear hs1
      go_wp2
      go_quiet (fail)
      generalize b ++ (⟨#[117]⟩ : ByteArray) ++ a = t1 at *
      have ht12 : t1.size ≤ 12 := by have := HS1.out; omega
      go_wp2_with fail
      (with_reducible refine (below_any B K A n cap ((t1.size : Int) + 1) _ (HC3D.out nq) hK (HU3D.out nq) (by omega) (by omega)).mono ?_)
      rintro e w4 ⟨q, hq, rfl, hcur, hg⟩
      have HU4 := Lib.hid hcur
      have HG4 := Lib.hid (grown_trans (grown_drewN HG3.out nq) hg)
      have HC4 := Lib.hid ((HC3D.out nq).keep (fun b hb => hg.block b (by simp; omega) (by simp; omega)))
      have z4 := hg.size
      clear hcur hg hlo hhi
      obtain ⟨q0, q1⟩ := hq
      obtain ⟨q, rfl⟩ : ∃ j : Nat, q = j := ⟨q.toNat, by omega⟩
      obtain ⟨a2, b2, -, hab2, hlo2, hhi2⟩ := rt_parts t1 q (by omega)
      have hs3 : (b2 ++ (⟨#[100]⟩ : ByteArray) ++ a2).size = t1.size + 1 := by
        rw [ByteArray.size_append, ByteArray.size_append]
        have : (⟨#[100]⟩ : ByteArray).size = 1 := rfl
        omega
      have ha12 : a2.size ≤ 12 := by omega
      have hb12 : b2.size ≤ 12 := by omega
      have HS3 := Lib.hid hs3
      have hqi : (q : Int) ≤ (t1.size : Int) := by omega
      clear hs3
      go_wp2
      go_quiet (fail)
      go_wp2
      refine ⟨⟨_, m - 1, rfl, rfl, by omega, by omega, by rw [HS3.out]; have := HS1.out; omega, HU4.out, grown_drewN HG4.out _⟩, by simp [intOf]; omega⟩
    · have hneg : ¬ (0 < m) := hpos
      go_wp2_with fail
      (with_reducible refine (once_any B K A n cap 10 _ HC2.out hK HU2.out (by omega) (by omega)).mono ?_)
      rintro e w3 ⟨o, rfl, hcur, hg⟩
      have HU3 := Lib.hid hcur
      have HG3 := Lib.hid (grown_trans HG2.out hg)
      have HC3 := Lib.hid (HC2.out.keep (fun b hb => hg.block b (by omega) (by simp; omega)))
      have z3 := hg.size
      clear hcur hg
      rcases o with _ | _
      · go_wp2
        go_ret
        exact ⟨t, by unfold S20; omega, rfl, HU3.out, HG3.out⟩
      · go_wp2_with fail
        (with_reducible refine (spoil_any B K A n cap t _ HC3.out hK HU3.out (by omega)).mono ?_)
        rintro e w4 ⟨t2, ht2, rfl, hcur, hg⟩
        have HU4 := Lib.hid hcur
        have HG4 := Lib.hid (grown_trans HG3.out hg)
        clear hcur hg
        go_wp2
        go_ret
        exact ⟨t2, by unfold S20; omega, rfl, HU4.out, HG4.out⟩

def DrawsP28 (w : World) (e : Ending) (w' : World) : Prop := ∃ s : ByteArray, S20 s ∧ e = .returned (.string s) ∧ Below w.heap.size w w'
def DrawsPI28 (w : World) (e : Ending) (w' : World) : Prop := ∃ (s : ByteArray) (y : Int), S20 s ∧ -1 ≤ y ∧ y ≤ 100 ∧ e = .returned (.tuple #[.string s, .int .i64 y]) ∧ Below w.heap.size w w'

set_option maxRecDepth 100000 in
set_option maxHeartbeats 1600000 in
theorem drawGoodShift (A : Option Addr) (n cap : Nat) (w : World) (hc : Code w w.heap.size A n) : Calls Try.prog 5 #[.slice A n cap] w (DrawsP28 w) := by
  have HC := Lib.hid hc
  clear hc
  go_enter Try.func5, Try.ntmps5
  go_wp2_with fail
  (with_reducible refine (new_any A n cap _ HC.out).mono ?_)
  rintro e w1 ⟨B, hB, rfl, hcur, hb⟩
  have HU := Lib.hid hcur
  have HB := Lib.hid hb
  have HC1 := Lib.hid (HC.out.keep hb.block)
  clear hcur hb
  go_wp2_with fail
  (with_reducible refine (cycle_any B w.heap.size A n cap _ HC1.out hB HU.out).mono ?_)
  rintro e w2 ⟨s, hs, rfl, hcur, hg⟩
  have HS := Lib.hid hs
  have HG := Lib.hid (below_of_grown HB.out hg hB)
  clear hs hcur hg
  go_wp2
  go_ret
  exact ⟨s, HS.out, rfl, HG.out⟩

set_option maxRecDepth 100000 in
set_option maxHeartbeats 1600000 in
theorem drawShiftWord (A : Option Addr) (n cap : Nat) (w : World) (hc : Code w w.heap.size A n) : Calls Try.prog 16 #[.slice A n cap] w (DrawsPI28 w) := by
  have HC := Lib.hid hc
  clear hc
  go_enter Try.func16, Try.ntmps16
  go_wp2_with fail
  (with_reducible refine (new_any A n cap _ HC.out).mono ?_)
  rintro e w1 ⟨B, hB, rfl, hcur, hb⟩
  have HU := Lib.hid hcur
  have HB := Lib.hid hb
  have HC1 := Lib.hid (HC.out.keep hb.block)
  have hBlt := hcur.lt
  clear hcur hb
  go_wp2_with fail
  (with_reducible refine (cycle_any B w.heap.size A n cap _ HC1.out hB HU.out).mono ?_)
  rintro e w2 ⟨s, hs, rfl, hcur, hg⟩
  have hs20 : s.size ≤ 20 := hs
  have HU2 := Lib.hid hcur
  have HG := Lib.hid (below_of_grown HB.out hg hB)
  have HC2 := Lib.hid (HC1.out.keep (fun b hb => hg.block b (by omega) (by simp; omega)))
  clear hs hcur hg
  go_wp2_with fail
  (with_reducible refine (below_any B w.heap.size A n cap ((s.size : Int) + 2) _ HC2.out hB HU2.out (by omega) (by omega)).mono ?_)
  rintro e w3 ⟨y, hy, rfl, hcur, hg⟩
  have HG3 := Lib.hid (below_of_grown HG.out hg hB)
  clear hcur hg
  obtain ⟨y0, y1⟩ := hy
  go_wp2
  go_ret2
  exact ⟨s, y - 1, hs20, by omega, by omega, rfl, HG3.out⟩

set_option maxRecDepth 100000 in
set_option maxHeartbeats 1600000 in
theorem drawCircleOf (A : Option Addr) (n cap : Nat) (w : World) (hc : Code w w.heap.size A n) : Calls Try.prog 19 #[.slice A n cap] w (DrawsPI28 w) := by
  have HC := Lib.hid hc
  clear hc
  go_enter Try.func19, Try.ntmps19
  go_wp2_with fail
  (with_reducible refine (new_any A n cap _ HC.out).mono ?_)
  rintro e w1 ⟨B, hB, rfl, hcur, hb⟩
  have HU := Lib.hid hcur
  have HB := Lib.hid hb
  have HC1 := Lib.hid (HC.out.keep hb.block)
  have hBlt := hcur.lt
  clear hcur hb
  go_wp2_with fail
  (with_reducible refine (any_any B w.heap.size A n cap _ HC1.out hB HU.out).mono ?_)
  rintro e w2 ⟨s, hs, rfl, hcur, hg⟩
  have hs20 : s.size ≤ 20 := by have := hs.size; omega
  have HU2 := Lib.hid hcur
  have HG := Lib.hid (below_of_grown HB.out hg hB)
  have HC2 := Lib.hid (HC1.out.keep (fun b hb => hg.block b (by omega) (by simp; omega)))
  clear hs hcur hg
  go_wp2_with fail
  (with_reducible refine (below_any B w.heap.size A n cap ((s.size : Int) + 3) _ HC2.out hB HU2.out (by omega) (by omega)).mono ?_)
  rintro e w3 ⟨y, hy, rfl, hcur, hg⟩
  have HG3 := Lib.hid (below_of_grown HG.out hg hB)
  clear hcur hg
  obtain ⟨y0, y1⟩ := hy
  go_wp2
  go_ret2
  exact ⟨s, y - 1, hs20, by omega, by omega, rfl, HG3.out⟩

end Go.Proofs.Ytfkkjdggmlggbaa
