/- The contracts of the drawing functions of chapter 29. -/
import Derived.Test.YtpggglcjocnjlaaGreatDrawP
import Derived.Test.YtpggglcjocnjlaaGreatSpec29
namespace Go.Proofs.YtpggglcjocnjlaaGreat
open Go.ChangeShapes Go.WideShapes Go.ChangeAt Go.RowKit
set_option linter.unusedVariables false

def S20 (s : ByteArray) : Prop := s.size ≤ 20
theorem rt_parts29 (s : ByteArray) (k : Nat) (h : k ≤ s.size) : ∃ a b : ByteArray, True ∧ a.size + b.size = s.size ∧ (∀ W, (Instr.slice 9 (.string s) (some (.int .i64 (k : Int))) none none).run Tryz.prog W = .ok (.string a) W) ∧ ∀ W, (Instr.slice 9 (.string s) none (some (.int .i64 (k : Int))) none).run Tryz.prog W = .ok (.string b) W :=
  ⟨s.extract k s.size, s.extract 0 k, trivial, by rw [ByteArray.size_extract, ByteArray.size_extract]; omega, fun W => by
    rw [run_slice_string_l W 9 s Tryz.underlying9 .i64 (k : Int) (by omega) (by omega)]; simp, fun W => by
    rw [run_slice_string_h W 9 s Tryz.underlying9 .i64 (k : Int) (by omega) (by omega)]; simp⟩

set_option maxRecDepth 100000 in
set_option maxHeartbeats 3200000 in
theorem word29_any (B K : Nat) (A : Option Addr) (n cap : Nat) (w : World) (hc : Code w K A n) (hK : K ≤ B) (hcur : Cur w B A n cap) :
    Calls Tryz.prog 28 #[.pointer (some ⟨B, 0, none⟩)] w (DrewS S20 B A n cap w) := by
  have HC := Lib.hid hc
  have HU := Lib.hid hcur
  have hBlt := hcur.lt
  clear hc hcur
  go_enter Tryz.func28, Tryz.ntmps28
  go_wp2_with fail
  (with_reducible refine (below_any B K A n cap 7 _ HC.out hK HU.out (by omega) (by omega)).mono ?_)
  rintro e w1 ⟨y, hy, rfl, hcur, hg⟩
  have HU1 := Lib.hid hcur
  have HG1 := Lib.hid hg
  have z1 := hg.size
  clear hcur hg
  obtain ⟨y0, y1⟩ := hy
  go_wp2
  go_loopw [3, 5] (fun x3 x5 wr => ∃ (t : ByteArray) (m : Int), x3 = .string t ∧ x5 = .int .i64 m ∧ 0 ≤ m ∧ m ≤ y ∧ (t.size : Int) = 2 * m ∧ Cur wr B A n cap ∧ w.grownBy wr (some B)) (fun _ x5 _ => (y - intOf x5).toNat)
  case atStart => exact ⟨_, 0, rfl, rfl, Int.le_refl _, y0, rfl, HU1.out, HG1.out⟩
  case round =>
    obtain ⟨t, m, rfl, rfl, m0, m6, hsz', hcur, hg⟩ := hrel
    have hsz : (t.size : Int) ≤ 12 := by omega
    have HSZ := Lib.hid hsz'
    clear hsz'
    have HU2 := Lib.hid hcur
    have HG2 := Lib.hid hg
    have z2 := hg.size
    have HC2 := Lib.hid (HC.out.keep (fun b hb => hg.block b (by omega) (by simp; omega)))
    clear hcur hg HU1 HG1
    by_cases hpos : m < y
    · have ht11 : t.size ≤ 11 := by have := HSZ.out; omega
      go_wp2_with fail
      (with_reducible refine (below_any B K A n cap ((t.size : Int) + 1) _ HC2.out hK HU2.out (by omega) (by omega)).mono ?_)
      rintro e w3 ⟨k, hk, rfl, hcur, hg⟩
      have HU3 := Lib.hid hcur
      have HG3 := Lib.hid (grown_trans HG2.out hg)
      have HC3 := Lib.hid (HC2.out.keep (fun b hb => hg.block b (by omega) (by simp; omega)))
      have z3 := hg.size
      clear hcur hg
      obtain ⟨k0, k1⟩ := hk
      obtain ⟨k, rfl⟩ : ∃ j : Nat, k = j := ⟨k.toNat, by omega⟩
      obtain ⟨a, b, -, hab, hlo, hhi⟩ := rt_parts29 t k (by omega)
      have hs1 : (b ++ (⟨#[117]⟩ : ByteArray) ++ a).size = t.size + 1 := by
        rw [ByteArray.size_append, ByteArray.size_append]
        have : (⟨#[117]⟩ : ByteArray).size = 1 := rfl
        omega
      have ha11 : a.size ≤ 11 := by omega
      have hb11 : b.size ≤ 11 := by omega
      have HS1 := Lib.hid hs1
      have HC3D := Lib.hid (fun q => show Code (w3.drewN q) K A n from HC3.out)
      have HU3D := Lib.hid (fun q => show Cur (w3.drewN q) B A n cap from HU3.out)
      clear hs1
      go_wp2
      go_quiet (fail)
      generalize b ++ (⟨#[117]⟩ : ByteArray) ++ a = t1 at *
      have ht12 : t1.size ≤ 12 := by have := HS1.out; omega
      go_wp2_with fail
      (with_reducible refine (below_any B K A n cap ((t1.size : Int) + 1) _ (HC3D.out nq) hK (HU3D.out nq) (by omega) (by omega)).mono ?_)
      rintro e w4 ⟨q, hq, rfl, hcur, hg⟩
      have HU4 := Lib.hid hcur
      have HG4 := Lib.hid (grown_trans (grown_drewN HG3.out nq) hg)
      have HC4 := Lib.hid ((HC3D.out nq).keep (fun b hb => hg.block b (by simp; omega) (by simp; omega)))
      have z4 := hg.size
      clear hcur hg hlo hhi
      obtain ⟨q0, q1⟩ := hq
      obtain ⟨q, rfl⟩ : ∃ j : Nat, q = j := ⟨q.toNat, by omega⟩
      obtain ⟨a2, b2, -, hab2, hlo2, hhi2⟩ := rt_parts29 t1 q (by omega)
      have hs3 : (b2 ++ (⟨#[100]⟩ : ByteArray) ++ a2).size = t1.size + 1 := by
        rw [ByteArray.size_append, ByteArray.size_append]
        have : (⟨#[100]⟩ : ByteArray).size = 1 := rfl
        omega
      have ha12 : a2.size ≤ 12 := by omega
      have hb12 : b2.size ≤ 12 := by omega
      have HS3 := Lib.hid hs3
      have hqi : (q : Int) ≤ (t1.size : Int) := by omega
      clear hs3
      go_wp2
      go_quiet (fail)
      go_wp2
      refine ⟨⟨_, m + 1, rfl, by simp, by omega, by omega, by rw [HS3.out]; have := HS1.out; have := HSZ.out; omega, HU4.out, grown_drewN HG4.out _⟩, by simp [intOf]; omega⟩
    · have hneg : ¬ (m < y) := hpos
      go_wp2_with fail
      (with_reducible refine (once_any B K A n cap 12 _ HC2.out hK HU2.out (by omega) (by omega)).mono ?_)
      rintro e w3 ⟨o, rfl, hcur, hg⟩
      have HU3 := Lib.hid hcur
      have HG3 := Lib.hid (grown_trans HG2.out hg)
      have HC3 := Lib.hid (HC2.out.keep (fun b hb => hg.block b (by omega) (by simp; omega)))
      have z3 := hg.size
      clear hcur hg
      rcases o with _ | _
      · go_wp2
        go_ret
        exact ⟨t, by unfold S20; omega, rfl, HU3.out, HG3.out⟩
      · go_wp2_with fail
        (with_reducible refine (spoil_any B K A n cap t _ HC3.out hK HU3.out (by omega)).mono ?_)
        rintro e w4 ⟨t2, ht2, rfl, hcur, hg⟩
        have HU4 := Lib.hid hcur
        have HG4 := Lib.hid (grown_trans HG3.out hg)
        clear hcur hg
        go_wp2
        go_ret
        exact ⟨t2, by unfold S20; omega, rfl, HU4.out, HG4.out⟩

def DrawsP29 (w : World) (e : Ending) (w' : World) : Prop := ∃ s : ByteArray, S20 s ∧ e = .returned (.string s) ∧ Below w.heap.size w w'
def DrawsPI29 (w : World) (e : Ending) (w' : World) : Prop := ∃ (s : ByteArray) (y : Int), S20 s ∧ -1 ≤ y ∧ y ≤ 100 ∧ e = .returned (.tuple #[.string s, .int .i64 y]) ∧ Below w.heap.size w w'

set_option maxRecDepth 100000 in
set_option maxHeartbeats 1600000 in
theorem drawReflectBad (A : Option Addr) (n cap : Nat) (w : World) (hc : Code w w.heap.size A n) : Calls Tryz.prog 5 #[.slice A n cap] w (DrawsP29 w) := by
  have HC := Lib.hid hc
  clear hc
  go_enter Tryz.func5, Tryz.ntmps5
  go_wp2_with fail
  (with_reducible refine (new_any A n cap _ HC.out).mono ?_)
  rintro e w1 ⟨B, hB, rfl, hcur, hb⟩
  have HU := Lib.hid hcur
  have HB := Lib.hid hb
  have HC1 := Lib.hid (HC.out.keep hb.block)
  clear hcur hb
  go_wp2_with fail
  (with_reducible refine (word29_any B w.heap.size A n cap _ HC1.out hB HU.out).mono ?_)
  rintro e w2 ⟨s, hs, rfl, hcur, hg⟩
  have HS := Lib.hid hs
  have HG := Lib.hid (below_of_grown HB.out hg hB)
  clear hs hcur hg
  go_wp2
  go_ret
  exact ⟨s, HS.out, rfl, HG.out⟩

set_option maxRecDepth 100000 in
set_option maxHeartbeats 1600000 in
theorem drawUnreflectWord (A : Option Addr) (n cap : Nat) (w : World) (hc : Code w w.heap.size A n) : Calls Tryz.prog 11 #[.slice A n cap] w (DrawsP29 w) := by
  have HC := Lib.hid hc
  clear hc
  go_enter Tryz.func11, Tryz.ntmps11
  go_wp2_with fail
  (with_reducible refine (new_any A n cap _ HC.out).mono ?_)
  rintro e w1 ⟨B, hB, rfl, hcur, hb⟩
  have HU := Lib.hid hcur
  have HB := Lib.hid hb
  have HC1 := Lib.hid (HC.out.keep hb.block)
  have hBlt := hcur.lt
  clear hcur hb
  go_wp2_with fail
  (with_reducible refine (word29_any B w.heap.size A n cap _ HC1.out hB HU.out).mono ?_)
  rintro e w2 ⟨s, hs, rfl, hcur, hg⟩
  have hs20 : s.size ≤ 20 := hs
  have HG := Lib.hid (below_of_grown HB.out hg hB)
  have HR := Lib.hid (fun W => reflectBad s W (by omega))
  have hrs : (rbP s).size ≤ 20 := by
    unfold rbP; split
    · rw [flS_size]; exact hs20
    · exact Nat.zero_le _
  clear hs hcur hg
  rcases hb : badB s with _ | _
  · rw [hb] at HR
    clear hb
    go_wp2_with fail
    (with_reducible refine (HR.out _).mono ?_)
    rintro e w' ⟨rfl, rfl⟩
    go_wp2
    go_ret
    exact ⟨s, hs20, rfl, HG.out⟩
  · rw [hb] at HR
    clear hb
    generalize rbP s = r at *
    go_wp2_with fail
    (with_reducible refine (HR.out _).mono ?_)
    rintro e w' ⟨rfl, rfl⟩
    go_wp2
    go_ret
    exact ⟨r, hrs, rfl, HG.out⟩

def DrawsN29 (lo hi : Int) (w : World) (e : Ending) (w' : World) : Prop := ∃ y : Int, lo ≤ y ∧ y ≤ hi ∧ e = .returned (.int .i64 y) ∧ Below w.heap.size w w'
def DrawsNN29 (lo hi lo' hi' : Int) (w : World) (e : Ending) (w' : World) : Prop := ∃ x y : Int, lo ≤ x ∧ x ≤ hi ∧ lo' ≤ y ∧ y ≤ hi' ∧ e = .returned (.tuple #[.int .i64 x, .int .i64 y]) ∧ Below w.heap.size w w'

set_option maxRecDepth 100000 in
set_option maxHeartbeats 1600000 in
theorem drawCountBad (A : Option Addr) (n cap : Nat) (w : World) (hc : Code w w.heap.size A n) : Calls Tryz.prog 13 #[.slice A n cap] w (DrawsN29 (-1) 15 w) := by
  have HC := Lib.hid hc
  clear hc
  go_enter Tryz.func13, Tryz.ntmps13
  go_wp2_with fail
  (with_reducible refine (new_any A n cap _ HC.out).mono ?_)
  rintro e w1 ⟨B, hB, rfl, hcur, hb⟩
  have HU := Lib.hid hcur
  have HB := Lib.hid hb
  have HC1 := Lib.hid (HC.out.keep hb.block)
  have hBlt := hcur.lt
  clear hcur hb
  go_wp2_with fail
  (with_reducible refine (below_any B w.heap.size A n cap 17 _ HC1.out hB HU.out (by omega) (by omega)).mono ?_)
  rintro e w2 ⟨y, hy, rfl, hcur, hg⟩
  have HG := Lib.hid (below_of_grown HB.out hg hB)
  clear hcur hg
  obtain ⟨y0, y1⟩ := hy
  go_wp2
  go_ret
  exact ⟨y - 1, by omega, by omega, rfl, HG.out⟩

set_option maxRecDepth 100000 in
set_option maxHeartbeats 1600000 in
theorem drawCountWithin (A : Option Addr) (n cap : Nat) (w : World) (hc : Code w w.heap.size A n) : Calls Tryz.prog 18 #[.slice A n cap] w (DrawsNN29 0 15 (-1) 7 w) := by
  have HC := Lib.hid hc
  clear hc
  go_enter Tryz.func18, Tryz.ntmps18
  go_wp2_with fail
  (with_reducible refine (new_any A n cap _ HC.out).mono ?_)
  rintro e w1 ⟨B, hB, rfl, hcur, hb⟩
  have HU := Lib.hid hcur
  have HB := Lib.hid hb
  have HC1 := Lib.hid (HC.out.keep hb.block)
  have hBlt := hcur.lt
  clear hcur hb
  go_wp2_with fail
  (with_reducible refine (below_any B w.heap.size A n cap 16 _ HC1.out hB HU.out (by omega) (by omega)).mono ?_)
  rintro e w2 ⟨x, hx, rfl, hcur, hg⟩
  have HU2 := Lib.hid hcur
  have HG := Lib.hid (below_of_grown HB.out hg hB)
  have HC2 := Lib.hid (HC1.out.keep (fun b hb => hg.block b (by omega) (by simp; omega)))
  clear hcur hg
  obtain ⟨x0, x1⟩ := hx
  go_wp2_with fail
  (with_reducible refine (below_any B w.heap.size A n cap 9 _ HC2.out hB HU2.out (by omega) (by omega)).mono ?_)
  rintro e w3 ⟨y, hy, rfl, hcur, hg⟩
  have HG3 := Lib.hid (below_of_grown HG.out hg hB)
  clear hcur hg
  obtain ⟨y0, y1⟩ := hy
  go_wp2
  go_ret2
  exact ⟨x, y - 1, by omega, by omega, by omega, by omega, rfl, HG3.out⟩

set_option maxRecDepth 100000 in
set_option maxHeartbeats 1600000 in
theorem numbers29 (A : Option Addr) (n cap : Nat) (w : World) (hc : Code w w.heap.size A n) : Calls Tryz.prog 53 #[.slice A n cap] w (DrawsNN29 (-1) 15 0 16 w) := by
  have HC := Lib.hid hc
  clear hc
  go_enter Tryz.func53, Tryz.ntmps53
  go_wp2_with fail
  (with_reducible refine (new_any A n cap _ HC.out).mono ?_)
  rintro e w1 ⟨B, hB, rfl, hcur, hb⟩
  have HU := Lib.hid hcur
  have HB := Lib.hid hb
  have HC1 := Lib.hid (HC.out.keep hb.block)
  have hBlt := hcur.lt
  clear hcur hb
  go_wp2_with fail
  (with_reducible refine (below_any B w.heap.size A n cap 17 _ HC1.out hB HU.out (by omega) (by omega)).mono ?_)
  rintro e w2 ⟨x, hx, rfl, hcur, hg⟩
  have HU2 := Lib.hid hcur
  have HG := Lib.hid (below_of_grown HB.out hg hB)
  have HC2 := Lib.hid (HC1.out.keep (fun b hb => hg.block b (by omega) (by simp; omega)))
  clear hcur hg
  obtain ⟨x0, x1⟩ := hx
  go_wp2_with fail
  (with_reducible refine (below_any B w.heap.size A n cap 17 _ HC2.out hB HU2.out (by omega) (by omega)).mono ?_)
  rintro e w3 ⟨y, hy, rfl, hcur, hg⟩
  have HG3 := Lib.hid (below_of_grown HG.out hg hB)
  clear hcur hg
  obtain ⟨y0, y1⟩ := hy
  go_wp2
  go_ret2
  exact ⟨x - 1, y, by omega, by omega, by omega, by omega, rfl, HG3.out⟩

set_option maxRecDepth 100000 in
set_option maxHeartbeats 1600000 in
theorem drawCountWords (A : Option Addr) (n cap : Nat) (w : World) (hc : Code w w.heap.size A n) : Calls Tryz.prog 23 #[.slice A n cap] w (DrawsNN29 (-1) 15 0 16 w) := by
  have HC := Lib.hid (numbers29 A n cap w hc)
  clear hc
  go_enter Tryz.func23, Tryz.ntmps23
  go_wp2_with fail
  (with_reducible refine HC.out.mono ?_)
  rintro e w1 ⟨x, y, x0, x1, y0, y1, rfl, hb⟩
  have HB := Lib.hid hb
  clear hb
  go_wp2
  go_ret2
  exact ⟨x, y, x0, x1, y0, y1, rfl, HB.out⟩

set_option maxRecDepth 100000 in
set_option maxHeartbeats 1600000 in
theorem drawBallotByReflection (A : Option Addr) (n cap : Nat) (w : World) (hc : Code w w.heap.size A n) : Calls Tryz.prog 24 #[.slice A n cap] w (DrawsNN29 (-1) 15 0 16 w) := by
  have HC := Lib.hid (numbers29 A n cap w hc)
  clear hc
  go_enter Tryz.func24, Tryz.ntmps24
  go_wp2_with fail
  (with_reducible refine HC.out.mono ?_)
  rintro e w1 ⟨x, y, x0, x1, y0, y1, rfl, hb⟩
  have HB := Lib.hid hb
  clear hb
  go_wp2
  go_ret2
  exact ⟨x, y, x0, x1, y0, y1, rfl, HB.out⟩

end Go.Proofs.YtpggglcjocnjlaaGreat
