/- The contract of the drawing function that spoils a word. -/
import Derived.Test.YtpggglcjocnjlaaGreatDrawC
import Derived.BigRegion
import Derived.Deep.RegionLaw
namespace Go.Proofs.YtpggglcjocnjlaaGreat
open Go.ChangeShapes Go.WideShapes Go.ChangeAt Go.RowKit
set_option linter.unusedVariables false

set_option maxRecDepth 100000 in
set_option maxHeartbeats 3200000 in
theorem spoil_any (B K : Nat) (A : Option Addr) (n cap : Nat) (s : ByteArray) (w : World) (hc : Code w K A n) (hK : K ≤ B) (hcur : Cur w B A n cap) (hs : s.size ≤ 100000) :
    Calls Tryz.prog 55 #[.pointer (some ⟨B, 0, none⟩), .string s] w (DrewStr (max 3 (s.size + 1)) B A n cap w) := by
  have HC := Lib.hid hc
  have HU := Lib.hid hcur
  have hBlt := hcur.lt
  clear hc hcur
  by_cases h0 : s.size = 0
  · have h0i : ((s.size : Int) == 0) = true := by simp [h0]
    go_enter Tryz.func55, Tryz.ntmps55
    go_wp2_with fail
    (with_reducible refine (text_is B K A n cap 3 3 rfl _ HC.out hK HU.out (by omega)).mono ?_)
    rintro e w2 ⟨t, ht, rfl, hcur, hg⟩
    have HU2 := Lib.hid hcur
    have HG2 := Lib.hid hg
    clear hcur hg
    go_wp2
    go_ret
    exact ⟨t, by omega, rfl, HU2.out, HG2.out⟩
  · have h0i : ((s.size : Int) == 0) = false := by rw [beq_eq_false_iff_ne]; omega
    go_enter Tryz.func55, Tryz.ntmps55
    go_wp2_with fail
    (with_reducible refine (below_any B K A n cap s.size _ HC.out hK HU.out (by omega) (by omega)).mono ?_)
    rintro e w1 ⟨y, hy, rfl, hcur, hg⟩
    have HU1 := Lib.hid hcur
    have HG1 := Lib.hid hg
    have HC1 := Lib.hid (HC.out.keep (fun b hb => hg.block b (by omega) (by simp; omega)))
    have z1 := hg.size
    clear hcur hg
    obtain ⟨y0, y1⟩ := hy
    obtain ⟨k, rfl⟩ : ∃ k : Nat, y = k := ⟨y.toNat, by omega⟩
    go_wp2_with fail
    (with_reducible refine (below_any B K A n cap 4 _ HC1.out hK HU1.out (by omega) (by omega)).mono ?_)
    rintro e w2 ⟨r, hr, rfl, hcur, hg⟩
    have HU2 := Lib.hid hcur
    have HG2 := Lib.hid (grown_trans HG1.out hg)
    have HC2 := Lib.hid (HC1.out.keep (fun b hb => hg.block b (by omega) (by simp; omega)))
    have z2 := hg.size
    clear hcur hg
    obtain ⟨r0, r4⟩ := hr
    have hks : (k : Int) ≤ (s.size : Int) := by omega
    have hk1 : (k : Int) + 1 ≤ (s.size : Int) := by omega
    have hk2 : (0 : Int) ≤ (k : Int) + 1 := by omega
    have hkt : ((k : Int) + 1).toNat = k + 1 := by omega
    have x1 : (s.extract 0 k).size = k := by rw [ByteArray.size_extract]; omega
    have x2 : (s.extract (k + 1) s.size).size = s.size - (k + 1) := by rw [ByteArray.size_extract]; omega
    have x3 : (s.extract k s.size).size = s.size - k := by rw [ByteArray.size_extract]; omega
    by_cases e0 : r = 0
    · subst e0
      have c1 : ¬ 9223372036854775807 < (s.extract 0 k).size + (s.extract (k + 1) s.size).size := by omega
      have X := Lib.hid (show (s.extract 0 k ++ s.extract (k + 1) s.size).size ≤ max 3 (s.size + 1) by rw [ByteArray.size_append]; omega)
      clear x1 x2 x3
      go_wp2
      go_quiet (fail)
      go_wp2
      go_ret
      exact ⟨_, X.out, rfl, HU2.out, grown_drewN HG2.out _⟩
    · have b0 : (r == 0) = false := by simp [e0]
      by_cases e1 : r = 1
      · subst e1
        have c1 : ∀ y : Int, ¬ 9223372036854775807 < (s.extract 0 k).size + (strOfNums [y]).size := by intro y; have : (strOfNums [y]).size = 1 := rfl; omega
        have c3 : ∀ y : Int, ¬ 9223372036854775807 < min k s.size + (strOfNums [y]).size := by intro y; have : (strOfNums [y]).size = 1 := rfl; omega
        have c4 : ∀ y : Int, ¬ 9223372036854775807 < min k s.size + (strOfNums [y]).size + (s.size - k) := by intro y; have : (strOfNums [y]).size = 1 := rfl; omega
        have c2 : ∀ y : Int, ¬ 9223372036854775807 < (s.extract 0 k ++ strOfNums [y]).size + (s.extract k s.size).size := by intro y; have : (strOfNums [y]).size = 1 := rfl; rw [ByteArray.size_append]; omega
        have X := Lib.hid (show ∀ y : Int, ((s.extract 0 k ++ strOfNums [y]) ++ s.extract k s.size).size ≤ max 3 (s.size + 1) by intro y; have : (strOfNums [y]).size = 1 := rfl; simp only [ByteArray.size_append]; omega)
        have hcv := convB
        have HCD := Lib.hid (show Code w2.drew K A n from HC2.out.keep fun _ _ => rfl)
        have HUD := Lib.hid (show Cur w2.drew B A n cap from HU2.out.keep rfl)
        have HGD := Lib.hid (show w.grownBy w2.drew (some B) from grown_drewN HG2.out 1)
        clear x1 x2 x3
        go_wp2
        go_region_law (go_simp; go_at_call 59; (with_reducible refine (byte_any B K A n cap _ HCD.out hK HUD.out).mono ?_); rintro e w3 ⟨y, hy, rfl, hcur, hg⟩; have HU3 := Lib.hid hcur; have HG3 := Lib.hid (grown_trans HGD.out hg); obtain ⟨y0, y255⟩ := hy; clear hcur hg)
        all_goals go_wp2
        all_goals go_ret
        all_goals exact ⟨_, X.out _, rfl, HU3.out.keep (Below.heap_alloc w3 _ B HU3.out.lt), grown_alloc HG3.out _⟩
      · have b1 : (r == 1) = false := by simp [e1]
        by_cases e2 : r = 2
        · subst e2
          have X := Lib.hid (show (s.extract 0 k).size ≤ max 3 (s.size + 1) by omega)
          clear x1 x2 x3
          go_wp2
          go_ret
          exact ⟨_, X.out, rfl, HU2.out, HG2.out⟩
        · have b2 : (r == 2) = false := by simp [e2]
          have hk3 : (k : Int) < (s.size : Int) := y1
          have hw1 : IntKind.i64.wrap ((k : Int) + 1) = (k : Int) + 1 := IntWalk.i64_in _ (by omega)
          have c3 : ∀ y : Int, ¬ 9223372036854775807 < min k s.size + (strOfNums [y]).size := by intro y; have : (strOfNums [y]).size = 1 := rfl; omega
          have c4 : ∀ y : Int, ¬ 9223372036854775807 < min k s.size + (strOfNums [y]).size + (s.size - (k + 1)) := by intro y; have : (strOfNums [y]).size = 1 := rfl; omega
          have X := Lib.hid (show ∀ y : Int, ((s.extract 0 k ++ strOfNums [y]) ++ s.extract (k + 1) s.size).size ≤ max 3 (s.size + 1) by intro y; have : (strOfNums [y]).size = 1 := rfl; simp only [ByteArray.size_append]; omega)
          have hcv := convB
          have HCD := Lib.hid (show Code w2.drew K A n from HC2.out.keep fun _ _ => rfl)
          have HUD := Lib.hid (show Cur w2.drew B A n cap from HU2.out.keep rfl)
          have HGD := Lib.hid (show w.grownBy w2.drew (some B) from grown_drewN HG2.out 1)
          clear x1 x2 x3 e0 e1 e2
          go_wp2
          go_region_law (go_simp; go_at_call 35; (with_reducible refine (below_any B K A n cap 255 _ HCD.out hK HUD.out (by omega) (by omega)).mono ?_); rintro e w3 ⟨y, hy, rfl, hcur, hg⟩; have HU3 := Lib.hid hcur; have HG3 := Lib.hid (grown_trans HGD.out hg); obtain ⟨q0, q255⟩ := hy; clear hcur hg)
          all_goals go_wp2
          all_goals go_ret
          all_goals exact ⟨_, X.out _, rfl, HU3.out.keep (Below.heap_alloc w3 _ B HU3.out.lt), grown_alloc HG3.out _⟩

end Go.Proofs.YtpggglcjocnjlaaGreat
