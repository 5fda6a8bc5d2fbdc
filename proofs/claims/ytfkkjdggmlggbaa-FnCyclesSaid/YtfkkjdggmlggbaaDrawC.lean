/- The contracts of the drawing functions for paths: words of at most so many letters. -/
import Derived.Test.YtfkkjdggmlggbaaDrawB
import Derived.Test.YtfkkjdggmlggbaaStrs
namespace Go.Proofs.Ytfkkjdggmlggbaa
open Go.ChangeShapes Go.WideShapes Go.ChangeAt Go.RowKit
set_option linter.unusedVariables false

set_option maxRecDepth 100000 in
set_option maxHeartbeats 1600000 in
theorem once_any (B K : Nat) (A : Option Addr) (n cap : Nat) (m : Int) (w : World) (hc : Code w K A n) (hK : K ≤ B) (hcur : Cur w B A n cap) (hm0 : 0 < m) (hmm : m ≤ 1000000000000) :
    Calls Try.prog 32 #[.pointer (some ⟨B, 0, none⟩), .int .i64 m] w fun e w' => ∃ b : Bool, e = .returned (.bool b) ∧ Cur w' B A n cap ∧ w.grownBy w' (some B) := by
  have HC := Lib.hid hc
  have HU := Lib.hid hcur
  clear hc hcur
  go_enter Try.func32, Try.ntmps32
  go_wp2_with fail
  (with_reducible refine (below_any B K A n cap m _ HC.out hK HU.out hm0 hmm).mono ?_)
  rintro e w1 ⟨y, hy, rfl, hcur, hg⟩
  have HU1 := Lib.hid hcur
  have HG := Lib.hid hg
  clear hcur hg
  go_wp2
  go_ret
  exact ⟨_, rfl, HU1.out, HG.out⟩

set_option maxRecDepth 100000 in
set_option maxHeartbeats 3200000 in
theorem draw_any (B K : Nat) (A : Option Addr) (n cap : Nat) (m : Nat) (w : World) (hc : Code w K A n) (hK : K ≤ B) (hcur : Cur w B A n cap) (hm : m ≤ 100000) :
    Calls Try.prog 41 #[.pointer (some ⟨B, 0, none⟩), .int .i64 m] w (DrewStr (2 * m) B A n cap w) := by
  have HC := Lib.hid hc
  have HU := Lib.hid hcur
  have hBlt := hcur.lt
  clear hc hcur
  go_enter Try.func41, Try.ntmps41
  go_wp2
  go_loopw [5, 6, 7] (fun x u d wr => ∃ (a b : Nat) (t : ByteArray), x = .string t ∧ u = .int .i64 a ∧ d = .int .i64 b ∧ a ≤ m ∧ b ≤ m ∧ t.size = a + b ∧ Code wr K A n ∧ Cur wr B A n cap ∧ w.grownBy wr (some B)) (fun _ u d _ => 2 * m - (intOf u).toNat - (intOf d).toNat)
  case atStart => exact ⟨0, 0, ⟨#[]⟩, rfl, rfl, rfl, Nat.zero_le _, Nat.zero_le _, rfl, HC.out, HU.out, World.grownBy.refl w _⟩
  case round =>
    obtain ⟨a, b, t, rfl, rfl, rfl, ha, hb, ht, hc, hu, hg⟩ := hrel
    have HCr := Lib.hid hc
    have HUr := Lib.hid hu
    have HGr := Lib.hid hg
    have hsz := hg.size
    clear hc hu hg
    have e1 : (⟨#[117]⟩ : ByteArray).size = 1 := rfl
    have e2 : (⟨#[100]⟩ : ByteArray).size = 1 := rfl
    have z1 : ¬ 9223372036854775807 < t.size + (⟨#[117]⟩ : ByteArray).size := by omega
    have z2 : ¬ 9223372036854775807 < t.size + (⟨#[100]⟩ : ByteArray).size := by omega
    have HT1 := Lib.hid (show (t ++ ⟨#[117]⟩).size = a + 1 + b by rw [ByteArray.size_append]; omega)
    have HT2 := Lib.hid (show (t ++ ⟨#[100]⟩).size = a + (b + 1) by rw [ByteArray.size_append]; omega)
    have HT := Lib.hid ht
    clear e1 e2 ht
    by_cases hbm : b < m
    · by_cases ham : a < m
      · by_cases hab : a = b
        · subst hab
          go_wp2
          exact ⟨⟨a + 1, a, _, rfl, by simp, rfl, ham, hb, HT1.out, HCr.out, HUr.out, HGr.out⟩, by simp [intOf]; omega⟩
        · have b1 : ((a : Int) == (b : Int)) = false := by simp; omega
          go_wp2_with fail
          (with_reducible refine (once_any B K A n cap 2 _ HCr.out hK HUr.out (by omega) (by omega)).mono ?_)
          rintro e w1 ⟨o, rfl, hcur, hg⟩
          have HU1 := Lib.hid hcur
          have HG1 := Lib.hid (grown_trans HGr.out hg)
          have HC1 := Lib.hid (HCr.out.keep (fun b hb => hg.block b (by omega) (by simp; omega)))
          clear hcur hg
          rcases o with _ | _
          · go_wp2
            exact ⟨⟨a, b + 1, _, rfl, rfl, by simp, ha, hbm, HT2.out, HC1.out, HU1.out, HG1.out⟩, by simp [intOf]; omega⟩
          · go_wp2
            exact ⟨⟨a + 1, b, _, rfl, by simp, rfl, ham, hb, HT1.out, HC1.out, HU1.out, HG1.out⟩, by simp [intOf]; omega⟩
      · go_wp2
        exact ⟨⟨a, b + 1, _, rfl, rfl, by simp, ha, hbm, HT2.out, HCr.out, HUr.out, HGr.out⟩, by simp [intOf]; omega⟩
    · go_wp2
      go_ret
      exact ⟨t, by rw [HT.out]; omega, rfl, HUr.out, HGr.out⟩

set_option maxRecDepth 100000 in
set_option maxHeartbeats 1600000 in
theorem path_any (B K : Nat) (A : Option Addr) (n cap : Nat) (w : World) (hc : Code w K A n) (hK : K ≤ B) (hcur : Cur w B A n cap) :
    Calls Try.prog 37 #[.pointer (some ⟨B, 0, none⟩)] w (DrewStr 12 B A n cap w) := by
  have HC := Lib.hid hc
  have HU := Lib.hid hcur
  have hBlt := hcur.lt
  clear hc hcur
  go_enter Try.func37, Try.ntmps37
  go_wp2_with fail
  (with_reducible refine (below_any B K A n cap 7 _ HC.out hK HU.out (by omega) (by omega)).mono ?_)
  rintro e w1 ⟨y, hy, rfl, hcur, hg⟩
  have HU1 := Lib.hid hcur
  have HG1 := Lib.hid hg
  have HC1 := Lib.hid (HC.out.keep (fun b hb => hg.block b (by omega) (by simp; omega)))
  clear hcur hg
  obtain ⟨y0, y7⟩ := hy
  obtain ⟨j, rfl⟩ : ∃ j : Nat, y = j := ⟨y.toNat, by omega⟩
  go_wp2_with fail
  (with_reducible refine (draw_any B K A n cap j _ HC1.out hK HU1.out (by omega)).mono ?_)
  rintro e w2 ⟨t, ht, rfl, hcur, hg⟩
  have HU2 := Lib.hid hcur
  have HG2 := Lib.hid (grown_trans HG1.out hg)
  clear hcur hg
  go_wp2
  go_ret
  exact ⟨t, by omega, rfl, HU2.out, HG2.out⟩

end Go.Proofs.Ytfkkjdggmlggbaa
