/- Replace of a strings.Replacer that has just been made. -/
import Derived.Test.YtpggglcjocnjlaaGreatBRep
namespace Go.Proofs.YtpggglcjocnjlaaGreat
open Go.ChangeShapes Go.WideShapes Go.ChangeAt Go.RowKit
set_option linter.unusedVariables false

theorem swp_fit (a b a' b' : UInt8) (q : Nat) (h : q < 256) : 0 ≤ swp a.toNat b.toNat a'.toNat b'.toNat q ∧ swp a.toNat b.toNat a'.toNat b'.toNat q ≤ 255 := by
  have h1 := a'.toNat_lt
  have h2 := b'.toNat_lt
  unfold swp
  split
  · omega
  · split <;> omega

set_option maxRecDepth 100000 in
set_option maxHeartbeats 1600000 in
theorem replaceR (B g : Nat) (a b a' b' : UInt8) (v : Value) (s : ByteArray) (w : World) (lo hi : Nat) (hv : OwnS w lo hi v (four a b a' b')) (hhi : hi ≤ g) (hr : RepAt w g 0 0 0 .nilIface v) (hB : B ≤ g) (hs : s.size ≤ 1099511627776) :
    Calls Tryz.prog 58 #[.pointer (some ⟨g, 0, none⟩), .string s] w fun e w' => e = .returned (.string (mapB (swp a.toNat b.toNat a'.toNat b'.toNat) s)) ∧ Below B w w' := by
  have HD := Lib.hid (doR B g a b a' b' .nilIface v w lo hi hv hhi hr hB)
  have hm : ∀ (t : Nat) (w : World), (method 288 113 (.pointer (some ⟨t, 0, none⟩)) "Replace").run Tryz.prog w = .ok (132, .pointer (some ⟨t, 0, none⟩)) w := fun _ _ => by kernel_rfl
  have hlt := hr.lt
  clear hr hv
  go_enter Tryz.func58, Tryz.ntmps58
  go_wp2_with (first
    | (go_at_call 68; refine HD.out.mono ?_; rintro e w1 ⟨t, rfl, hgt, htab, hrep, hb⟩; obtain ⟨-, -, -, h3, -, -⟩ := hrep.cells; unfold brV at h3; have HT := Lib.hid htab; have HB := Lib.hid hb; have hlt1 := htab.lt; clear htab hb hrep HD)
    | (go_at_call 132; refine (replaceB t _ s _ HT.out (swp_fit a b a' b') hs).mono ?_; rintro e w2 ⟨rfl, hb2⟩))
  go_ret
  exact ⟨rfl, HB.out.trans (hb2.mono (by have := HB.out.size; omega))⟩

end Go.Proofs.YtpggglcjocnjlaaGreat
