/- sync.Once's Do at a strings.Replacer that has not been built. -/
import Derived.Test.YtpggglcjocnjlaaGreatOnceR
namespace Go.Proofs.YtpggglcjocnjlaaGreat
open Go.ChangeShapes Go.WideShapes Go.ChangeAt Go.RowKit
set_option linter.unusedVariables false

def Built (B g : Nat) (f : Nat → Int) (w : World) (e : Ending) (w' : World) : Prop := ∃ t, e = .returned (.tuple #[]) ∧ g < t ∧ TabR w' t f ∧ RepAt w' g 1 0 0 (brV t) (.slice none 0 0) ∧ Below B w w'

set_option maxRecDepth 100000 in
set_option maxHeartbeats 1600000 in
theorem slowR (B g : Nat) (a b a' b' : UInt8) (r v : Value) (w : World) (lo hi : Nat) (hv : OwnS w lo hi v (four a b a' b')) (hhi : hi ≤ g) (hr : RepAt w g 0 0 0 r v) (hB : B ≤ g) :
    Calls Tryz.prog 71 #[.pointer (some ⟨g, 0, none⟩), .func (.func 69) #[.pointer (some ⟨g, 0, none⟩)] #[]] w (Built B g (swp a.toNat b.toNat a'.toNat b'.toNat) w) := by
  obtain ⟨h0, h1, -, -, -, hf⟩ := hr.cells
  have hf1 := hf 1
  have HR1 := Lib.hid (show RepAt (w.setCell ⟨g, 1, none⟩ (.int .i32 1)) g 0 1 0 r v from hr.set1)
  have HV1 := Lib.hid (hv.other (k := 1) hhi (.int .i32 1))
  have HB1 := Lib.hid ((Below.refl B w).setCell (p := ⟨g, 1, none⟩) hB (.int .i32 1))
  have HLK := Lib.hid (lock_free ⟨g, 1, none⟩ w h1 hf1)
  obtain ⟨g0, g1, -, -, -, gf⟩ := HR1.out.cells
  have hl := run_call_load (P := Tryz.prog) Tryz.func73 (by kernel_rfl) (by kernel_rfl) (by kernel_rfl) .u32 (by kernel_rfl) g0
  have hnot : ∀ (x : Bool) (w : World), (Op.unary .not (.bool x)).run Tryz.prog w = .ok (.bool (!x)) w := fun _ _ => rfl
  clear h0 h1 hf hf1 g0 g1 gf hr hv
  go_enter_defers Tryz.func71, Tryz.ntmps71
  go_wp2_with (first
    | (go_at_call 74; refine HLK.out.mono ?_; rintro e w' ⟨rfl, rfl⟩)
    | (go_at_call 70; go_in))
  refine (buildOnceR B g a b a' b' 0 1 0 r v _ lo hi HV1.out hhi HR1.out hB).mono ?_
  rintro e w2 ⟨t, rfl, hgt, htab, hrep, hb⟩
  have HT := Lib.hid htab
  have HR := Lib.hid hrep
  have HB := Lib.hid (HB1.out.trans hb)
  clear htab hrep hb hl
  go_wp2
  obtain ⟨k0, k1, -, -, -, kf⟩ := HR.out.cells
  refine leaves_cons (f := 76) (args := #[.pointer (some ⟨g, 0, none⟩), .bool true]) (by simp) (by simp [go_sem]) ?_
  refine (store_deferred ⟨g, 0, none⟩ (.int .u32 0) .returning _ k0 (kf 0)).mono ?_
  rintro e u' w'' ⟨rfl, rfl, rfl⟩
  have HR2 := Lib.hid (show RepAt (w2.drew.setCell ⟨g, 0, none⟩ (.int .u32 1)) g 1 1 0 (brV t) (.slice none 0 0) from RepAt.set0 (w := w2.drew) HR.out)
  obtain ⟨-, m1, -, -, -, mf⟩ := HR2.out.cells
  refine leaves_cons (f := 75) (args := #[.pointer (some ⟨g, 1, none⟩)]) (by simp [settle]) (by simp [go_sem]) ?_
  refine (unlock_deferred ⟨g, 1, none⟩ _ _ m1 (mf 1)).mono ?_
  rintro e u' w'' ⟨rfl, rfl, rfl⟩
  have HT3 := HT.out
  have HB3 := HB.out
  simp [Leaves, settle, results, Tryz.results71]
  exact ⟨t, rfl, hgt, (TabR.other (w := w2.drew.setCell ⟨g, 0, none⟩ (.int .u32 1)) (TabR.other (w := w2.drew) HT.out (by omega) _) (by omega) _), HR2.out.set1, ((HB.out.drew).setCell (p := ⟨g, 0, none⟩) hB _).setCell (p := ⟨g, 1, none⟩) hB _⟩

set_option maxRecDepth 100000 in
set_option maxHeartbeats 1600000 in
theorem doR (B g : Nat) (a b a' b' : UInt8) (r v : Value) (w : World) (lo hi : Nat) (hv : OwnS w lo hi v (four a b a' b')) (hhi : hi ≤ g) (hr : RepAt w g 0 0 0 r v) (hB : B ≤ g) :
    Calls Tryz.prog 68 #[.pointer (some ⟨g, 0, none⟩), .func (.func 69) #[.pointer (some ⟨g, 0, none⟩)] #[]] w (Built B g (swp a.toNat b.toNat a'.toNat b'.toNat) w) := by
  obtain ⟨h0, -, -, -, -, -⟩ := hr.cells
  have hl := run_call_load (P := Tryz.prog) Tryz.func73 (by kernel_rfl) (by kernel_rfl) (by kernel_rfl) .u32 (by kernel_rfl) h0
  have hnot : ∀ (x : Bool) (w : World), (Op.unary .not (.bool x)).run Tryz.prog w = .ok (.bool (!x)) w := fun _ _ => rfl
  have HS := Lib.hid (slowR B g a b a' b' r v w lo hi hv hhi hr hB)
  clear hr hv h0
  go_enter Tryz.func68, Tryz.ntmps68
  go_wp2_with (first
    | (go_at_call 71; refine HS.out.mono ?_; rintro e w' ⟨t, rfl, hgt, htab, hrep, hb⟩)
    | (go_at_call 70; go_in))
  go_end0
  exact ⟨t, rfl, hgt, htab, hrep, hb⟩

end Go.Proofs.YtpggglcjocnjlaaGreat
