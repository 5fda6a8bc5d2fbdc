/- The contract of build of strings.Replacer at two pairs of one letter each: a table of bytes. -/
import Derived.Test.YtpggglcjocnjlaaGreatStrs
import Derived.Test.YtpggglcjocnjlaaGreatBytes
import Derived.Laws.Tables
import Derived.Laws.CopyOwn
import Derived.Laws.Rows
namespace Go.Proofs.YtpggglcjocnjlaaGreat
open Go.ChangeShapes Go.WideShapes Go.ChangeAt Go.RowKit
set_option linter.unusedVariables false

def ZB : Array Value := Array.replicate 256 (.int .u8 0)
theorem zeroB (w : World) : (zeroValue 112).run Tryz.prog w = .ok (.agg ZB) w := by kernel_rfl
theorem sizeBR : (Tryz.prog.info? 112).map (·.size) = some 256 := by kernel_rfl
/-- Block g holds the table f of bytes. -/
def TabR (w : World) (g : Nat) (f : Nat → Int) : Prop := ∃ C : Array Value, w.heap[g]? = some (.cells C 112 (0, 0)) ∧ C.size = 256 ∧ ∀ q, q < 256 → C[q]? = some (.int .u8 (f q))
theorem TabR.lt {w : World} {g : Nat} {f : Nat → Int} (h : TabR w g f) : g < w.heap.size := by
  obtain ⟨C, h1, -⟩ := h
  exact (Array.getElem?_eq_some_iff.1 h1).1
theorem TabR.cell {w : World} {g : Nat} {f : Nat → Int} (h : TabR w g f) {q : Nat} (hq : q < 256) : w.cell? ⟨g, q, none⟩ = some (.int .u8 (f q)) ∧ w.frozen? ⟨g, q, none⟩ = false := by
  obtain ⟨C, h1, -, h2⟩ := h
  refine ⟨?_, by simp [World.frozen?, h1]⟩
  rw [cell_of_row w g q C _ (0, 0) h1]
  exact h2 q hq
theorem TabR.keep {w w' : World} {g : Nat} {f : Nat → Int} (h : TabR w g f) (e : w'.heap[g]? = w.heap[g]?) : TabR w' g f := by
  obtain ⟨C, h1, h2⟩ := h
  exact ⟨C, e.trans h1, h2⟩
theorem TabR.below {w w' : World} {g B : Nat} {f : Nat → Int} (h : TabR w g f) (hb : Below B w w') (hg : g < B) : TabR w' g f := h.keep (hb.block g hg)
theorem TabR.set {w : World} {g k : Nat} {f f' : Nat → Int} {y : Int} (h : TabR w g f) (hk : k < 256) (hy : f' k = y) (ho : ∀ q, q < 256 → q ≠ k → f' q = f q) : TabR (w.setCell ⟨g, k, none⟩ (.int .u8 y)) g f' := by
  obtain ⟨C, h1, h0, h2⟩ := h
  refine ⟨C.setIfInBounds k (.int .u8 y), by simp [World.setCell, Array.getElem?_modify, h1], by simpa using h0, fun q hq => ?_⟩
  by_cases e : q = k
  · subst e
    rw [Array.getElem?_setIfInBounds_self_of_lt (by omega), hy]
  · rw [Array.getElem?_setIfInBounds_ne (by omega), h2 q hq, ho q hq e]
theorem TabR.same {w : World} {g : Nat} {f f' : Nat → Int} (h : TabR w g f) (ho : ∀ q, q < 256 → f' q = f q) : TabR w g f' := by
  obtain ⟨C, h1, h0, h2⟩ := h
  exact ⟨C, h1, h0, fun q hq => by rw [h2 q hq, ho q hq]⟩
theorem ZB_one : ZB.all (·.oneCell') = true := by decide +kernel

/-- What the table says: a for a', b for b', all else as it is. -/
def swp (a b a' b' : Nat) (q : Nat) : Int := if q = a then (a' : Int) else if q = b then (b' : Int) else (q : Int)
/-- The four strings: a is turned to a', b to b'. -/
def four (a b a' b' : UInt8) : List ByteArray := [⟨#[a]⟩, ⟨#[a']⟩, ⟨#[b]⟩, ⟨#[b']⟩]

set_option maxRecDepth 100000 in
set_option maxHeartbeats 3200000 in
theorem buildR (g : Nat) (a b a' b' : UInt8) (v : Value) (w : World) (lo hi : Nat) (hv : OwnS w lo hi v (four a b a' b')) (hhi : hi ≤ w.heap.size) (hc : w.cell? ⟨g, 4, none⟩ = some v) :
    Calls Tryz.prog 72 #[.pointer (some ⟨g, 0, none⟩)] w fun e w' => ∃ t, e = .returned (.iface 113 (.pointer (some ⟨t, 0, none⟩))) ∧ w.heap.size ≤ t ∧ TabR w' t (swp a.toNat b.toNat a'.toNat b'.toNat) ∧ Below w.heap.size w w' := by
  obtain ⟨o, cap, rfl, -, hohi, c0, -⟩ := hv.cell (j := 0) (by simp [four])
  have hcell : ∀ j, j < 4 → w.cell? ⟨o, j, none⟩ = some (.string ((four a b a' b').getD j E0)) := by
    intro j hj
    obtain ⟨o', cap', e, -, -, h, -⟩ := hv.cell (j := j) hj
    simp only [Value.slice.injEq, Option.some.injEq, Addr.mk.injEq] at e
    rw [e.1.1]; exact h
  have c1 := hcell 1 (by omega)
  have c2 := hcell 2 (by omega)
  have c3 := hcell 3 (by omega)
  simp only [four, List.getD_cons_zero, List.getD_cons_succ] at c0 c1 c2 c3
  have hlen : (four a b a' b').length = 4 := rfl
  rw [hlen] at hc
  have HV := Lib.hid hv
  have hz := zeroB
  have HZA := Lib.hid ZB_one
  have HZS := Lib.hid (show ZB.size = 256 by simp [ZB])
  have HZC := Lib.hid (show ∀ q, q < 256 → ZB[q]? = some (.int .u8 0) from fun q hq => by simp [ZB, hq])
  generalize ZB = zz at hz HZA HZS HZC
  clear hcell hlen hv
  go_enter Tryz.func72, Tryz.ntmps72
  go_wp2
  go_loop [4, 5] (fun x y => x = .bool true ∧ (y = .int .i64 0 ∨ y = .int .i64 2 ∨ y = .int .i64 4)) (fun _ y => 4 - (intOf y).toNat)
  case atStart => exact ⟨rfl, .inl rfl⟩
  case round =>
    obtain ⟨rfl, rfl | rfl | rfl⟩ := hrel
    · go_wp2
      exact ⟨⟨rfl, .inr (.inl rfl)⟩, by simp [intOf]⟩
    · go_wp2
      exact ⟨⟨rfl, .inr (.inr rfl)⟩, by simp [intOf]⟩
    · have HNEW := Lib.hid (show (w.alloc (.cells zz 112)).heap[w.heap.size]? = some (.cells zz 112 (0, 0)) from heap_alloc_new w _)
      go_wp2_with (refine wpList_store_row rfl _ _ _ rfl w.heap.size zz rfl rfl 112 zz HNEW.out (by rw [HZS.out]; exact sizeBR) rfl HZA.out ?_)
      have HT0 := Lib.hid (show TabR ((w.alloc (.cells zz 112)).setRow w.heap.size zz) w.heap.size (fun _ => 0) from ⟨zz, setRow_heap _ _ _ _ _ (0, 0) HNEW.out, HZS.out, HZC.out⟩)
      have HB0 := Lib.hid (below_setRow ((Below.refl w.heap.size w).alloc (Nat.le_refl _) (.cells zz 112)) (Nat.le_refl _) zz)
      generalize (w.alloc (.cells zz 112)).setRow w.heap.size zz = W1 at HT0 HB0
      go_loopw [61] (fun y wr => ∃ k : Nat, k ≤ 256 ∧ y = .int .i64 k ∧ TabR wr w.heap.size (fun q => if q < k then (q : Int) else 0) ∧ Below w.heap.size w wr) (fun y _ => 256 - (intOf y).toNat)
      case atStart => exact ⟨0, by omega, rfl, HT0.out.same (fun q _ => by simp), HB0.out⟩
      case round =>
        obtain ⟨k, hk, rfl, ht, hb⟩ := hrel
        have HT := Lib.hid ht
        have HB := Lib.hid hb
        clear ht hb
        by_cases hlt : k < 256
        · have hki : (k : Int) < 256 := by omega
          obtain ⟨hck, hfk⟩ := HT.out.cell hlt
          have hu8 : IntKind.u8.wrap (k : Int) = (k : Int) := by rw [IntKind.wrap_u8]; omega
          go_wp2
          refine ⟨⟨k + 1, by omega, by simp, ?_, HB.out.setCell (p := ⟨w.heap.size, k, none⟩) (Nat.le_refl _) _⟩, by simp [intOf]; omega⟩
          exact HT.out.set hlt (by simp) (fun q _ hne => by
            by_cases e : q < k
            · rw [if_pos e, if_pos (by omega)]
            · rw [if_neg e, if_neg (by omega)])
        · obtain rfl : k = 256 := by omega
          have HTI := Lib.hid (HT.out.same (f' := fun q => (q : Int)) (fun q hq => by rw [if_pos hq]))
          have ha0 : ∀ h : 0 < (⟨#[a]⟩ : ByteArray).size, (⟨#[a]⟩ : ByteArray)[0]'h = a := fun _ => rfl
          have hb0 : ∀ h : 0 < (⟨#[b]⟩ : ByteArray).size, (⟨#[b]⟩ : ByteArray)[0]'h = b := fun _ => rfl
          have ha1 : ∀ h : 0 < (⟨#[a']⟩ : ByteArray).size, (⟨#[a']⟩ : ByteArray)[0]'h = a' := fun _ => rfl
          have hb1 : ∀ h : 0 < (⟨#[b']⟩ : ByteArray).size, (⟨#[b']⟩ : ByteArray)[0]'h = b' := fun _ => rfl
          have hal := a.toNat_lt
          have hbl := b.toNat_lt
          have hali : (a.toNat : Int) < 256 := by omega
          have hbli : (b.toNat : Int) < 256 := by omega
          go_wp2
          go_loopw [8] (fun y wr => Below w.heap.size w wr ∧ ((y = .int .i64 2 ∧ TabR wr w.heap.size (fun q => (q : Int))) ∨ (y = .int .i64 0 ∧ TabR wr w.heap.size (fun q => if q = b.toNat then (b'.toNat : Int) else (q : Int))) ∨ (y = .int .i64 (-2) ∧ TabR wr w.heap.size (swp a.toNat b.toNat a'.toNat b'.toNat)))) (fun y _ => (intOf y + 2).toNat)
          case atStart => exact ⟨HB.out, .inl ⟨rfl, HTI.out⟩⟩
          case round =>
            obtain ⟨hb, hcase⟩ := hrel
            have HBR := Lib.hid hb
            have HK := Lib.hid (fun j => hb.cell (p := ⟨o, j, none⟩) (show o < w.heap.size by omega))
            clear hb
            rcases hcase with ⟨rfl, ht⟩ | ⟨rfl, ht⟩ | ⟨rfl, ht⟩
            · have HTR := Lib.hid ht
              have d2 := (HK.out 2).trans c2
              have d3 := (HK.out 3).trans c3
              obtain ⟨hcc, hff⟩ := ht.cell hbl
              clear ht
              go_wp2
              refine ⟨⟨HBR.out.setCell (p := ⟨w.heap.size, b.toNat, none⟩) (Nat.le_refl _) _, .inr (.inl ⟨rfl, ?_⟩)⟩, by simp [intOf]⟩
              exact HTR.out.set hbl (by simp) (fun q _ hne => by simp [hne])
            · have HTR := Lib.hid ht
              have d0 := (HK.out 0).trans c0
              have d1 := (HK.out 1).trans c1
              obtain ⟨hcc, hff⟩ := ht.cell hal
              generalize (if a.toNat = b.toNat then (b'.toNat : Int) else (a.toNat : Int)) = z0 at hcc
              clear ht
              go_wp2
              refine ⟨⟨HBR.out.setCell (p := ⟨w.heap.size, a.toNat, none⟩) (Nat.le_refl _) _, .inr (.inr ⟨rfl, ?_⟩)⟩, by simp [intOf]⟩
              exact HTR.out.set hal (by simp [swp]) (fun q _ hne => by unfold swp; rw [if_neg hne])
            · have HTR := Lib.hid ht
              clear ht
              go_wp2
              go_ret
              exact ⟨w.heap.size, rfl, Nat.le_refl _, HTR.out, HBR.out⟩

end Go.Proofs.YtpggglcjocnjlaaGreat
