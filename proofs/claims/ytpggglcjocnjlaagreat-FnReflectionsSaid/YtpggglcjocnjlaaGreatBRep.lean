/- The contract of Replace of a table of bytes. -/
import Derived.Test.YtpggglcjocnjlaaGreatOnceS
import Derived.Test.YtpggglcjocnjlaaGreatImpl2C
import Derived.Laws.IdiomStrings
import Derived.WalkSpells
import Derived.Lib.LazyBuf
namespace Go.Proofs.YtpggglcjocnjlaaGreat
open Go.ChangeShapes Go.WideShapes Go.ChangeAt Go.RowKit
set_option linter.unusedVariables false

/-- Every letter turned by the table. -/
def mapB (f : Nat → Int) (s : ByteArray) : ByteArray := ⟨(s.data.toList.map fun c => UInt8.ofNat (f c.toNat).toNat).toArray⟩
/-- Block g begins with n bytes f; nobody has frozen them. -/
def RowF (w : World) (g n : Nat) (f : Nat → Int) : Prop := ∃ (C : Array Value), w.heap[g]? = some (.cells C 5 (C.size, C.size + 1)) ∧ n ≤ C.size ∧ ∀ j, j < n → C[j]? = some (.int .u8 (f j))
theorem RowF.cell {w : World} {g n : Nat} {f : Nat → Int} (h : RowF w g n f) {q : Nat} (hq : q < n) : w.cell? ⟨g, q, none⟩ = some (.int .u8 (f q)) ∧ w.frozen? ⟨g, q, none⟩ = false := by
  obtain ⟨C, h1, h2, h3⟩ := h
  refine ⟨?_, ?_⟩
  · rw [cell_of_row w g q C _ _ h1]
    exact h3 q hq
  · simp [World.frozen?, h1]
    omega
theorem RowF.set {w : World} {g n k : Nat} {f f' : Nat → Int} {y : Int} (h : RowF w g n f) (hk : k < n) (hy : f' k = y) (ho : ∀ q, q < n → q ≠ k → f' q = f q) : RowF (w.setCell ⟨g, k, none⟩ (.int .u8 y)) g n f' := by
  obtain ⟨C, h1, h0, h2⟩ := h
  refine ⟨C.setIfInBounds k (.int .u8 y), by simp [World.setCell, Array.getElem?_modify, h1], by simpa using h0, fun q hq => ?_⟩
  by_cases e : q = k
  · subst e
    rw [Array.getElem?_setIfInBounds_self_of_lt (by omega), hy]
  · rw [Array.getElem?_setIfInBounds_ne (by omega), h2 q hq, ho q hq e]
theorem RowF.same {w : World} {g n : Nat} {f f' : Nat → Int} (h : RowF w g n f) (ho : ∀ q, q < n → f' q = f q) : RowF w g n f' := by
  obtain ⟨C, h1, h0, h2⟩ := h
  exact ⟨C, h1, h0, fun q hq => by rw [h2 q hq, ho q hq]⟩

theorem getAt (s : ByteArray) (i : Nat) (h : i < s.size) (d : UInt8) : s.data.toList.getD i d = s[i] := by
  rw [List.getD_eq_getElem?_getD, List.getElem?_eq_getElem (by simpa using h), Option.getD_some, at_list s i h]
theorem RowF.bytes (w : World) (s : ByteArray) (cap : Nat) : RowF (w.drew.alloc (.cells (bytesRow s cap) 5 ((bytesRow s cap).size, (bytesRow s cap).size + 1))) w.heap.size s.size (fun q => ((s.data.toList.getD q 0).toNat : Int)) := by
  refine ⟨bytesRow s cap, heap_alloc_new w.drew _, by simp [bytesRow], fun j hj => ?_⟩
  unfold bytesRow
  rw [Array.getElem?_append_left (by simpa using hj), Array.getElem?_map, Array.getElem?_eq_getElem (show j < s.data.size from hj)]
  show some (Value.int .u8 (s.data[j].toNat : Int)) = some (.int .u8 ((s.data.toList.getD j 0).toNat : Int))
  rw [getAt s j hj]
  rfl
theorem RowF.conv {w : World} {g n : Nat} {f : Nat → Int} (h : RowF w g n f) (c : Nat) : (convert 22 9 (.slice (some ⟨g, 0, none⟩) n c)).run Tryz.prog w = .ok (.string (strOfNums ((List.range n).map f))) w := by
  refine run_convert_bytes_arg w 22 5 Tryz.underlying22 Tryz.underlying5 g 0 n c _ (by simp) (fun i hi => ?_) 9 Tryz.underlying9
  rw [Nat.zero_add, (h.cell hi).1]
  simp [List.getD, hi]
/-- The bytes when the first i have been turned. -/
def mpF (f : Nat → Int) (s : ByteArray) (i : Nat) : Nat → Int := fun q => if q < i then f (s.data.toList.getD q 0).toNat else ((s.data.toList.getD q 0).toNat : Int)
theorem mp_all (f : Nat → Int) (s : ByteArray) : strOfNums ((List.range s.size).map (mpF f s s.size)) = mapB f s := by
  unfold strOfNums mapB
  rw [List.map_map]
  congr 2
  apply List.ext_getElem (by simp)
  intro i h1 h2
  have hi : i < s.size := by simpa using h1
  simp only [List.getElem_map, List.getElem_range, Function.comp]
  unfold mpF
  rw [if_pos hi, getAt s i hi, at_list s i hi]
theorem map_none (f : Nat → Int) (s : ByteArray) (h : ∀ j (hj : j < s.size), f s[j].toNat = (s[j].toNat : Int)) : mapB f s = s := by
  unfold mapB
  apply ByteArray.ext
  apply Array.ext (by simp)
  intro i h1 h2
  have hi : i < s.size := h2
  simp only [List.getElem_toArray, List.getElem_map]
  rw [at_list s i hi, h i hi]
  apply UInt8.toNat_inj.1
  simp
  rfl

set_option maxRecDepth 100000 in
set_option maxHeartbeats 3200000 in
theorem replaceB (t : Nat) (f : Nat → Int) (s : ByteArray) (w : World) (ht : TabR w t f) (hf : ∀ q, q < 256 → 0 ≤ f q ∧ f q ≤ 255) (hs : s.size ≤ 1099511627776) :
    Calls Tryz.prog 132 #[.pointer (some ⟨t, 0, none⟩), .string s] w fun e w' => e = .returned (.string (mapB f s)) ∧ Below w.heap.size w w' := by
  have hcv := fun w : World => run_bytes_of_string (P := Tryz.prog) w 9 22 5 s Tryz.underlying9 Tryz.underlying22 Tryz.underlying5
  have hnil := fun (w : World) (a : Option Addr) (l c : Nat) => Go.Lib.run_eql_slice_nil (P := Tryz.prog) w 22 5 a l c 0 0 Tryz.underlying22
  have HT := Lib.hid ht
  have HBY := Lib.hid (fun (w : World) => RowF.bytes w s (grownCap w s.size 0 5))
  have tlt := ht.lt
  clear ht
  go_enter Tryz.func132, Tryz.ntmps132
  go_wp2
  go_loopw [5, 6] (fun x y wr => ∃ i : Nat, i ≤ s.size ∧ y = .int .i64 i ∧ Below w.heap.size w wr ∧ ((x = .slice none 0 0 ∧ ∀ j (hj : j < s.size), j < i → f s[j].toNat = (s[j].toNat : Int)) ∨ (∃ g c, x = .slice (some ⟨g, 0, none⟩) s.size c ∧ w.heap.size ≤ g ∧ RowF wr g s.size (mpF f s i)))) (fun _ y _ => s.size - (intOf y).toNat)
  case atStart => exact ⟨0, Nat.zero_le _, rfl, Below.refl _ _, .inl ⟨rfl, fun j _ h => by omega⟩⟩
  case round =>
    obtain ⟨i, hi, rfl, hb, hcase⟩ := hrel
    have HB := Lib.hid hb
    have zB := hb.size
    clear hb
    by_cases hlt : i < s.size
    · have hil : (i : Int) < (s.size : Int) := by omega
      have h256 := s[i].toNat_lt
      have h256i : (s[i].toNat : Int) < 256 := by omega
      obtain ⟨hcell, -⟩ := (HT.out.below HB.out tlt).cell h256
      have hfb := hf _ h256
      have HNXT := Lib.hid (show ∀ q, q < s.size → q ≠ i → mpF f s (i + 1) q = mpF f s i q from fun q _ hne => by
        unfold mpF
        by_cases e : q < i
        · rw [if_pos e, if_pos (by omega)]
        · rw [if_neg e, if_neg (by omega)])
      have HAT := Lib.hid (show mpF f s (i + 1) i = f s[i].toNat by unfold mpF; rw [if_pos (by omega), getAt s i hlt])
      by_cases e : f s[i].toNat = (s[i].toNat : Int)
      · have hne : (f s[i].toNat != (s[i].toNat : Int)) = false := by simp [e]
        have HSAME := Lib.hid (show mpF f s (i + 1) i = mpF f s i i by rw [HAT.out, e]; unfold mpF; rw [if_neg (by omega), getAt s i hlt])
        have HE := Lib.hid e
        clear e
        rcases hcase with ⟨rfl, hall⟩ | ⟨g, c, rfl, hg, hrow⟩
        · have HALL := Lib.hid hall
          clear hall
          go_wp2
          refine ⟨⟨i + 1, by omega, by simp, HB.out, .inl ⟨rfl, fun j hj hji => ?_⟩⟩, by simp [intOf]; omega⟩
          by_cases h : j = i
          · subst h; exact HE.out
          · exact HALL.out j hj (by omega)
        · have HROW := Lib.hid hrow
          clear hrow
          go_wp2
          refine ⟨⟨i + 1, by omega, by simp, HB.out, .inr ⟨g, c, rfl, hg, HROW.out.same (fun q hq => ?_)⟩⟩, by simp [intOf]; omega⟩
          by_cases h : q = i
          · subst h; exact HSAME.out
          · exact HNXT.out q hq h
      · have hne : (f s[i].toNat != (s[i].toNat : Int)) = true := by simp [e]
        clear e
        rcases hcase with ⟨rfl, hall⟩ | ⟨g, c, rfl, hg, hrow⟩
        · have HALL := Lib.hid hall
          have hzero := HBY.out wr
          have HROW := Lib.hid (hzero.same (f' := mpF f s i) (fun q hq => by
            unfold mpF
            by_cases h : q < i
            · rw [if_pos h, getAt s q hq]; exact hall q hq h
            · rw [if_neg h]))
          clear hall hzero
          have HB2 := Lib.hid ((HB.out.drew).alloc (show w.heap.size ≤ wr.drew.heap.size from zB) (.cells (bytesRow s (grownCap wr s.size 0 5)) 5 ((bytesRow s (grownCap wr s.size 0 5)).size, (bytesRow s (grownCap wr s.size 0 5)).size + 1)))
          obtain ⟨hcell2, -⟩ := (HT.out.below HB2.out tlt).cell h256
          obtain ⟨hold, hfr⟩ := HROW.out.cell hlt
          generalize mpF f s i i = z0 at hold
          have hcvw := hcv wr
          generalize hW : wr.drew.alloc (.cells (bytesRow s (grownCap wr s.size 0 5)) 5 ((bytesRow s (grownCap wr s.size 0 5)).size, (bytesRow s (grownCap wr s.size 0 5)).size + 1)) = W at *
          generalize grownCap wr s.size 0 5 = cap at hcvw
          have hni := hnil
          clear hcv hW
          go_wp2
          refine ⟨⟨i + 1, by omega, by simp, HB2.out.setCell (p := ⟨wr.heap.size, i, none⟩) zB _, .inr ⟨wr.heap.size, cap, rfl, zB, ?_⟩⟩, by simp [intOf]; omega⟩
          exact HROW.out.set hlt HAT.out HNXT.out
        · have HROW := Lib.hid hrow
          obtain ⟨hold, hfr⟩ := hrow.cell hlt
          generalize mpF f s i i = z0 at hold
          clear hrow
          go_wp2
          refine ⟨⟨i + 1, by omega, by simp, HB.out.setCell (p := ⟨g, i, none⟩) hg _, .inr ⟨g, c, rfl, hg, ?_⟩⟩, by simp [intOf]; omega⟩
          exact HROW.out.set hlt HAT.out HNXT.out
    · obtain rfl : i = s.size := by omega
      rcases hcase with ⟨rfl, hall⟩ | ⟨g, c, rfl, hg, hrow⟩
      · have HM := Lib.hid (map_none f s (fun j hj => hall j hj hj))
        clear hall
        go_wp2
        go_ret
        exact ⟨ret_s HM.out.symm, HB.out⟩
      · have hcv2 := hrow.conv c
        rw [mp_all] at hcv2
        clear hrow
        go_wp2
        go_ret
        exact ⟨rfl, HB.out⟩

end Go.Proofs.YtpggglcjocnjlaaGreat
