/- The contracts of the drawing functions for brackets: words of at most 12 signs. -/
import Derived.Test.YtdnkddmnijckhaaGreatDrawP
import Derived.Test.YtdnkddmnijckhaaGreatSpec4A
namespace Go.Proofs.YtdnkddmnijckhaaGreat
open Go.ChangeShapes Go.WideShapes Go.ChangeAt Go.RowKit
set_option linter.unusedVariables false

def words5 : List ByteArray := [⟨#[]⟩, ⟨#[41, 40]⟩, ⟨#[40]⟩, ⟨#[40, 120, 41]⟩, ⟨#[40, 41, 40, 41]⟩]
def Short (s : ByteArray) : Prop := s.size ≤ 12
theorem words5_in : ∀ z ∈ words5, Short z := by
  intro z hz
  simp only [words5, List.mem_cons, List.not_mem_nil, or_false] at hz
  rcases hz with rfl | rfl | rfl | rfl | rfl <;> (unfold Short; decide)
theorem brackets_size (s : ByteArray) : (bracketsP s).size ≤ s.size := by
  unfold bracketsP; split
  · rw [str_len, brL_len]; omega
  · exact Nat.zero_le _

set_option maxRecDepth 100000 in
set_option maxHeartbeats 3200000 in
theorem brk_any (B K : Nat) (A : Option Addr) (n cap : Nat) (w : World) (hc : Code w K A n) (hK : K ≤ B) (hcur : Cur w B A n cap) :
    Calls Tryz.prog 26 #[.pointer (some ⟨B, 0, none⟩)] w (DrewS Short B A n cap w) := by
  have HC := Lib.hid hc
  have HU := Lib.hid hcur
  have hBlt := hcur.lt
  clear hc hcur
  go_enter Tryz.func26, Tryz.ntmps26
  go_wp2_with fail
  (with_reducible refine (path_any B K A n cap _ HC.out hK HU.out).mono ?_)
  rintro e w1 ⟨t, ht, rfl, hcur, hg⟩
  have HU1 := Lib.hid hcur
  have HG1 := Lib.hid hg
  have HC1 := Lib.hid (HC.out.keep (fun b hb => hg.block b (by omega) (by simp; omega)))
  have z1 := hg.size
  clear hcur hg
  have hbs := brackets_size t
  go_wp2_with fail
  (with_reducible refine (bracketsOf t _ (by omega)).mono ?_)
  rintro e w2 ⟨rfl, rfl⟩
  generalize bracketsP t = t1 at *
  rcases hd : dyck t with _ | _
  · clear hd
    go_wp2_with fail
    (with_reducible refine (pickS_any Short 5 B K w1.heap.size A n cap _ (HC1.out.keep (fun b hb => Below.heap_alloc w1 _ b (by omega))) hK (HU1.out.keep (Below.heap_alloc w1 _ B (by omega))) (by omega) (by simp) (by omega) (by omega) ?hl).mono ?_)
    case hl => exact strs_cells Short w1 words5 words5_in
    rintro e w3 ⟨t2, ht2, rfl, hcur, hg⟩
    have HU3 := Lib.hid hcur
    have HG3 := Lib.hid (grown_trans (grown_alloc HG1.out _) hg)
    clear hcur hg
    go_wp2
    go_ret
    exact ⟨t2, ht2, rfl, HU3.out, HG3.out⟩
  · clear hd
    go_wp2_with fail
    (with_reducible refine (once_any B K A n cap 10 _ HC1.out hK HU1.out (by omega) (by omega)).mono ?_)
    rintro e w2 ⟨o, rfl, hcur, hg⟩
    have HU2 := Lib.hid hcur
    have HG2 := Lib.hid (grown_trans HG1.out hg)
    have HC2 := Lib.hid (HC1.out.keep (fun b hb => hg.block b (by omega) (by simp; omega)))
    have z2 := hg.size
    clear hcur hg
    rcases o with _ | _
    · go_wp2
      go_ret
      exact ⟨t1, by unfold Short; omega, rfl, HU2.out, HG2.out⟩
    · go_wp2_with fail
      (with_reducible refine (pickS_any Short 5 B K w2.heap.size A n cap _ (HC2.out.keep (fun b hb => Below.heap_alloc w2 _ b (by omega))) hK (HU2.out.keep (Below.heap_alloc w2 _ B (by omega))) (by omega) (by simp) (by omega) (by omega) ?hl).mono ?_)
      case hl => exact strs_cells Short w2 words5 words5_in
      rintro e w3 ⟨t2, ht2, rfl, hcur, hg⟩
      have HU3 := Lib.hid hcur
      have HG3 := Lib.hid (grown_trans (grown_alloc HG2.out _) hg)
      clear hcur hg
      go_wp2
      go_ret
      exact ⟨t2, ht2, rfl, HU3.out, HG3.out⟩

def DrawsP (P : ByteArray → Prop) (w : World) (e : Ending) (w' : World) : Prop := ∃ s : ByteArray, P s ∧ e = .returned (.string s) ∧ Below w.heap.size w w'
def DrawsPI (w : World) (e : Ending) (w' : World) : Prop := ∃ (s : ByteArray) (y : Int), Short s ∧ -1 ≤ y ∧ y ≤ 100 ∧ e = .returned (.tuple #[.string s, .int .i64 y]) ∧ Below w.heap.size w w'

set_option maxRecDepth 100000 in
set_option maxHeartbeats 1600000 in
theorem drawBrackets (A : Option Addr) (n cap : Nat) (w : World) (hc : Code w w.heap.size A n) : Calls Tryz.prog 16 #[.slice A n cap] w (DrawsP Word w) := by
  have HC := Lib.hid hc
  clear hc
  go_enter Tryz.func16, Tryz.ntmps16
  go_wp2_with fail
  (with_reducible refine (new_any A n cap _ HC.out).mono ?_)
  rintro e w1 ⟨B, hB, rfl, hcur, hb⟩
  have HU := Lib.hid hcur
  have HB := Lib.hid hb
  have HC1 := Lib.hid (HC.out.keep hb.block)
  clear hcur hb
  go_wp2_with fail
  (with_reducible refine (any_any B w.heap.size A n cap _ HC1.out hB HU.out).mono ?_)
  rintro e w2 ⟨s, hs, rfl, hcur, hg⟩
  have HS := Lib.hid hs
  have HG := Lib.hid (below_of_grown HB.out hg hB)
  clear hs hcur hg
  go_wp2
  go_ret
  exact ⟨s, HS.out, rfl, HG.out⟩

set_option maxRecDepth 100000 in
set_option maxHeartbeats 1600000 in
theorem drawPathOfBrackets (A : Option Addr) (n cap : Nat) (w : World) (hc : Code w w.heap.size A n) : Calls Tryz.prog 21 #[.slice A n cap] w (DrawsP Short w) := by
  have HC := Lib.hid hc
  clear hc
  go_enter Tryz.func21, Tryz.ntmps21
  go_wp2_with fail
  (with_reducible refine (new_any A n cap _ HC.out).mono ?_)
  rintro e w1 ⟨B, hB, rfl, hcur, hb⟩
  have HU := Lib.hid hcur
  have HB := Lib.hid hb
  have HC1 := Lib.hid (HC.out.keep hb.block)
  clear hcur hb
  go_wp2_with fail
  (with_reducible refine (brk_any B w.heap.size A n cap _ HC1.out hB HU.out).mono ?_)
  rintro e w2 ⟨s, hs, rfl, hcur, hg⟩
  have HS := Lib.hid hs
  have HG := Lib.hid (below_of_grown HB.out hg hB)
  clear hs hcur hg
  go_wp2
  go_ret
  exact ⟨s, HS.out, rfl, HG.out⟩

set_option maxRecDepth 100000 in
set_option maxHeartbeats 1600000 in
theorem drawShift (A : Option Addr) (n cap : Nat) (w : World) (hc : Code w w.heap.size A n) : Calls Tryz.prog 8 #[.slice A n cap] w (DrawsP Short w) := by
  have HC := Lib.hid hc
  clear hc
  go_enter Tryz.func8, Tryz.ntmps8
  go_wp2_with fail
  (with_reducible refine (new_any A n cap _ HC.out).mono ?_)
  rintro e w1 ⟨B, hB, rfl, hcur, hb⟩
  have HU := Lib.hid hcur
  have HB := Lib.hid hb
  have HC1 := Lib.hid (HC.out.keep hb.block)
  clear hcur hb
  go_wp2_with fail
  (with_reducible refine (brk_any B w.heap.size A n cap _ HC1.out hB HU.out).mono ?_)
  rintro e w2 ⟨s, hs, rfl, hcur, hg⟩
  have HS := Lib.hid hs
  have HG := Lib.hid (below_of_grown HB.out hg hB)
  clear hs hcur hg
  go_wp2
  go_ret
  exact ⟨s, HS.out, rfl, HG.out⟩

set_option maxRecDepth 100000 in
set_option maxHeartbeats 1600000 in
theorem drawPartner (A : Option Addr) (n cap : Nat) (w : World) (hc : Code w w.heap.size A n) : Calls Tryz.prog 5 #[.slice A n cap] w (DrawsPI w) := by
  have HC := Lib.hid hc
  clear hc
  go_enter Tryz.func5, Tryz.ntmps5
  go_wp2_with fail
  (with_reducible refine (new_any A n cap _ HC.out).mono ?_)
  rintro e w1 ⟨B, hB, rfl, hcur, hb⟩
  have HU := Lib.hid hcur
  have HB := Lib.hid hb
  have HC1 := Lib.hid (HC.out.keep hb.block)
  have hBlt := hcur.lt
  clear hcur hb
  go_wp2_with fail
  (with_reducible refine (brk_any B w.heap.size A n cap _ HC1.out hB HU.out).mono ?_)
  rintro e w2 ⟨s, hs, rfl, hcur, hg⟩
  have HS := Lib.hid hs
  have hs12 : s.size ≤ 12 := hs
  have HU2 := Lib.hid hcur
  have HC2 := Lib.hid (HC1.out.keep (fun b hb => hg.block b (by omega) (by simp; omega)))
  have HG := Lib.hid (below_of_grown HB.out hg hB)
  clear hs hcur hg
  go_wp2_with fail
  (with_reducible refine (below_any B w.heap.size A n cap ((s.size : Int) + 2) _ HC2.out hB HU2.out (by omega) (by omega)).mono ?_)
  rintro e w3 ⟨y, hy, rfl, hcur, hg⟩
  have HG3 := Lib.hid (below_of_grown HG.out hg hB)
  obtain ⟨y0, y1⟩ := hy
  clear hcur hg
  go_wp2
  go_ret2
  exact ⟨s, y - 1, HS.out, by omega, by omega, rfl, HG3.out⟩

end Go.Proofs.YtdnkddmnijckhaaGreat
