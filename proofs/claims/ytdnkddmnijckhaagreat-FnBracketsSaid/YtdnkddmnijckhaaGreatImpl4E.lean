/- The contract of the program's ShiftBrackets. -/
import Derived.Test.YtdnkddmnijckhaaGreatImpl4D
import Derived.Lib.BufferWrite
import Derived.Laws.Strings
namespace Go.Proofs.YtdnkddmnijckhaaGreat
open Go.ChangeShapes Go.WideShapes Go.ChangeAt Go.RowKit
open Go.PlainAid (bt bt_nonneg bt_le get_bt bt_end)
set_option linter.unusedVariables false

theorem pob_empty {s : ByteArray} (h : s.size = 0) : pobGood s := by
  refine ⟨by omega, fun j hj => by omega, ?_⟩
  have hz := pobW_size s
  have : (pobW s).data.toList = [] := List.eq_nil_of_length_eq_zero (by rw [show (pobW s).data.toList.length = (pobW s).size by simp]; omega)
  rw [dyck_short (by omega), this]
  rfl
/-- The cells behind the copy. -/
theorem RowOf.copied {w : World} {g : Nat} (s : ByteArray) (C : Array Value) (h1 : w.heap[g]? = some (.cells C 5 (0, 0))) (h2 : C.size = s.size) (h3 : ∀ j, j < s.size → C[j]? = some (.int .u8 0)) (h0 : 0 < s.size) :
    RowOf (w.setRow g (C.toList.take 0 ++ Lib.byteCells (s.extract 1 s.size).data.toList ++ C.toList.drop (0 + (s.extract 1 s.size).size)).toArray) g s.size (fun q => bt s (q + 1)) := by
  have hl : (s.extract 1 s.size).data.toList.length = s.size - 1 := by simp
  have hlb : (Lib.byteCells (s.extract 1 s.size).data.toList).length = s.size - 1 := by rw [Lib.byteCells_length, hl]
  have hz : (s.extract 1 s.size).size = s.size - 1 := by simp
  refine ⟨_, setRow_heap w g C _ 5 (0, 0) h1, ?_, fun q hq => ?_⟩
  · simp only [List.size_toArray, List.length_append, List.length_take, hlb, List.length_drop, Array.length_toList, hz, h2]
    omega
  · rw [List.getElem?_toArray, List.take_zero, List.nil_append]
    by_cases e : q < s.size - 1
    · rw [List.getElem?_append_left (by omega)]
      unfold Lib.byteCells
      have hx := bt_ext s 1 s.size q (Nat.le_refl _) (by omega)
      rw [← get_bt _ q (by rw [hz]; exact e)] at hx
      rw [List.getElem?_map, List.getElem?_eq_getElem (by omega), Option.map_some, at_list _ q (by rw [hz]; exact e), hx, Nat.add_comm]
    · rw [List.getElem?_append_right (by omega), List.getElem?_drop, hlb, hz, show 0 + (s.size - 1) + (q - (s.size - 1)) = q by omega, Array.getElem?_toList, h3 q hq]
      show _ = some (Value.int .u8 (bt s (q + 1)))
      rw [bt_end s (by omega)]

set_option maxRecDepth 100000 in
set_option maxHeartbeats 1600000 in
theorem shiftBracketsI (s : ByteArray) (w : World) (hs : s.size ≤ 1099511627776) : Calls Tryz.prog 9 #[.string s] w fun e w' => e = .returned (.tuple #[.string (shiftP s), .bool (pobOk s)]) ∧ Below w.heap.size w w' := by
  by_cases h0 : s.size = 0
  · have hg := pob_empty h0
    have HG := Lib.hid (pob_yes hg)
    have HP := Lib.hid (show shiftP s = ⟨#[]⟩ from if_neg fun h => by omega)
    have hne := str_none s h0
    clear hg
    go_enter Tryz.func9, Tryz.ntmps9
    go_wp2
    go_ret2
    exact ⟨ret_sb HP.out.symm HG.out.1.symm, Below.refl _ _⟩
  have hne := str_full s (by omega)
  by_cases hg : pobGood s
  · have HG := Lib.hid (pob_yes hg)
    have hz := pobW_size s
    obtain ⟨k, hk, k1, k2, -⟩ := cutP_in hg.2.2 (by omega)
    have h16 := hg.1
    rw [hz] at k2
    have HP := Lib.hid (show shiftP s = shW s k by unfold shiftP; rw [if_pos ⟨HG.out.1, by omega⟩, hk]; rfl)
    have HK := Lib.hid (show partnerP s 0 = (k : Int) by
      unfold partnerP
      rw [if_pos ⟨HG.out.1, by omega, by omega⟩]
      exact part_cut hg.2.2 (by omega) hk)
    have HS := Lib.hid (sh_str s k k1 k2)
    obtain ⟨i0, hi0, hz0, hz1, hz2⟩ := info_parts infoB
    clear hg hk hz
    have k0 : ¬ (k : Int) < 0 := by omega
    go_enter Tryz.func9, Tryz.ntmps9
    go_wp2_with fail
    refine (partnerOfI s 0 _ hs).mono ?_
    rw [HK.out]
    rintro e w1 ⟨rfl, hb⟩
    have HB1 := Lib.hid hb
    have z1 := hb.size
    clear hb
    go_wp2_with (at_make; go_must (refine wpList_make_full _ rfl _ _ 22 rfl w1.heap.size 5 i0 (.int .u8 0) 1 Tryz.underlying22 hi0 hz0 hz1 .i64 .i64 (s.size : Int) (s.size : Int) s.size rfl rfl rfl rfl (by rw [hz2]; omega) (by unfold maxLen; omega) (Nat.le_refl _) ?_); intro w2 hown1 hgrow1)
    have hrow := RowOf.made hown1
    have HB2 := Lib.hid (HB1.out.grown hgrow1 z1 (fun k hk => by cases hk))
    have z2 := (hown1.lt w1.heap.size rfl).2
    clear hown1 hgrow1
    obtain ⟨C, c1, c2, c3⟩ := hrow
    have hcopy := Lib.run_copy_row_string (P := Tryz.prog) w2 22 9 3 5 w1.heap.size 0 s.size s.size (s.extract 1 s.size) C 5 Tryz.underlying22 (by kernel_rfl) c1 (by simp) (by simp; omega)
    have HR := Lib.hid (RowOf.copied s C c1 c2 c3 (by omega))
    have HB3 := Lib.hid (below_setRow HB2.out z1 (C.toList.take 0 ++ Lib.byteCells (s.extract 1 s.size).data.toList ++ C.toList.drop (0 + (s.extract 1 s.size).size)).toArray)
    generalize w2.setRow w1.heap.size (C.toList.take 0 ++ Lib.byteCells (s.extract 1 s.size).data.toList ++ C.toList.drop (0 + (s.extract 1 s.size).size)).toArray = W at *
    clear c1 c2 c3
    have hj1 : (k : Int) - 1 = ((k - 1 : Nat) : Int) := by omega
    have hj2 : (s.size : Int) - 1 = ((s.size - 1 : Nat) : Int) := by omega
    have hk1 : ((k - 1 : Nat) : Int) < (s.size : Int) := by omega
    have hk2 : ((s.size - 1 : Nat) : Int) < (s.size : Int) := by omega
    have hk3 : (0 : Int) ≤ ((k - 1 : Nat) : Int) := by omega
    have hk4 : (0 : Int) ≤ ((s.size - 1 : Nat) : Int) := by omega
    go_wp2
    rw [hcopy]
    clear hcopy
    have hne1 : ¬ (k - 1 = s.size - 1) := by omega
    have hne2 : ¬ (s.size - 1 = k - 1) := by omega
    have hc1 := HR.out.cell (j := k - 1) (by omega)
    have hc2 := HR.out.cell (j := s.size - 1) (by omega)
    have hf1 := HR.out.free (k - 1)
    have hf2 := HR.out.free (s.size - 1)
    have hr1 := HR.out.set (k - 1) 40 (fun q => if q = k - 1 then 40 else bt s (q + 1)) (if_pos rfl) (fun q hq => if_neg hq)
    have hr2 := hr1.set (s.size - 1) 41 (shF s k) (if_pos rfl) (fun q hq => if_neg hq)
    have hcv := hr2.conv
    rw [HS.out] at hcv
    have HB4 := Lib.hid ((HB3.out.setCell (p := ⟨w1.heap.size, k - 1, none⟩) z1 (.int .u8 40)).setCell (p := ⟨w1.heap.size, s.size - 1, none⟩) z1 (.int .u8 41))
    clear hr1 hr2 HR
    generalize bt s (k - 1 + 1) = y1 at hc1
    generalize bt s (s.size - 1 + 1) = y2 at hc2
    generalize shW s k = sh at *
    go_wp2
    go_ret2
    exact ⟨ret_sb HP.out.symm HG.out.1.symm, HB4.out⟩
  · have HG := Lib.hid (pob_no hg)
    have HP := Lib.hid (show shiftP s = ⟨#[]⟩ from if_neg (by rw [HG.out.1]; simp))
    have HK := Lib.hid (show partnerP s 0 = -1 from if_neg (by rw [HG.out.1]; simp))
    clear hg
    go_enter Tryz.func9, Tryz.ntmps9
    go_wp2_with fail
    refine (partnerOfI s 0 _ hs).mono ?_
    rw [HK.out]
    rintro e w1 ⟨rfl, hb⟩
    go_wp2
    go_ret2
    exact ⟨ret_sb HP.out.symm HG.out.1.symm, hb⟩

end Go.Proofs.YtdnkddmnijckhaaGreat
