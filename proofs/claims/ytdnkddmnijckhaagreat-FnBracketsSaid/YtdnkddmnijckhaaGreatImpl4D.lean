/- The contract of the program's PartnerOf. -/
import Derived.Test.YtdnkddmnijckhaaGreatImpl4C
namespace Go.Proofs.YtdnkddmnijckhaaGreat
open Go.ChangeShapes Go.WideShapes Go.ChangeAt Go.RowKit
open Go.PlainAid (bt bt_nonneg bt_le get_bt bt_end)
set_option linter.unusedVariables false

set_option maxRecDepth 100000 in
set_option maxHeartbeats 1600000 in
theorem partnerOfI (s : ByteArray) (i : Int) (w : World) (hs : s.size ≤ 1099511627776) : Calls Tryz.prog 6 #[.string s, .int .i64 i] w fun e w' => e = .returned (.int .i64 (partnerP s i)) ∧ Below w.heap.size w w' := by
  by_cases hg : pobGood s
  · have HG := Lib.hid (pob_yes hg)
    have hz := pobW_size s
    have HD := Lib.hid hg.2.2
    clear hg
    by_cases i0 : i < 0
    · have HP := Lib.hid (show partnerP s i = -1 from if_neg (by omega))
      go_enter Tryz.func6, Tryz.ntmps6
      go_wp2_with fail
      refine (pathOfBracketsI s _ hs).mono ?_
      rw [HG.out.1, HG.out.2]
      rintro e w' ⟨rfl, hb⟩
      go_wp2
      go_ret
      exact ⟨ret_int HP.out.symm, hb⟩
    · by_cases i1 : (s.size : Int) ≤ i
      · have HP := Lib.hid (show partnerP s i = -1 from if_neg (by omega))
        go_enter Tryz.func6, Tryz.ntmps6
        go_wp2_with fail
        refine (pathOfBracketsI s _ hs).mono ?_
        rw [HG.out.1, HG.out.2]
        rintro e w' ⟨rfl, hb⟩
        go_wp2
        go_ret
        exact ⟨ret_int HP.out.symm, hb⟩
      · obtain ⟨k, rfl⟩ : ∃ k : Nat, i = k := ⟨i.toNat, by omega⟩
        have HP := Lib.hid (show partnerP s k = partL (pobW s) k from if_pos ⟨HG.out.1, by omega, by omega⟩)
        have hki : (k : Int) < (s.size : Int) := by omega
        have i1' : ¬ (s.size : Int) ≤ (k : Int) := i1
        go_enter Tryz.func6, Tryz.ntmps6
        go_wp2_with fail
        refine (pathOfBracketsI s _ hs).mono ?_
        rw [HG.out.1, HG.out.2]
        rintro e w1 ⟨rfl, hb1⟩
        have z1 := hb1.size
        go_wp2_with fail
        (with_reducible refine (partnersOfI (pobW s) _ HD.out (by omega)).mono ?_)
        rintro e w2 ⟨v, rfl, ho, hb⟩
        have HB := Lib.hid (hb1.trans (hb.mono z1))
        obtain ⟨g1, p1, e1, -, -, hc1, -⟩ := ho.cell (j := k) (by rw [partsP_len]; omega)
        rw [partsP_at _ _ (by omega)] at hc1
        rw [partsP_len, hz] at e1
        subst e1
        clear ho hb hb1
        generalize partL (pobW s) k = y at *
        go_wp2
        go_ret
        exact ⟨ret_int HP.out.symm, HB.out⟩
  · have HG := Lib.hid (pob_no hg)
    have HP := Lib.hid (show partnerP s i = -1 from if_neg (by rw [HG.out.1]; simp))
    clear hg
    go_enter Tryz.func6, Tryz.ntmps6
    go_wp2_with fail
    refine (pathOfBracketsI s _ hs).mono ?_
    rw [HG.out.1, HG.out.2]
    rintro e w' ⟨rfl, hb⟩
    go_wp2
    go_ret
    exact ⟨ret_int HP.out.symm, hb⟩

/-! Strings by their bytes. -/
theorem bt_at_or (s : ByteArray) (k : Nat) : bt s k = (s.data.toList.map fun c => (c.toNat : Int)).getD k 0 := by
  by_cases h : k < s.size
  · rw [← get_bt s k h, List.getD_eq_getElem?_getD, List.getElem?_eq_getElem (by simpa using h)]
    simp; rfl
  · rw [bt_end s (by omega), List.getD_eq_getElem?_getD, List.getElem?_eq_none (by simpa using h)]
    rfl
theorem bt_app (a b : ByteArray) (q : Nat) : bt (a ++ b) q = if q < a.size then bt a q else bt b (q - a.size) := by
  rw [bt_at_or, ByteArray.data_append, Array.toList_append, List.map_append]
  have hl : (a.data.toList.map fun c => (c.toNat : Int)).length = a.size := by simp
  split
  · rename_i h
    rw [bt_at_or, List.getD_eq_getElem?_getD, List.getElem?_append_left (by omega), List.getD_eq_getElem?_getD]
  · rename_i h
    rw [bt_at_or, List.getD_eq_getElem?_getD, List.getElem?_append_right (by omega), List.getD_eq_getElem?_getD, hl]
theorem bt_ext (s : ByteArray) (a b q : Nat) (hb : b ≤ s.size) (h : a + q < b) : bt (s.extract a b) q = bt s (a + q) := by
  rw [bt_at_or, bt_at_or, ByteArray.data_extract, Array.toList_extract, List.extract_eq_take_drop, List.getD_eq_getElem?_getD, List.getD_eq_getElem?_getD, List.getElem?_map, List.getElem?_map, List.getElem?_take, if_pos (by omega), List.getElem?_drop]
theorem bt_nums (f : Nat → Int) (n q : Nat) (h : q < n) (h0 : 0 ≤ f q) (h1 : f q ≤ 255) : bt (strOfNums ((List.range n).map f)) q = f q := by
  rw [bt_at_or]
  unfold strOfNums
  simp only [List.map_map, List.getD_eq_getElem?_getD, List.getElem?_map, List.getElem?_range h, Option.map_some, Option.getD_some, Function.comp]
  rw [UInt8.toNat_ofNat']
  omega
theorem nums_size (f : Nat → Int) (n : Nat) : (strOfNums ((List.range n).map f)).size = n := by
  unfold strOfNums; rw [str_len]; simp
/-- The word behind the shift, by its bytes. -/
def shF (s : ByteArray) (k : Nat) : Nat → Int := fun q => if q = s.size - 1 then 41 else if q = k - 1 then 40 else bt s (q + 1)
theorem shW_size (s : ByteArray) (k : Nat) (h1 : 1 ≤ k) (h2 : k < s.size) : (shW s k).size = s.size := by
  unfold shW
  simp only [ByteArray.size_append, ByteArray.size_extract]
  have e1 : (⟨#[40]⟩ : ByteArray).size = 1 := rfl
  have e2 : (⟨#[41]⟩ : ByteArray).size = 1 := rfl
  omega
theorem sh_str (s : ByteArray) (k : Nat) (h1 : 1 ≤ k) (h2 : k < s.size) : strOfNums ((List.range s.size).map (shF s k)) = shW s k := by
  refine str_ext ((nums_size _ _).trans (shW_size s k h1 h2).symm) fun q hq => ?_
  rw [nums_size] at hq
  have hb := bt_nonneg s (q + 1)
  have hb2 := bt_le s (q + 1)
  have e1 : (⟨#[40]⟩ : ByteArray).size = 1 := rfl
  have e2 : (⟨#[41]⟩ : ByteArray).size = 1 := rfl
  rw [bt_nums _ _ _ hq (by unfold shF; split; omega; split <;> omega) (by unfold shF; split; omega; split <;> omega)]
  unfold shW shF
  rw [bt_app, bt_app, bt_app]
  simp only [ByteArray.size_append, ByteArray.size_extract, e1]
  by_cases a1 : q = s.size - 1
  · rw [if_pos a1, if_neg (by omega)]
    have : q - (min k s.size - 1 + 1 + (min s.size s.size - (k + 1))) = 0 := by omega
    rw [this]; rfl
  · have c1 : q < min k s.size - 1 + 1 + (min s.size s.size - (k + 1)) := by omega
    rw [if_neg a1, if_pos c1]
    by_cases a2 : q = k - 1
    · have c2 : q < min k s.size - 1 + 1 := by omega
      have c3 : ¬ q < min k s.size - 1 := by omega
      rw [if_pos a2, if_pos c2, if_neg c3]
      have : q - (min k s.size - 1) = 0 := by omega
      rw [this]; rfl
    · rw [if_neg a2]
      by_cases a3 : q < k - 1
      · have c2 : q < min k s.size - 1 + 1 := by omega
        have c3 : q < min k s.size - 1 := by omega
        rw [if_pos c2, if_pos c3, bt_ext _ _ _ _ (by omega) (by omega)]
        congr 1; omega
      · have c2 : ¬ q < min k s.size - 1 + 1 := by omega
        rw [if_neg c2, bt_ext _ _ _ _ (Nat.le_refl _) (by omega)]
        congr 1; omega
theorem fw_cut (s : ByteArray) (i : Nat) : ∀ (l : List UInt8) (h : Int) (k j : Nat), cutL h l k = (j : Int) → fwL s i h l k = (j : Int) := by
  intro l
  induction l with
  | nil => intro h k j e; rw [cutL_nil] at e; omega
  | cons c l ih =>
    intro h k j e
    by_cases e1 : (if c.toNat = 117 then h + 1 else h - 1) = 0
    · rw [cutL_hit _ _ _ _ e1] at e
      rw [fwL_hit _ _ _ _ _ _ e1]; exact e
    · rw [cutL_miss _ _ _ _ e1] at e
      rw [fwL_miss _ _ _ _ _ _ e1]; exact ih _ _ _ e
theorem part_cut {s : ByteArray} (hd : dyck s = true) (h0 : 0 < s.size) {k : Nat} (h : cutP s = (k : Int)) : partL s 0 = (k : Int) := by
  have hb := get_bt s 0 h0
  have hf := hAt_fit hd 1 h0
  have e : bt s 0 = 117 := by
    rcases dyck_letter hd 0 h0 with e | e
    · omega
    · have := hAt_down s 0 h0 (by omega)
      have hz := hAt_zero s
      simp only [Nat.zero_add] at this
      omega
  unfold partL
  rw [if_pos e, rest_zero]
  exact fw_cut s 0 _ _ _ _ h

end Go.Proofs.YtdnkddmnijckhaaGreat
