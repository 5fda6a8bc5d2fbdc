/- The contracts of the program's BracketsOf and PathOfBrackets. -/
import Derived.Test.YtdnkddmnijckhaaGreatNewR
import Derived.Test.YtdnkddmnijckhaaGreatSpec4A
namespace Go.Proofs.YtdnkddmnijckhaaGreat
open Go.ChangeShapes Go.WideShapes Go.ChangeAt Go.RowKit
open Go.PlainAid (bt bt_nonneg bt_le get_bt)
set_option linter.unusedVariables false

theorem mapB_size (f : Nat → Int) (s : ByteArray) : (mapB f s).size = s.size := by
  unfold mapB; rw [str_len]; simp
theorem mapB_bt (f : Nat → Int) (s : ByteArray) (hf : ∀ q, q < 256 → 0 ≤ f q ∧ f q ≤ 255) (k : Nat) (h : k < s.size) : bt (mapB f s) k = f s[k].toNat := by
  rw [← get_bt _ k (by rw [mapB_size]; exact h)]
  have e : (mapB f s)[k]'(by rw [mapB_size]; exact h) = (s.data.toList.map fun c => UInt8.ofNat (f c.toNat).toNat)[k]'(by simpa using h) := rfl
  rw [e, List.getElem_map, at_list s k h]
  have := hf s[k].toNat s[k].toNat_lt
  rw [UInt8.toNat_ofNat']
  omega
theorem brL_at (s : ByteArray) : ∀ (k j : Nat) (h : j < k) (h' : j < (brL s k).length), (brL s k)[j] = if bt s j = 117 then 40 else 41 := by
  intro k
  induction k with
  | zero => intro j h; omega
  | succ k ih =>
    intro j h h'
    have h2 : j < (brL s k ++ [if bt s k = 117 then 40 else 41]).length := h'
    rw [show (brL s (k + 1))[j] = (brL s k ++ [if bt s k = 117 then 40 else 41])[j]'h2 from rfl, List.getElem_append]
    split
    · exact ih j (by rw [brL_len] at *; assumption) _
    · obtain rfl : j = k := by rename_i h2; rw [brL_len] at h2; omega
      simp [brL_len]
theorem pbL_at (s : ByteArray) : ∀ (k j : Nat) (h : j < k) (h' : j < (pbL s k).length), (pbL s k)[j] = if bt s j = 40 then 117 else 100 := by
  intro k
  induction k with
  | zero => intro j h; omega
  | succ k ih =>
    intro j h h'
    have h2 : j < (pbL s k ++ [if bt s k = 40 then 117 else 100]).length := h'
    rw [show (pbL s (k + 1))[j] = (pbL s k ++ [if bt s k = 40 then 117 else 100])[j]'h2 from rfl, List.getElem_append]
    split
    · exact ih j (by rw [pbL_len] at *; assumption) _
    · obtain rfl : j = k := by rename_i h2; rw [pbL_len] at h2; omega
      simp [pbL_len]
theorem str_ext {a b : ByteArray} (h : a.size = b.size) (hb : ∀ k, k < a.size → bt a k = bt b k) : a = b := by
  apply ByteArray.ext
  apply Array.ext h
  intro i h1 h2
  have := hb i h1
  rw [← get_bt a i h1, ← get_bt b i h2] at this
  apply UInt8.toNat_inj.1
  have e1 : a.data[i] = a[i]'h1 := rfl
  have e2 : b.data[i] = b[i]'h2 := rfl
  rw [e1, e2]; omega
theorem brW_size (s : ByteArray) : (⟨(brL s s.size).toArray⟩ : ByteArray).size = s.size := by rw [str_len, brL_len]
theorem brW_bt (s : ByteArray) (k : Nat) (h : k < s.size) : bt ⟨(brL s s.size).toArray⟩ k = if bt s k = 117 then 40 else 41 := by
  have hz : (⟨(brL s s.size).toArray⟩ : ByteArray).size = s.size := by rw [str_len, brL_len]
  rw [← get_bt _ k (by rw [hz]; exact h)]
  have e : (⟨(brL s s.size).toArray⟩ : ByteArray)[k]'(by rw [hz]; exact h) = (brL s s.size)[k]'(by rw [brL_len]; exact h) := rfl
  rw [e, brL_at s _ k h]
  split <;> rfl
theorem pbW_bt (s : ByteArray) (k : Nat) (h : k < s.size) : bt (pobW s) k = if bt s k = 40 then 117 else 100 := by
  rw [← get_bt _ k (by rw [pobW_size]; exact h)]
  have e : (pobW s)[k]'(by rw [pobW_size]; exact h) = (pbL s s.size)[k]'(by rw [pbL_len]; exact h) := rfl
  rw [e, pbL_at s _ k h]
  split <;> rfl

/-- u, d to parentheses, and back. -/
def toBr : Nat → Int := swp 117 100 40 41
def toUd : Nat → Int := swp 40 41 117 100
theorem toBr_fit (q : Nat) (h : q < 256) : 0 ≤ toBr q ∧ toBr q ≤ 255 := swp_fit 117 100 40 41 q h
theorem toUd_fit (q : Nat) (h : q < 256) : 0 ≤ toUd q ∧ toUd q ≤ 255 := swp_fit 40 41 117 100 q h
theorem map_brackets {s : ByteArray} (hd : dyck s = true) : mapB toBr s = bracketsP s := by
  unfold bracketsP
  rw [if_pos hd]
  refine str_ext ((mapB_size _ _).trans (brW_size s).symm) fun k hk => ?_
  rw [mapB_size] at hk
  rw [mapB_bt _ _ toBr_fit k hk, brW_bt s k hk]
  have h1 := dyck_letter hd k hk
  have h2 := get_bt s k hk
  rcases h1 with h1 | h1 <;> rw [← h2, h1] <;> rfl
theorem map_path {s : ByteArray} (hg : pobGood s) : mapB toUd s = pobW s ∧ bracketsP (mapB toUd s) = s ∧ dyck (mapB toUd s) = true := by
  have e : mapB toUd s = pobW s := by
    refine str_ext (by rw [mapB_size, pobW_size]) fun k hk => ?_
    rw [mapB_size] at hk
    rw [mapB_bt _ _ toUd_fit k hk, pbW_bt s k hk]
    have h2 := get_bt s k hk
    rcases hg.2.1 k hk with h | h
    · rw [h]
      have : s[k].toNat = 40 := by omega
      rw [this]; rfl
    · rw [h]
      have : s[k].toNat = 41 := by omega
      rw [this]; rfl
  have hd : dyck (mapB toUd s) = true := by rw [e]; exact hg.2.2
  refine ⟨e, ?_, hd⟩
  unfold bracketsP
  rw [if_pos hd]
  refine str_ext ((brW_size _).trans (mapB_size _ _)) fun k hk => ?_
  rw [brW_size, mapB_size] at hk
  rw [brW_bt _ k (by rw [mapB_size]; exact hk), e, pbW_bt s k hk]
  rcases hg.2.1 k hk with h | h <;> rw [h] <;> rfl
theorem map_good {s : ByteArray} (hd : dyck (mapB toUd s) = true) (hb : bracketsP (mapB toUd s) = s) : pobGood s := by
  have h1 : ∀ j, j < s.size → bt s j = 40 ∨ bt s j = 41 := by
    intro j hj
    have e : bt s j = bt (bracketsP (mapB toUd s)) j := by rw [hb]
    unfold bracketsP at e
    rw [if_pos hd, brW_bt _ j (by rw [mapB_size]; exact hj)] at e
    rw [e]
    split
    · exact .inl rfl
    · exact .inr rfl
  have e : mapB toUd s = pobW s := by
    refine str_ext (by rw [mapB_size, pobW_size]) fun k hk => ?_
    rw [mapB_size] at hk
    rw [mapB_bt _ _ toUd_fit k hk, pbW_bt s k hk]
    have h2 := get_bt s k hk
    rcases h1 k hk with h | h
    · rw [h]
      have : s[k].toNat = 40 := by omega
      rw [this]; rfl
    · rw [h]
      have : s[k].toNat = 41 := by omega
      rw [this]; rfl
  refine ⟨?_, h1, e ▸ hd⟩
  have := dyck_size hd
  rw [mapB_size] at this
  exact this

theorem row4_new (w : World) (a b a' b' : UInt8) : Row4 (w.alloc (.cells #[.string ⟨#[a]⟩, .string ⟨#[a']⟩, .string ⟨#[b]⟩, .string ⟨#[b']⟩] 9)) w.heap.size a b a' b' := by
  intro j hj
  rw [cell_of_row _ _ j _ _ (0, 0) (heap_alloc_new w _)]
  match j, hj with
  | 0, _ => rfl
  | 1, _ => rfl
  | 2, _ => rfl
  | 3, _ => rfl

set_option maxRecDepth 100000 in
set_option maxHeartbeats 1600000 in
theorem bracketsOfI (s : ByteArray) (w : World) (hs : s.size ≤ 1099511627776) : Calls Tryz.prog 17 #[.string s] w fun e w' => e = .returned (.tuple #[.string (bracketsP s), .bool (dyck s)]) ∧ Below w.heap.size w w' := by
  rcases hd : dyck s with _ | _
  · have HP := Lib.hid (show bracketsP s = ⟨#[]⟩ from if_neg (by simp [hd]))
    have HD := Lib.hid hd
    clear hd
    go_enter Tryz.func17, Tryz.ntmps17
    go_wp2_with fail
    (with_reducible refine (isDyckI_no s _ HD.out).mono ?_)
    rintro e w' ⟨rfl, hb⟩
    go_wp2
    go_ret2
    exact ⟨ret_sb HP.out.symm rfl, hb⟩
  · have HP := Lib.hid (map_brackets hd)
    have HD := Lib.hid hd
    clear hd
    go_enter Tryz.func17, Tryz.ntmps17
    go_wp2_with fail
    (with_reducible refine (isDyckI_yes s _ HD.out).mono ?_)
    rintro e w1 ⟨rfl, hb⟩
    have HB1 := Lib.hid hb
    clear hb
    go_wp2_with fail
    refine (newR w1.heap.size 117 100 40 41 _ (row4_new w1 117 100 40 41)).mono ?_
    rintro e w2 ⟨g, v, rfl, hv, hr, hg, hb⟩
    have HB2 := Lib.hid ((HB1.out.trans (Below.mono (below_alloc w1 _) HB1.out.size)).trans (hb.mono (by have := HB1.out.size; simp; omega)))
    have hBg : w.heap.size ≤ g := by have := HB1.out.size; simp at hg; omega
    have HR := Lib.hid (replaceR w.heap.size g 117 100 40 41 v s w2 _ g hv (Nat.le_refl _) hr hBg hs)
    clear hv hr hg hb
    go_wp2_with fail
    refine HR.out.mono ?_
    rintro e w3 ⟨rfl, hb⟩
    go_wp2
    go_ret2
    exact ⟨ret_sb HP.out rfl, HB2.out.trans hb⟩

set_option maxRecDepth 100000 in
set_option maxHeartbeats 1600000 in
theorem pathOfBracketsI (s : ByteArray) (w : World) (hs : s.size ≤ 1099511627776) : Calls Tryz.prog 18 #[.string s] w fun e w' => e = .returned (.tuple #[.string (pobP s), .bool (pobOk s)]) ∧ Below w.heap.size w w' := by
  have hms : (mapB toUd s).size ≤ 1099511627776 := by rw [mapB_size]; exact hs
  have HC := Lib.hid (by
    by_cases hd : dyck (mapB toUd s) = true
    · by_cases hb : bracketsP (mapB toUd s) = s
      · exact .inr (.inr ⟨hd, hb, (map_path (map_good hd hb)).1, pob_yes (map_good hd hb)⟩)
      · exact .inr (.inl ⟨hd, hb, pob_no fun hg => hb (map_path hg).2.1⟩)
    · exact .inl ⟨by simpa using hd, pob_no fun hg => hd (map_path hg).2.2⟩ : dyck (mapB toUd s) = false ∧ pobOk s = false ∧ pobP s = ⟨#[]⟩ ∨ (dyck (mapB toUd s) = true ∧ ¬ bracketsP (mapB toUd s) = s ∧ pobOk s = false ∧ pobP s = ⟨#[]⟩) ∨ (dyck (mapB toUd s) = true ∧ bracketsP (mapB toUd s) = s ∧ mapB toUd s = pobW s ∧ pobOk s = true ∧ pobP s = pobW s))
  go_enter Tryz.func18, Tryz.ntmps18
  go_wp2_with fail
  refine (newR w.heap.size 40 41 117 100 _ (row4_new w 40 41 117 100)).mono ?_
  rintro e w2 ⟨g, v, rfl, hv, hr, hg, hb⟩
  have HB2 := Lib.hid ((below_alloc w (.cells #[.string ⟨#[40]⟩, .string ⟨#[117]⟩, .string ⟨#[41]⟩, .string ⟨#[100]⟩] 9)).trans (hb.mono (by simp)))
  have hBg : w.heap.size ≤ g := by simp at hg; omega
  have HR := Lib.hid (show Calls _ _ _ _ fun e w' => e = .returned (.string (mapB toUd s)) ∧ Below w.heap.size w2 w' from replaceR w.heap.size g 40 41 117 100 v s w2 _ g hv (Nat.le_refl _) hr hBg hs)
  clear hv hr hg hb
  go_wp2_with fail
  refine HR.out.mono ?_
  rintro e w3 ⟨rfl, hb⟩
  have HB3 := Lib.hid (HB2.out.trans hb)
  clear hb HR HB2
  generalize mapB toUd s = m at *
  go_wp2_with fail
  refine (bracketsOfI m _ hms).mono ?_
  rintro e w4 ⟨rfl, hb⟩
  have HB4 := Lib.hid (HB3.out.trans (hb.mono HB3.out.size))
  clear hb HB3
  obtain ⟨hd, ho, hp⟩ | ⟨hd, hb, ho, hp⟩ | ⟨hd, hb, he, ho, hp⟩ := HC.out
  · have HO := Lib.hid ho
    have HP := Lib.hid hp
    rw [hd]
    clear HC hd ho hp
    go_wp2
    go_ret2
    exact ⟨ret_sb HP.out.symm HO.out.symm, HB4.out⟩
  · have HO := Lib.hid ho
    have HP := Lib.hid hp
    have hne : (bracketsP m).toList != s.toList := by
      simp only [bne_iff_ne, ne_eq]
      intro e
      refine hb (ByteArray.ext ?_)
      rw [ByteArray.toList_eq, ByteArray.toList_eq] at e
      exact Array.toList_inj.1 e
    have hne2 : ((bracketsP m).toList == s.toList) = false := by simpa [bne] using hne
    rw [hd]
    clear HC hd ho hp hb
    generalize bracketsP m = bm at *
    go_wp2
    go_ret2
    exact ⟨ret_sb HP.out.symm HO.out.symm, HB4.out⟩
  · have HO := Lib.hid ho
    have HP := Lib.hid hp
    have HE := Lib.hid he
    have hne : (s.toList != s.toList) = false := by simp
    rw [hd, hb]
    clear HC hd ho hp hb he
    go_wp2
    go_ret2
    exact ⟨ret_sb (HE.out.trans HP.out.symm) HO.out.symm, HB4.out⟩

end Go.Proofs.YtdnkddmnijckhaaGreat
