/- The contract of the program's HeightsOf. -/
import Derived.Test.YtjjaildejonmfaaImpl2A
import Derived.Test.YtjjaildejonmfaaSpec2B
import Derived.Test.YtjjaildejonmfaaSpec3A
import Derived.Deep.RegionLaw
import Derived.IntWalk
namespace Go.Proofs.Ytjjaildejonmfaa
open Go.ChangeShapes Go.WideShapes Go.ChangeAt Go.RowKit
set_option linter.unusedVariables false

theorem df_mem {h : Nat} {l : List UInt8} (hd : dyckFrom h l = true) : ∀ c ∈ l, c.toNat = 117 ∨ c.toNat = 100 := by
  induction l generalizing h with
  | nil => simp
  | cons c l ih =>
    intro x hx
    rcases df_letter hd with ⟨e, h1⟩ | ⟨e, -, h1⟩
    · rcases List.mem_cons.1 hx with rfl | hx
      · exact .inl e
      · exact ih h1 x hx
    · rcases List.mem_cons.1 hx with rfl | hx
      · exact .inr e
      · exact ih h1 x hx
theorem at_mem (s : ByteArray) (i : Nat) (h : i < s.size) : s[i] ∈ s.data.toList := by
  have : s.data[i]'h ∈ s.data := Array.getElem_mem h
  exact Array.mem_toList_iff.2 this
theorem at_list (s : ByteArray) (i : Nat) (h : i < s.size) (h' : i < s.data.toList.length) : s.data.toList[i] = s[i] := by
  rw [Array.getElem_toList]; rfl
theorem dyck_letter {s : ByteArray} (hd : dyck s = true) (i : Nat) (h : i < s.size) : s[i].toNat = 117 ∨ s[i].toNat = 100 := by
  rw [dyck_short (dyck_size hd)] at hd
  exact df_mem hd _ (at_mem s i h)

theorem hsL_head (h : Int) (l : List UInt8) : (hsL h l).getD 0 0 = h := by cases l <;> rfl
theorem hsL_step (h : Int) (l : List UInt8) (i : Nat) (hi : i < l.length) : (hsL h l).getD (i + 1) 0 = (hsL h l).getD i 0 + if l[i].toNat = 117 then 1 else -1 := by
  induction l generalizing h i with
  | nil => simp at hi
  | cons c l ih =>
    rw [hsL]
    cases i with
    | zero =>
      rw [List.getD_cons_succ, hsL_head, List.getD_cons_zero]
      show (if c.toNat = 117 then h + 1 else h - 1) = h + if c.toNat = 117 then 1 else -1
      split <;> omega
    | succ i =>
      rw [List.getD_cons_succ, List.getD_cons_succ]
      exact ih _ i (by simpa using hi)
/-- The height in front of letter i. -/
def hAt (s : ByteArray) (i : Nat) : Int := (hsL 0 s.data.toList).getD i 0
theorem hAt_zero (s : ByteArray) : hAt s 0 = 0 := hsL_head _ _
theorem hAt_up (s : ByteArray) (i : Nat) (h : i < s.size) (e : s[i].toNat = 117) : hAt s (i + 1) = hAt s i + 1 := by
  unfold hAt
  rw [hsL_step _ _ i (by simpa using h), at_list s i h, if_pos e]
theorem hAt_down (s : ByteArray) (i : Nat) (h : i < s.size) (e : s[i].toNat ≠ 117) : hAt s (i + 1) = hAt s i + -1 := by
  unfold hAt
  rw [hsL_step _ _ i (by simpa using h), at_list s i h, if_neg e]
theorem hAt_bd (s : ByteArray) (i : Nat) (h : i ≤ s.size) : -(i : Int) ≤ hAt s i ∧ hAt s i ≤ i := by
  induction i with
  | zero => rw [hAt_zero]; simp
  | succ i ih =>
    have := ih (by omega)
    by_cases e : s[i].toNat = 117
    · rw [hAt_up s i (by omega) e]; omega
    · rw [hAt_down s i (by omega) e]; omega
/-- The heights when the first i letters have been read. -/
def hFill (s : ByteArray) (i : Nat) : Nat → Int := fun q => if q ≤ i then hAt s q else 0
theorem hFill_at (s : ByteArray) (i q : Nat) (h : q ≤ i) : hFill s i q = hAt s q := if_pos h
theorem hFill_zero (s : ByteArray) (q : Nat) : hFill s 0 q = 0 := by
  unfold hFill
  split
  · rename_i h
    obtain rfl : q = 0 := by omega
    exact hAt_zero s
  · rfl
theorem hFill_next (s : ByteArray) (i q : Nat) (h : q ≠ i + 1) : hFill s (i + 1) q = hFill s i q := by
  unfold hFill
  by_cases e : q ≤ i
  · rw [if_pos e, if_pos (by omega)]
  · rw [if_neg e, if_neg (by omega)]

theorem iter_setCell {w : World} {k g q : Nat} {s : ByteArray} {i : Nat} {y : Value} (h : w.heap[k]? = some (.stringIter s i)) (hne : g ≠ k) : (w.setCell ⟨g, q, none⟩ y).heap[k]? = some (.stringIter s i) := by
  rw [← h]
  simp [World.setCell, Array.getElem?_modify, hne]
theorem RowI.ne_iter {w : World} {k g d : Nat} {f : Nat → Int} {s : ByteArray} {i : Nat} (h : RowI w g d f) (hk : w.heap[k]? = some (.stringIter s i)) : g ≠ k := by
  obtain ⟨C, h1, -⟩ := h
  intro e
  rw [e, hk] at h1
  simp at h1
theorem RowI.iterAt {w : World} {k g d : Nat} {f : Nat → Int} {s : ByteArray} {i j : Nat} (h : RowI w g d f) (hk : w.heap[k]? = some (.stringIter s i)) : RowI (w.iterAt k s j) g d f :=
  h.keep (Lib.iterAt_other _ _ _ _ _ (h.ne_iter hk))
theorem OwnI.of_rowI {w : World} {lo hi g d c : Nat} {f : Nat → Int} {xs : List Int} (h : RowI w g d f) (hl : xs.length = d + 1) (hx : ∀ j, j ≤ d → xs.getD j 0 = f j) (h1 : lo ≤ g) (h2 : g < hi) : OwnI w lo hi (.slice (some ⟨g, 0, none⟩) (d + 1) c) xs := by
  obtain ⟨C, h3, h4⟩ := h
  refine ⟨_, c, by rw [hl], .inr ⟨g, C, h1, h2, rfl, h3, fun j hj => ?_⟩⟩
  rw [h4 j (by omega), hx j (by omega)]
/-- The state of a range over s, its iterator in block k, at place i. -/
def AtS (w : World) (k : Nat) (s : ByteArray) (i : Nat) : Prop := w.heap[k]? = some (.stringIter s i)

set_option maxRecDepth 100000 in
set_option maxHeartbeats 1600000 in
theorem heightsOfI (s : ByteArray) (w : World) : Calls Try.prog 57 #[.string s] w (AnsI (heightsP s) w) := by
  rcases hd : dyck s with _ | _
  · have HP := Lib.hid (heightsP_no hd)
    have HD := Lib.hid hd
    clear hd
    go_enter Try.func57, Try.ntmps57
    go_wp2_with fail
    (with_reducible refine (isDyckI_no s _ HD.out).mono ?_)
    rintro e w' ⟨rfl, hb⟩
    go_wp2
    go_ret
    exact ⟨_, rfl, by rw [HP.out]; exact ⟨_, _, rfl, .inl rfl⟩, hb⟩
  · have HP := Lib.hid (heightsP_yes hd)
    have HD := Lib.hid hd
    have h16 := dyck_size hd
    clear hd
    obtain ⟨i0, hi0, hz0, hz1, hz2⟩ := info_parts info3
    go_enter Try.func57, Try.ntmps57
    go_wp2_with fail
    (with_reducible refine (isDyckI_yes s _ HD.out).mono ?_)
    rintro e w1 ⟨rfl, hb⟩
    have HB1 := Lib.hid hb
    have z1 := hb.size
    clear hb
    go_wp2_with (at_make; go_must (refine wpList_make_full _ rfl _ _ 40 rfl w1.heap.size 3 i0 (.int .i64 0) 1 Try.underlying40 hi0 hz0 hz1 .i64 .i64 ((s.size : Int) + 1) ((s.size : Int) + 1) (s.size + 1) rfl rfl (by omega) (by omega) (by rw [hz2]; omega) (by unfold maxLen; omega) (Nat.le_refl _) ?_); intro w2 hown1 hgrow1)
    have HR := Lib.hid (RowI.made hown1)
    have HB2 := Lib.hid (HB1.out.grown hgrow1 z1 (fun k hk => by cases hk))
    have z2 := (hown1.lt w1.heap.size rfl).2
    clear hown1 hgrow1
    obtain ⟨g, hg⟩ : ∃ g, g = w1.heap.size := ⟨_, rfl⟩
    rw [← hg] at HR z2 z1
    rw [← hg]
    clear hg
    go_loopw [] (fun wr => ∃ i : Nat, i ≤ s.size ∧ AtS wr w2.heap.size s i ∧ RowI wr g s.size (hFill s i) ∧ Below w.heap.size w wr ∧ wr.heap.size = w2.heap.size + 1) (fun wr => s.size - wr.iterPos w2.heap.size)
    case atStart => exact ⟨0, Nat.zero_le _, World.iter_heap w2 s 0, (HR.out.keep (by rw [show (w2.iter s 0).heap = w2.heap.push _ from rfl, Array.getElem?_push, if_neg (by omega)])).same (fun q _ => hFill_zero s q), HB2.out.alloc (by omega) _, by simp [World.iter]⟩
    case round =>
      obtain ⟨i, hi, hit, hrow, hb, hz⟩ := hrel
      have HIT := Lib.hid hit
      have HROW := Lib.hid hrow
      have HB := Lib.hid hb
      clear hit hrow hb
      by_cases hlt : i < s.size
      · obtain ⟨W, hW⟩ : ∃ W, W = wr.iterAt w2.heap.size s (i + 1) := ⟨_, rfl⟩
        have HIT1 := Lib.hid (show AtS W w2.heap.size s (i + 1) by rw [hW]; exact Lib.iterAt_heap _ _ _ _ _ HIT.out)
        have HROW1 := Lib.hid (show RowI W g s.size (hFill s i) by rw [hW]; exact HROW.out.iterAt HIT.out)
        have HB3 := Lib.hid (show Below w.heap.size w W by rw [hW]; exact Lib.below_iterAt HB.out (by omega) _ _)
        have hzW : W.heap.size = w2.heap.size + 1 := by rw [hW, Lib.iterAt_size]; exact hz
        have HZW := Lib.hid hzW
        obtain ⟨hc, -⟩ := HROW1.out.cell (k := i) (by omega)
        obtain ⟨hc', hf⟩ := HROW1.out.cell (k := i + 1) (by omega)
        rw [hFill_at _ _ _ (Nat.le_refl _)] at hc
        have hbd := hAt_bd s i (by omega)
        have hi1 : (i : Int) < ((s.size + 1 : Nat) : Int) := by omega
        have hi2 : (i : Int) + 1 < ((s.size + 1 : Nat) : Int) := by omega
        have hl := dyck_letter HD.out i hlt
        generalize hFill s i (i + 1) = z0 at hc'
        have HZ := Lib.hid hz
        clear hz hzW
        rcases hl with e1 | e1
        · have hnx := next_letter (P := Try.prog) wr _ s i 117 HIT.out hlt e1 (by omega)
          rw [← hW] at hnx
          have HU := Lib.hid (hAt_up s i hlt e1)
          clear e1 hW
          generalize hzz : hAt s i = z at hc hbd HU
          clear hzz
          have hw1 : IntKind.i64.wrap (z + 1) = z + 1 := IntWalk.i64_in _ (by omega)
          have hw2 : IntKind.i64.wrap ((i : Int) + 1) = (i : Int) + 1 := IntWalk.i64_in _ (by omega)
          have hi3 : ((i : Int) + 1).toNat = i + 1 := by omega
          have hi4 : (0 : Int) ≤ (i : Int) + 1 := by omega
          have hi5 : (i : Int) < (s.size : Int) + 1 := by omega
          have hi6 : (i : Int) < (s.size : Int) := by omega
          go_wp2_with fail
          go_region_law (go_simp; go_at_call 60; (with_reducible refine (stepOf_up _).mono ?_); rintro e w' ⟨rfl, rfl⟩)
          all_goals go_wp2
          all_goals refine ⟨⟨i + 1, by omega, iter_setCell HIT1.out (RowI.ne_iter HROW1.out HIT1.out), (HROW1.out.set (f' := hFill s (i + 1)) (by omega) ((hFill_at _ _ _ (Nat.le_refl _)).trans HU.out) (fun q _ hne => hFill_next _ _ _ hne)).keep rfl, (HB3.out.setCell (by omega) _).drew, by have := HZW.out; simpa [World.setCell] using this⟩, ?_⟩
          all_goals
            have e1 : ((W.setCell ⟨g, i + 1, none⟩ (.int .i64 (z + 1))).drew).heap[w2.heap.size]? = some (.stringIter s (i + 1)) := iter_setCell HIT1.out (RowI.ne_iter HROW1.out HIT1.out)
            have e2 := HIT.out
            unfold AtS at e2
            simp only [World.iterPos, e1, e2]
            omega
        · have hnx := next_letter (P := Try.prog) wr _ s i 100 HIT.out hlt e1 (by omega)
          rw [← hW] at hnx
          have HU := Lib.hid (hAt_down s i hlt (by omega))
          clear e1 hW
          generalize hzz : hAt s i = z at hc hbd HU
          clear hzz
          have hw1 : IntKind.i64.wrap (z + -1) = z + -1 := IntWalk.i64_in _ (by omega)
          have hw2 : IntKind.i64.wrap ((i : Int) + 1) = (i : Int) + 1 := IntWalk.i64_in _ (by omega)
          have hi3 : ((i : Int) + 1).toNat = i + 1 := by omega
          have hi4 : (0 : Int) ≤ (i : Int) + 1 := by omega
          have hi5 : (i : Int) < (s.size : Int) + 1 := by omega
          have hi6 : (i : Int) < (s.size : Int) := by omega
          go_wp2_with fail
          go_region_law (go_simp; go_at_call 60; (with_reducible refine (stepOf_down _).mono ?_); rintro e w' ⟨rfl, rfl⟩)
          all_goals go_wp2
          all_goals refine ⟨⟨i + 1, by omega, iter_setCell HIT1.out (RowI.ne_iter HROW1.out HIT1.out), (HROW1.out.set (f' := hFill s (i + 1)) (by omega) ((hFill_at _ _ _ (Nat.le_refl _)).trans HU.out) (fun q _ hne => hFill_next _ _ _ hne)).keep rfl, (HB3.out.setCell (by omega) _).drew, by have := HZW.out; simpa [World.setCell] using this⟩, ?_⟩
          all_goals
            have e1 : ((W.setCell ⟨g, i + 1, none⟩ (.int .i64 (z + -1))).drew).heap[w2.heap.size]? = some (.stringIter s (i + 1)) := iter_setCell HIT1.out (RowI.ne_iter HROW1.out HIT1.out)
            have e2 := HIT.out
            unfold AtS at e2
            simp only [World.iterPos, e1, e2]
            omega
      · have hnx := fun ty => Lib.run_next_end_at (P := Try.prog) wr _ s i ty HIT.out hlt
        go_wp2
        go_ret
        obtain rfl : i = s.size := by omega
        refine ⟨_, rfl, ?_, HB.out⟩
        rw [HP.out]
        exact OwnI.of_rowI HROW.out (by rw [hsL_len]; simp) (fun j hj => (hFill_at _ _ _ hj).symm) (by omega) (by omega)

end Go.Proofs.Ytjjaildejonmfaa
