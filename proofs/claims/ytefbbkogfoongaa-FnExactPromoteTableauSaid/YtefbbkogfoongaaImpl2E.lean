/- The contract of the program's ReversePath. -/
import Derived.Test.YtefbbkogfoongaaImpl2C
import Derived.Test.YtefbbkogfoongaaBytes
namespace Go.Proofs.Ytefbbkogfoongaa
open Go.ChangeShapes Go.WideShapes Go.ChangeAt Go.RowKit
open Go.PlainAid (bt bt_nonneg bt_le get_bt)
set_option linter.unusedVariables false

/-- The place q of the word backwards. -/
def flipC (s : ByteArray) (q : Nat) : Int := if bt s (s.size - 1 - q) = 117 then 100 else 117
/-- The cells when the first i letters have been read. -/
def bkF (s : ByteArray) (i : Nat) : Nat → Int := fun q => if s.size - i ≤ q then flipC s q else 0
theorem bkF_at (s : ByteArray) (i q : Nat) (h : s.size - i ≤ q) : bkF s i q = flipC s q := if_pos h
theorem backL_range (s : ByteArray) (k : Nat) : backL s k = (List.range k).map fun q => UInt8.ofNat (flipC s q).toNat := by
  induction k with
  | zero => rfl
  | succ k ih =>
    rw [backL_succ, ih, List.range_succ, List.map_append]
    congr 1
    simp only [List.map_cons, List.map_nil]
    unfold flipC
    split <;> rfl
theorem back_str (s : ByteArray) : strOfNums ((List.range s.size).map (bkF s s.size)) = ⟨(backL s s.size).toArray⟩ := by
  unfold strOfNums
  rw [backL_range, List.map_map]
  congr 2
  apply List.map_congr_left
  intro q hq
  show UInt8.ofNat (bkF s s.size q).toNat = _
  rw [bkF_at _ _ _ (by omega)]

set_option maxRecDepth 100000 in
set_option maxHeartbeats 1600000 in
theorem reversePathI (s : ByteArray) (w : World) (hs : s.size ≤ 1099511627776) : Calls Try.prog 37 #[.string s] w fun e w' => e = .returned (.tuple #[.string (reverseP s), .bool (dyck s)]) ∧ Below w.heap.size w w' := by
  rcases hd : dyck s with _ | _
  · have HP := Lib.hid (show reverseP s = ⟨#[]⟩ from if_neg (by simp [hd]))
    have HD := Lib.hid hd
    clear hd
    go_enter Try.func37, Try.ntmps37
    go_wp2_with fail
    (with_reducible refine (isDyckI_no s _ HD.out).mono ?_)
    rintro e w' ⟨rfl, hb⟩
    go_wp2
    go_ret2
    exact ⟨ret_sb HP.out.symm rfl, hb⟩
  · have HP := Lib.hid (show reverseP s = ⟨(backL s s.size).toArray⟩ from if_pos hd)
    have HD := Lib.hid hd
    have h16 := dyck_size hd
    clear hd
    obtain ⟨i0, hi0, hz0, hz1, hz2⟩ := info_parts infoB
    go_enter Try.func37, Try.ntmps37
    go_wp2_with fail
    (with_reducible refine (isDyckI_yes s _ HD.out).mono ?_)
    rintro e w1 ⟨rfl, hb⟩
    have HB1 := Lib.hid hb
    have z1 := hb.size
    clear hb
    go_wp2_with (at_make; go_must (refine wpList_make_full _ rfl _ _ 37 rfl w1.heap.size 5 i0 (.int .u8 0) 1 Try.underlying37 hi0 hz0 hz1 .i64 .i64 (s.size : Int) (s.size : Int) s.size rfl rfl rfl rfl (by rw [hz2]; omega) (by unfold maxLen; omega) (Nat.le_refl _) ?_); intro w2 hown1 hgrow1)
    have HR := Lib.hid (RowOf.made hown1)
    have HB2 := Lib.hid (HB1.out.grown hgrow1 z1 (fun k hk => by cases hk))
    have z2 := (hown1.lt w1.heap.size rfl).2
    clear hown1 hgrow1
    obtain ⟨g, hg⟩ : ∃ g, g = w1.heap.size := ⟨_, rfl⟩
    rw [← hg] at HR z2 z1
    rw [← hg]
    clear hg
    go_loopw [] (fun wr => ∃ i : Nat, i ≤ s.size ∧ AtS wr w2.heap.size s i ∧ RowOf wr g s.size (bkF s i) ∧ Below w.heap.size w wr) (fun wr => s.size - wr.iterPos w2.heap.size)
    case atStart => exact ⟨0, Nat.zero_le _, World.iter_heap w2 s 0, (HR.out.iter s 0).same (fun q hq => by unfold bkF; rw [if_neg (by omega)]), HB2.out.alloc (by omega) _⟩
    case round =>
      obtain ⟨i, hi, hit, hrow, hb⟩ := hrel
      have HIT := Lib.hid hit
      have HROW := Lib.hid hrow
      have HB := Lib.hid hb
      clear hit hrow hb
      by_cases hlt : i < s.size
      · obtain ⟨W, hW⟩ : ∃ W, W = wr.iterAt w2.heap.size s (i + 1) := ⟨_, rfl⟩
        have HIT1 := Lib.hid (show AtS W w2.heap.size s (i + 1) by rw [hW]; exact HIT.out.move)
        have HROW1 := Lib.hid (show RowOf W g s.size (bkF s i) by rw [hW]; exact HROW.out.iterAt HIT.out)
        have HB3 := Lib.hid (show Below w.heap.size w W by rw [hW]; exact Lib.below_iterAt HB.out (by omega) _ _)
        obtain ⟨q, hq⟩ : ∃ q, s.size = q + 1 + i := ⟨s.size - 1 - i, by omega⟩
        have hc := HROW1.out.cell (j := q) (by omega)
        have hf := HROW1.out.free q
        have hbt := bt_at s i hlt
        have HFL := Lib.hid (show flipC s q = if bt s i = 117 then 100 else 117 by unfold flipC; rw [show s.size - 1 - q = i by omega])
        have HNX := Lib.hid (show ∀ j, j ≠ q → bkF s (i + 1) j = bkF s i j by
          intro j hj
          unfold bkF
          by_cases h : s.size - i ≤ j
          · rw [if_pos h, if_pos (by omega)]
          · rw [if_neg h, if_neg (by omega)])
        have HAT := Lib.hid (bkF_at s (i + 1) q (by omega))
        have hl := dyck_letter HD.out i hlt
        generalize bkF s i q = z0 at hc
        have hqs : (s.size : Int) - 1 - (i : Int) = (q : Int) := by omega
        have hqq : (q : Int) < (s.size : Int) := by omega
        have hql : q < s.size := by omega
        have hs1 : (0 : Int) ≤ (s.size : Int) - 1 := by omega
        have HQ := Lib.hid hq
        clear hq
        rcases hl with e1 | e1
        · have hnx := next_letter (P := Try.prog) wr _ s i 117 HIT.out hlt e1 (by omega)
          rw [← hW] at hnx
          have HU := Lib.hid (show flipC s q = 100 by rw [HFL.out, if_pos (by omega)])
          clear e1 hW hbt
          go_wp2
          refine ⟨⟨i + 1, by omega, iter_setCell HIT1.out (RowOf.ne_iter HROW1.out HIT1.out), HROW1.out.set q 100 (bkF s (i + 1)) (HAT.out.trans HU.out) HNX.out, HB3.out.setCell (by omega) _⟩, ?_⟩
          have e1 : AtS (W.setCell ⟨g, q, none⟩ (.int .u8 100)) w2.heap.size s (i + 1) := iter_setCell HIT1.out (RowOf.ne_iter HROW1.out HIT1.out)
          rw [e1.pos, HIT.out.pos]; omega
        · have hnx := next_letter (P := Try.prog) wr _ s i 100 HIT.out hlt e1 (by omega)
          rw [← hW] at hnx
          have HU := Lib.hid (show flipC s q = 117 by rw [HFL.out, if_neg (by omega)])
          clear e1 hW hbt
          go_wp2
          refine ⟨⟨i + 1, by omega, iter_setCell HIT1.out (RowOf.ne_iter HROW1.out HIT1.out), HROW1.out.set q 117 (bkF s (i + 1)) (HAT.out.trans HU.out) HNX.out, HB3.out.setCell (by omega) _⟩, ?_⟩
          have e1 : AtS (W.setCell ⟨g, q, none⟩ (.int .u8 117)) w2.heap.size s (i + 1) := iter_setCell HIT1.out (RowOf.ne_iter HROW1.out HIT1.out)
          rw [e1.pos, HIT.out.pos]; omega
      · have hnx := fun ty => Lib.run_next_end_at (P := Try.prog) wr _ s i ty HIT.out hlt
        obtain rfl : i = s.size := by omega
        have hcv := HROW.out.conv
        have HE := Lib.hid (HP.out.trans (back_str s).symm)
        go_wp2
        go_ret2
        exact ⟨ret_sb HE.out.symm rfl, HB.out⟩

end Go.Proofs.Ytefbbkogfoongaa
