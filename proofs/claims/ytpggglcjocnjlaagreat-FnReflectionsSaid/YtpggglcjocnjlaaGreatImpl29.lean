/- The program's functions on words of chapter 29. -/
import Derived.Test.YtpggglcjocnjlaaGreatImpl2A
import Derived.Test.YtpggglcjocnjlaaGreatNewR
import Derived.Test.YtpggglcjocnjlaaGreatSpec29
import Derived.BigRegion
namespace Go.Proofs.YtpggglcjocnjlaaGreat
open Go.ChangeShapes Go.WideShapes Go.ChangeAt Go.RowKit
open Go.PlainAid (bt bt_nonneg bt_le get_bt bt_end)
set_option linter.unusedVariables false

/-- What readFallen answers. -/
def rfV (s : ByteArray) : Value :=
  if udS s = true then
    if smA s.data.toList = -2 then .iface 51 (.agg #[.string (s.extract 0 (ct s)), .string (s.extract (ct s) s.size)])
    else if smA s.data.toList = 0 ∧ 0 < ct s then .iface 42 (.agg #[.string (s.extract 0 (ct s)), .string (s.extract (ct s) s.size)])
    else .nilIface
  else .nilIface
theorem sl_low29 (s : ByteArray) (k : Nat) (h : k ≤ s.size) (W : World) : (Instr.slice 9 (.string s) (some (.int .i64 (k : Int))) none none).run Tryz.prog W = .ok (.string (s.extract k s.size)) W := by
  rw [run_slice_string_l W 9 s Tryz.underlying9 .i64 (k : Int) (by omega) (by omega)]; simp
theorem sl_high29 (s : ByteArray) (k : Nat) (h : k ≤ s.size) (W : World) : (Instr.slice 9 (.string s) none (some (.int .i64 (k : Int))) none).run Tryz.prog W = .ok (.string (s.extract 0 k)) W := by
  rw [run_slice_string_h W 9 s Tryz.underlying9 .i64 (k : Int) (by omega) (by omega)]; simp

set_option maxRecDepth 100000 in
set_option maxHeartbeats 3200000 in
theorem readFallenI (s : ByteArray) (w : World) (hs : s.size ≤ 1048577) : Calls Tryz.prog 30 #[.string s] w fun e w' => e = .returned (rfV s) ∧ Below w.heap.size w w' := by
  by_cases h16 : 16 < s.size
  · have HL := Lib.hid (show rfV s = .nilIface by unfold rfV; rw [ud_long (by omega)]; rfl)
    have h16' : (16 : Int) < (s.size : Int) := by omega
    go_enter Tryz.func30, Tryz.ntmps30
    go_wp2
    go_ret
    exact ⟨by rw [HL.out]; rfl, Below.refl _ _⟩
  · have h16' : s.size ≤ 16 := by omega
    have HL := Lib.hid (show udS s = udA s.data.toList by unfold udS; rw [decide_eq_true h16', Bool.and_true])
    have HCT := Lib.hid (ct_le s)
    go_enter Tryz.func30, Tryz.ntmps30
    go_wp2
    go_loopw [3, 4] (fun x y wr => ∃ (i c : Nat) (h : Int), i ≤ s.size ∧ -(i : Int) ≤ h ∧ h ≤ i ∧ c ≤ i ∧ x = .int .i64 h ∧ y = .int .i64 c ∧ wr.heap[w.heap.size]? = some (.stringIter s i) ∧ Below w.heap.size w wr ∧ udA s.data.toList = udA (rest s i) ∧ smA s.data.toList = h + smA (rest s i) ∧ ct s = (if c = 0 then cutA h (rest s i) i else c)) (fun _ _ wr => s.size - wr.iterPos w.heap.size)
    case atStart => exact ⟨0, 0, 0, Nat.zero_le _, by omega, by omega, Nat.le_refl _, rfl, rfl, World.iter_heap w s 0, (Below.refl _ _).alloc (Nat.le_refl _) _, rfl, by rw [rest_zero]; omega, by rw [if_pos rfl, rest_zero]; rfl⟩
    case round =>
      obtain ⟨i, c, h, hi, h1, h2, hci, rfl, rfl, hit, hb, hu, hm, hcc⟩ := hrel
      have HU := Lib.hid hu
      have HM := Lib.hid hm
      have HIT := Lib.hid hit
      have HB := Lib.hid hb
      have HCC := Lib.hid hcc
      clear hu hm hb hcc
      by_cases hlt : i < s.size
      · have HR := Lib.hid (rest_cons s i hlt)
        have hc0 : ((c : Int) == 0) = decide (c = 0) := by
          by_cases e : c = 0
          · subst e; rfl
          · rw [decide_eq_false e]; exact beq_eq_false_iff_ne.2 (by omega)
        by_cases e1 : s[i].toNat = 117
        · have hnx := next_letter (P := Tryz.prog) wr _ s i 117 hit hlt e1 (by omega)
          have HE := Lib.hid e1
          have HST := Lib.hid (stA_up e1)
          clear hit e1
          by_cases em : h + 1 = -1
          · have hne : (h + 1 == -1) = true := by rw [em]; rfl
            by_cases ec : c = 0
            · rw [decide_eq_true ec] at hc0
              have HN := Lib.hid (show ct s = if i + 1 = 0 then cutA (h + 1) (rest s (i + 1)) (i + 1) else i + 1 by rw [if_neg (by omega), HCC.out, if_pos ec, HR.out, cutA_hit _ _ _ _ (by rw [HST.out]; exact em)])
              subst ec
              clear em
              go_wp2_with (go_at_call 56; refine (stepOf_up _).mono ?_; rintro e w' ⟨rfl, rfl⟩)
              go_roundw
              case rel => exact ⟨i + 1, i + 1, h + 1, by omega, by omega, by omega, by omega, by simp, by simp, Lib.iterAt_heap _ _ _ _ _ HIT.out, Lib.below_iterAt HB.out (Nat.le_refl _) _ _, by rw [HU.out, HR.out, udA_up _ (.inl HE.out)], by rw [HM.out, HR.out, smA_up _ HE.out]; omega, HN.out⟩
              case measure => simp only [World.iterPos, Lib.iterAt_heap _ _ _ _ _ HIT.out, HIT.out]; omega
            · rw [decide_eq_false ec] at hc0
              have HN := Lib.hid (show ct s = if c = 0 then cutA (h + 1) (rest s (i + 1)) (i + 1) else c by rw [if_neg ec, HCC.out, if_neg ec])
              clear em ec
              go_wp2_with (go_at_call 56; refine (stepOf_up _).mono ?_; rintro e w' ⟨rfl, rfl⟩)
              go_roundw
              case rel => exact ⟨i + 1, c, h + 1, by omega, by omega, by omega, by omega, by simp, rfl, Lib.iterAt_heap _ _ _ _ _ HIT.out, Lib.below_iterAt HB.out (Nat.le_refl _) _ _, by rw [HU.out, HR.out, udA_up _ (.inl HE.out)], by rw [HM.out, HR.out, smA_up _ HE.out]; omega, HN.out⟩
              case measure => simp only [World.iterPos, Lib.iterAt_heap _ _ _ _ _ HIT.out, HIT.out]; omega
          · have hne : (h + 1 == -1) = false := beq_eq_false_iff_ne.2 em
            have HN := Lib.hid (show ct s = if c = 0 then cutA (h + 1) (rest s (i + 1)) (i + 1) else c by
              rw [HCC.out, HR.out]
              by_cases ec : c = 0
              · rw [if_pos ec, if_pos ec, cutA_miss _ _ _ _ (by rw [HST.out]; exact em), HST.out]
              · rw [if_neg ec, if_neg ec])
            clear em hc0
            go_wp2_with (go_at_call 56; refine (stepOf_up _).mono ?_; rintro e w' ⟨rfl, rfl⟩)
            go_roundw
            case rel => exact ⟨i + 1, c, h + 1, by omega, by omega, by omega, by omega, by simp, rfl, Lib.iterAt_heap _ _ _ _ _ HIT.out, Lib.below_iterAt HB.out (Nat.le_refl _) _ _, by rw [HU.out, HR.out, udA_up _ (.inl HE.out)], by rw [HM.out, HR.out, smA_up _ HE.out]; omega, HN.out⟩
            case measure => simp only [World.iterPos, Lib.iterAt_heap _ _ _ _ _ HIT.out, HIT.out]; omega
        · by_cases e2 : s[i].toNat = 100
          · have hnx := next_letter (P := Tryz.prog) wr _ s i 100 hit hlt e2 (by omega)
            have HE := Lib.hid e2
            have HST := Lib.hid (stA_down e2)
            clear hit e1 e2
            by_cases em : h + -1 = -1
            · have hne : (h + -1 == -1) = true := by rw [em]; rfl
              by_cases ec : c = 0
              · rw [decide_eq_true ec] at hc0
                have HN := Lib.hid (show ct s = if i + 1 = 0 then cutA (h + -1) (rest s (i + 1)) (i + 1) else i + 1 by rw [if_neg (by omega), HCC.out, if_pos ec, HR.out, cutA_hit _ _ _ _ (by rw [HST.out]; exact em)])
                subst ec
                clear em
                go_wp2_with (go_at_call 56; refine (stepOf_down _).mono ?_; rintro e w' ⟨rfl, rfl⟩)
                go_roundw
                case rel => exact ⟨i + 1, i + 1, h + -1, by omega, by omega, by omega, by omega, by simp, by simp, Lib.iterAt_heap _ _ _ _ _ HIT.out, Lib.below_iterAt HB.out (Nat.le_refl _) _ _, by rw [HU.out, HR.out, udA_up _ (.inr HE.out)], by rw [HM.out, HR.out, smA_down _ (by have := HE.out; omega)]; omega, HN.out⟩
                case measure => simp only [World.iterPos, Lib.iterAt_heap _ _ _ _ _ HIT.out, HIT.out]; omega
              · rw [decide_eq_false ec] at hc0
                have HN := Lib.hid (show ct s = if c = 0 then cutA (h + -1) (rest s (i + 1)) (i + 1) else c by rw [if_neg ec, HCC.out, if_neg ec])
                clear em ec
                go_wp2_with (go_at_call 56; refine (stepOf_down _).mono ?_; rintro e w' ⟨rfl, rfl⟩)
                go_roundw
                case rel => exact ⟨i + 1, c, h + -1, by omega, by omega, by omega, by omega, by simp, rfl, Lib.iterAt_heap _ _ _ _ _ HIT.out, Lib.below_iterAt HB.out (Nat.le_refl _) _ _, by rw [HU.out, HR.out, udA_up _ (.inr HE.out)], by rw [HM.out, HR.out, smA_down _ (by have := HE.out; omega)]; omega, HN.out⟩
                case measure => simp only [World.iterPos, Lib.iterAt_heap _ _ _ _ _ HIT.out, HIT.out]; omega
            · have hne : (h + -1 == -1) = false := beq_eq_false_iff_ne.2 em
              have HN := Lib.hid (show ct s = if c = 0 then cutA (h + -1) (rest s (i + 1)) (i + 1) else c by
                rw [HCC.out, HR.out]
                by_cases ec : c = 0
                · rw [if_pos ec, if_pos ec, cutA_miss _ _ _ _ (by rw [HST.out]; exact em), HST.out]
                · rw [if_neg ec, if_neg ec])
              clear em hc0
              go_wp2_with (go_at_call 56; refine (stepOf_down _).mono ?_; rintro e w' ⟨rfl, rfl⟩)
              go_roundw
              case rel => exact ⟨i + 1, c, h + -1, by omega, by omega, by omega, by omega, by simp, rfl, Lib.iterAt_heap _ _ _ _ _ HIT.out, Lib.below_iterAt HB.out (Nat.le_refl _) _ _, by rw [HU.out, HR.out, udA_up _ (.inr HE.out)], by rw [HM.out, HR.out, smA_down _ (by have := HE.out; omega)]; omega, HN.out⟩
              case measure => simp only [World.iterPos, Lib.iterAt_heap _ _ _ _ _ HIT.out, HIT.out]; omega
          · obtain ⟨x, j, c1, c2, hnx⟩ := next_other (P := Tryz.prog) wr _ s i hit hlt e1 e2
            have HE := Lib.hid (show ¬ (s[i].toNat = 117 ∨ s[i].toNat = 100) from fun h => h.elim e1 e2)
            clear hit e1 e2
            go_wp2_with (go_at_call 56; refine (stepOf_other _ c1 c2 _).mono ?_; rintro e w' ⟨rfl, rfl⟩)
            go_ret
            refine ⟨?_, Lib.below_iterAt HB.out (Nat.le_refl _) _ _⟩
            have : rfV s = .nilIface := by unfold rfV; rw [HL.out, HU.out, HR.out, udA_no _ HE.out]; rfl
            rw [this]; rfl
      · have hnx := fun ty => Lib.run_next_end_at (P := Tryz.prog) wr _ s i ty hit hlt
        have HE := Lib.hid (rest_end s i (by omega))
        obtain rfl : i = s.size := by omega
        have HUT := Lib.hid (show udS s = true by rw [HL.out, HU.out, HE.out]; rfl)
        have HMT := Lib.hid (show smA s.data.toList = h by rw [HM.out, HE.out, smA]; omega)
        have HCE := Lib.hid (show ct s = c by
          rw [HCC.out, HE.out]
          by_cases ec : c = 0
          · rw [if_pos ec, ec]; rfl
          · rw [if_neg ec])
        have hsl1 := fun W => sl_low29 s c hci W
        have hsl2 := fun W => sl_high29 s c hci W
        have HV := Lib.hid (show rfV s = if h = -2 then .iface 51 (.agg #[.string (s.extract 0 c), .string (s.extract c s.size)]) else if h = 0 ∧ 0 < c then .iface 42 (.agg #[.string (s.extract 0 c), .string (s.extract c s.size)]) else .nilIface by unfold rfV; rw [if_pos HUT.out, HMT.out, HCE.out])
        generalize s.extract 0 c = A at *
        generalize s.extract c s.size = B at *
        clear hit
        have hzB := HB.out.size
        by_cases hm2 : h = -2
        · subst hm2
          have HV2 := Lib.hid (HV.out.trans (if_pos rfl))
          go_wp2
          go_region
          all_goals go_wp2
          all_goals go_ret
          all_goals exact ⟨by rw [HV2.out]; rfl, (HB.out.alloc hzB _).drew⟩
        · have hb2 : (h == -2) = false := beq_eq_false_iff_ne.2 hm2
          by_cases hm0 : h = 0 ∧ 0 < c
          · obtain ⟨rfl, hc⟩ := hm0
            have HV2 := Lib.hid (HV.out.trans ((if_neg hm2).trans (if_pos ⟨rfl, hc⟩)))
            have hci : (0 : Int) < (c : Int) := by omega
            have hcd : decide ((0 : Int) < (c : Int)) = true := decide_eq_true hci
            clear hm2
            go_wp2
            go_region
            all_goals go_wp2
            all_goals go_ret
            all_goals exact ⟨by rw [HV2.out]; rfl, (HB.out.alloc hzB _).drew⟩
          · have HV2 := Lib.hid (HV.out.trans ((if_neg hm2).trans (if_neg hm0)))
            by_cases h0 : h = 0
            · subst h0
              have hc0 : c = 0 := by omega
              subst hc0
              clear hm0 hm2
              go_wp2
              go_region
              all_goals go_wp2
              all_goals go_ret
              all_goals exact ⟨by rw [HV2.out]; rfl, (HB.out.alloc hzB _).drew⟩
            · have hb0 : (h == 0) = false := beq_eq_false_iff_ne.2 h0
              clear hm0 hm2 h0
              go_wp2
              go_region
              all_goals go_wp2
              all_goals go_ret
              all_goals exact ⟨by rw [HV2.out]; rfl, (HB.out.alloc hzB _).drew⟩

end Go.Proofs.YtpggglcjocnjlaaGreat
