/- The program's IsBalanced, strings.CutSuffix by d, and a circle's word and path. -/
import Derived.Test.YtfkkjdggmlggbaaImpl2A
import Derived.Test.YtfkkjdggmlggbaaSpec28
import Derived.Lib.Strings
import Derived.Lib.Slices
namespace Go.Proofs.Ytfkkjdggmlggbaa
open Go.ChangeShapes Go.WideShapes Go.ChangeAt Go.RowKit
open Go.PlainAid (bt bt_nonneg bt_le get_bt bt_end)
set_option linter.unusedVariables false

set_option maxRecDepth 100000 in
set_option maxHeartbeats 1600000 in
theorem isBalancedI (s : ByteArray) (w : World) (hs : s.size ≤ 1048577) : Calls Try.prog 10 #[.string s] w fun e w' => e = .returned (.bool (balB s)) ∧ Below w.heap.size w w' := by
  by_cases h17 : 17 < s.size
  · have HL := Lib.hid (show balB s = false by unfold balB; rw [decide_eq_false (show ¬ s.size ≤ 17 by omega)]; simp)
    have h17' : (17 : Int) < (s.size : Int) := by omega
    go_enter Try.func10, Try.ntmps10
    go_wp2
    go_ret
    exact ⟨ret_bool HL.out.symm, Below.refl _ _⟩
  · have h17' : s.size ≤ 17 := by omega
    have HL := Lib.hid (show balB s = (udA s.data.toList && decide (smA s.data.toList = -1)) by unfold balB; rw [decide_eq_true h17', Bool.and_true])
    go_enter Try.func10, Try.ntmps10
    go_wp2
    go_loopw [3] (fun x wr => ∃ (i : Nat) (h : Int), i ≤ s.size ∧ -(i : Int) ≤ h ∧ h ≤ i ∧ x = .int .i64 h ∧ wr.heap[w.heap.size]? = some (.stringIter s i) ∧ Below w.heap.size w wr ∧ udA s.data.toList = udA (rest s i) ∧ smA s.data.toList = h + smA (rest s i)) (fun _ wr => s.size - wr.iterPos w.heap.size)
    case atStart => exact ⟨0, 0, Nat.zero_le _, by omega, by omega, rfl, World.iter_heap w s 0, (Below.refl _ _).alloc (Nat.le_refl _) _, rfl, by rw [rest_zero]; omega⟩
    case round =>
      obtain ⟨i, h, hi, h1, h2, rfl, hit, hb, hu, hm⟩ := hrel
      have HU := Lib.hid hu
      have HM := Lib.hid hm
      have HIT := Lib.hid hit
      have HB := Lib.hid hb
      clear hu hm hb
      by_cases hlt : i < s.size
      · have HR := Lib.hid (rest_cons s i hlt)
        by_cases e1 : s[i].toNat = 117
        · have hnx := next_letter (P := Try.prog) wr _ s i 117 hit hlt e1 (by omega)
          have HE := Lib.hid e1
          clear hit e1
          go_wp2_with (go_at_call 26; refine (stepOf_up _).mono ?_; rintro e w' ⟨rfl, rfl⟩)
          go_roundw
          case rel => exact ⟨i + 1, h + 1, by omega, by omega, by omega, by simp, Lib.iterAt_heap _ _ _ _ _ HIT.out, Lib.below_iterAt HB.out (Nat.le_refl _) _ _, by rw [HU.out, HR.out, udA_up _ (.inl HE.out)], by rw [HM.out, HR.out, smA_up _ HE.out]; omega⟩
          case measure => simp only [World.iterPos, Lib.iterAt_heap _ _ _ _ _ HIT.out, HIT.out]; omega
        · by_cases e2 : s[i].toNat = 100
          · have hnx := next_letter (P := Try.prog) wr _ s i 100 hit hlt e2 (by omega)
            have HE := Lib.hid e2
            clear hit e1 e2
            go_wp2_with (go_at_call 26; refine (stepOf_down _).mono ?_; rintro e w' ⟨rfl, rfl⟩)
            go_roundw
            case rel => exact ⟨i + 1, h - 1, by omega, by omega, by omega, by first | rfl | (simp; omega), Lib.iterAt_heap _ _ _ _ _ HIT.out, Lib.below_iterAt HB.out (Nat.le_refl _) _ _, by rw [HU.out, HR.out, udA_up _ (.inr HE.out)], by rw [HM.out, HR.out, smA_down _ (by have := HE.out; omega)]; omega⟩
            case measure => simp only [World.iterPos, Lib.iterAt_heap _ _ _ _ _ HIT.out, HIT.out]; omega
          · obtain ⟨c, j, c1, c2, hnx⟩ := next_other (P := Try.prog) wr _ s i hit hlt e1 e2
            have HE := Lib.hid (show ¬ (s[i].toNat = 117 ∨ s[i].toNat = 100) from fun h => h.elim e1 e2)
            clear hit e1 e2
            go_wp2_with (go_at_call 26; refine (stepOf_other _ c1 c2 _).mono ?_; rintro e w' ⟨rfl, rfl⟩)
            go_ret
            refine ⟨ret_bool ?_, Lib.below_iterAt HB.out (Nat.le_refl _) _ _⟩
            rw [HL.out, HU.out, HR.out, udA_no _ HE.out]; rfl
      · have hnx := fun ty => Lib.run_next_end_at (P := Try.prog) wr _ s i ty hit hlt
        have HE := Lib.hid (rest_end s i (by omega))
        clear hit
        go_wp2
        go_ret
        refine ⟨ret_bool ?_, HB.out⟩
        rw [HL.out, HU.out, HM.out, HE.out]
        rw [Bool.eq_iff_iff]
        simp [udA, smA]

theorem suf_at (s : ByteArray) (m : Nat) (h : s.size = m + 1) : ((s.extract m s.size).toList == (⟨#[100]⟩ : ByteArray).toList) = decide (bt s m = 100) := by
  have hz : (s.extract m s.size).size = 1 := by rw [ByteArray.size_extract]; omega
  have hb : bt (s.extract m s.size) 0 = bt s m := by rw [bt_ext s m s.size 0 (Nat.le_refl _) (by omega), Nat.add_zero]
  rw [Lib.toList_data, Lib.toList_data]
  rw [Bool.eq_iff_iff, beq_iff_eq, decide_eq_true_eq, ← hb]
  constructor
  · intro e
    have : s.extract m s.size = ⟨#[100]⟩ := ByteArray.ext (Array.toList_inj.1 e)
    rw [this]; rfl
  · intro e
    have : s.extract m s.size = ⟨#[100]⟩ := str_ext (by rw [hz]; rfl) (fun k hk => by
      obtain rfl : k = 0 := by omega
      rw [e]; rfl)
    rw [this]

/-- Whether a word ends with d. -/
def sfB (s : ByteArray) : Bool := decide (0 < s.size) && decide (bt s (s.size - 1) = 100)
set_option maxRecDepth 100000 in
theorem hasSuf (s : ByteArray) (w : World) (hs : s.size ≤ 1048577) : Calls Try.prog 42 #[.string s, .string ⟨#[100]⟩] w fun e w' => e = .returned (.bool (sfB s)) ∧ w = w' := by
  have hz : ((⟨#[100]⟩ : ByteArray).size : Int) = 1 := rfl
  by_cases h0 : 0 < s.size
  · obtain ⟨m, hm⟩ : ∃ m, s.size = m + 1 := ⟨s.size - 1, by omega⟩
    have hp := suf_at s m hm
    have HP := Lib.hid (show sfB s = decide (bt s m = 100) by unfold sfB; rw [decide_eq_true h0, hm]; rfl)
    have h1 : (1 : Int) ≤ (s.size : Int) := by omega
    have hmi : (s.size : Int) - 1 = (m : Int) := by omega
    have hsl : ∀ W : World, (Instr.slice 9 (.string s) (some (.int .i64 (m : Int))) none none).run Try.prog W = .ok (.string (s.extract m s.size)) W := sl_low s m (by omega)
    generalize decide (bt s m = 100) = r at *
    generalize s.extract m s.size = y at *
    have hmw : IntKind.i64.wrap (m : Int) = (m : Int) := IntWalk.i64_in _ (by omega)
    clear hm
    go_enter Try.func42, Try.ntmps42
    go_wp2
    go_ret
    exact ⟨ret_bool (by rw [HP.out, ← hp, Lib.toList_data ⟨#[100]⟩]), rfl⟩
  · have h1 : ¬ ((1 : Int) ≤ (s.size : Int)) := by omega
    have HP := Lib.hid (show sfB s = false by unfold sfB; rw [decide_eq_false h0]; rfl)
    go_enter Try.func42, Try.ntmps42
    go_wp2
    go_ret
    exact ⟨ret_bool HP.out.symm, rfl⟩
/-- The word without its last letter, where that is d. -/
def csP (s : ByteArray) : ByteArray := if sfB s = true then s.extract 0 (s.size - 1) else s
set_option maxRecDepth 100000 in
theorem liteSuf (s : ByteArray) (w : World) (hs : s.size ≤ 1048577) : Calls Try.prog 40 #[.string s, .string ⟨#[100]⟩] w fun e w' => e = .returned (.tuple #[.string (csP s), .bool (sfB s)]) ∧ w = w' := by
  have H := Lib.hid (hasSuf s w hs)
  have hz : ((⟨#[100]⟩ : ByteArray).size : Int) = 1 := rfl
  rcases hb : sfB s with _ | _
  · have HP := Lib.hid (show csP s = s from if_neg (by rw [hb]; simp))
    rw [hb] at H
    clear hb
    go_enter Try.func40, Try.ntmps40
    go_wp2_with fail
    (with_reducible refine H.out.mono ?_)
    rintro e w' ⟨rfl, rfl⟩
    go_wp2
    go_ret2
    exact ⟨ret28s HP.out.symm rfl, rfl⟩
  · have h0 : 0 < s.size := by
      unfold sfB at hb
      by_cases h : 0 < s.size
      · exact h
      · rw [decide_eq_false h] at hb; cases hb
    obtain ⟨m, hm⟩ : ∃ m, s.size = m + 1 := ⟨s.size - 1, by omega⟩
    have HP := Lib.hid (show csP s = s.extract 0 m by unfold csP; rw [if_pos hb, hm]; rfl)
    have hmi : (s.size : Int) - 1 = (m : Int) := by omega
    have hsl : ∀ W : World, (Instr.slice 9 (.string s) none (some (.int .i64 (m : Int))) none).run Try.prog W = .ok (.string (s.extract 0 m)) W := sl_high s m (by omega)
    have hmw : IntKind.i64.wrap (m : Int) = (m : Int) := IntWalk.i64_in _ (by omega)
    rw [hb] at H
    generalize s.extract 0 m = y at *
    clear hb hm h0
    go_enter Try.func40, Try.ntmps40
    go_wp2_with fail
    (with_reducible refine H.out.mono ?_)
    rintro e w' ⟨rfl, rfl⟩
    go_wp2
    go_ret2
    exact ⟨ret28s HP.out.symm rfl, rfl⟩
set_option maxRecDepth 100000 in
theorem cutSuf (s : ByteArray) (w : World) (hs : s.size ≤ 1048577) : Calls Try.prog 35 #[.string s, .string ⟨#[100]⟩] w fun e w' => e = .returned (.tuple #[.string (csP s), .bool (sfB s)]) ∧ w = w' := by
  have H := Lib.hid (liteSuf s w hs)
  go_enter Try.func35, Try.ntmps35
  go_wp2_with fail
  (with_reducible refine H.out.mono ?_)
  rintro e w' ⟨rfl, rfl⟩
  go_wp2
  go_ret2
  exact ⟨rfl, rfl⟩

/-- A circle in block b. -/
def Cir (w : World) (b : Nat) (s : ByteArray) (k : Int) : Prop := w.cell? ⟨b, 0, none⟩ = some (.string s) ∧ w.cell? ⟨b, 1, none⟩ = some (.int .i64 k) ∧ w.frozen? ⟨b, 1, none⟩ = false ∧ b < w.heap.size
theorem Cir.keep {w w' : World} {b B : Nat} {s : ByteArray} {k : Int} (h : Cir w b s k) (hb : Below B w w') (hB : b < B) (hz : w.heap.size ≤ w'.heap.size) : Cir w' b s k :=
  ⟨(hb.cell (p := ⟨b, 0, none⟩) hB).trans h.1, (hb.cell (p := ⟨b, 1, none⟩) hB).trans h.2.1, (hb.frozen (p := ⟨b, 1, none⟩) hB).trans h.2.2.1, Nat.lt_of_lt_of_le h.2.2.2 hz⟩
theorem Cir.set {w : World} {b : Nat} {s : ByteArray} {k : Int} (h : Cir w b s k) (j : Int) : Cir (w.setCell ⟨b, 1, none⟩ (.int .i64 j)) b s j := by
  obtain ⟨h1, h2, h3, h4⟩ := h
  refine ⟨?_, ?_, ?_, ?_⟩
  · exact (World.cell?_setCell_other w _ _ _ (fun h => by cases h)).trans h1
  · exact World.cell?_setCell_same w _ _ h2
  · rw [World.frozen?_setCell]; exact h3
  · simpa [World.setCell] using h4

set_option maxRecDepth 100000 in
set_option maxHeartbeats 800000 in
theorem wordI (b : Nat) (s : ByteArray) (k : Nat) (w : World) (hc : Cir w b s k) (hk : k ≤ s.size) (hs : s.size ≤ 1048577) :
    Calls Try.prog 28 #[.pointer (some ⟨b, 0, none⟩)] w fun e w' => e = .returned (.string (rtS s k)) ∧ Below w.heap.size w w' := by
  obtain ⟨a, c, HAB, hab, sl1, sl2⟩ := rt_parts s k hk
  have hab2 : ¬ 9223372036854775807 < a.size + c.size := by omega
  obtain ⟨c0, c1, f1, hbz⟩ := hc
  clear hab
  go_enter Try.func28, Try.ntmps28
  go_wp2
  go_quiet (fail)
  go_wp2
  go_ret
  exact ⟨ret_str HAB.out.symm, below_drewN (Below.refl _ _) _⟩

/-- What a circle's path is. -/
def pthP (x : ByteArray) : ByteArray := if gdW x = true then x.extract 0 (x.size - 1) else ⟨#[]⟩
theorem gd_parts (x : ByteArray) : gdW x = (sfB x && dyck (csP x)) := by
  unfold gdW csP sfB
  by_cases h0 : 0 < x.size
  · rw [decide_eq_true h0, Bool.true_and, Bool.true_and]
    by_cases e : bt x (x.size - 1) = 100
    · rw [decide_eq_true e, if_pos rfl, Bool.and_true, Bool.true_and]
    · rw [decide_eq_false e, Bool.and_false, Bool.false_and]
  · rw [decide_eq_false h0]; simp
theorem pth_yes {x : ByteArray} (h : gdW x = true) : pthP x = csP x := by
  have h2 := gd_parts x
  rw [h] at h2
  have h3 : sfB x = true := by
    rcases hb : sfB x with _ | _
    · rw [hb] at h2; cases h2
    · rfl
  unfold pthP csP
  rw [if_pos h, if_pos h3]

set_option maxRecDepth 100000 in
set_option maxHeartbeats 800000 in
theorem pathI (b : Nat) (s : ByteArray) (k : Nat) (w : World) (hc : Cir w b s k) (hk : k ≤ s.size) (hs : s.size ≤ 1048577) :
    Calls Try.prog 25 #[.pointer (some ⟨b, 0, none⟩)] w fun e w' => e = .returned (.tuple #[.string (pthP (rtS s k)), .bool (gdW (rtS s k))]) ∧ Below w.heap.size w w' := by
  have HW := Lib.hid (wordI b s k w hc hk hs)
  have hz := rtS_size s k hk
  have HC := Lib.hid (fun W => cutSuf (rtS s k) W (by omega))
  have HG := Lib.hid (gd_parts (rtS s k))
  have HY := Lib.hid (fun h => pth_yes (x := rtS s k) h)
  have HN := Lib.hid (fun (h : gdW (rtS s k) = false) => show pthP (rtS s k) = ⟨#[]⟩ from if_neg (by rw [h]; simp))
  generalize rtS s k = x at *
  rcases h1 : sfB x with _ | _
  · rw [h1] at HC HG
    have hg : gdW x = false := HG.out
    have HN2 := Lib.hid (HN.out hg)
    rw [hg]
    clear h1 HG HY HN hg
    go_enter Try.func25, Try.ntmps25
    go_wp2_with fail
    (with_reducible refine HW.out.mono ?_)
    rintro e w1 ⟨rfl, hb1⟩
    go_wp2_with fail
    (with_reducible refine (HC.out _).mono ?_)
    rintro e w' ⟨rfl, rfl⟩
    go_wp2
    go_ret2
    exact ⟨ret28s HN2.out.symm rfl, hb1⟩
  · rw [h1] at HC HG
    have HD := Lib.hid (fun W => isDyckI (csP x) W)
    rcases h2 : dyck (csP x) with _ | _
    · rw [h2] at HG HD
      have hg : gdW x = false := HG.out
      have HN2 := Lib.hid (HN.out hg)
      rw [hg]
      clear h1 h2 HG HY HN hg
      generalize csP x = y at *
      go_enter Try.func25, Try.ntmps25
      go_wp2_with fail
      (with_reducible refine HW.out.mono ?_)
      rintro e w1 ⟨rfl, hb1⟩
      go_wp2_with fail
      (with_reducible refine (HC.out _).mono ?_)
      rintro e w' ⟨rfl, rfl⟩
      go_wp2_with fail
      (with_reducible refine (HD.out _).mono ?_)
      rintro e w2 ⟨rfl, hb2⟩
      go_wp2
      go_ret2
      exact ⟨ret28s HN2.out.symm rfl, hb1.trans (hb2.mono hb1.size)⟩
    · rw [h2] at HG HD
      have hg : gdW x = true := HG.out
      have HN2 := Lib.hid (HY.out hg)
      rw [hg]
      clear h1 h2 HG HY HN hg
      generalize csP x = y at *
      go_enter Try.func25, Try.ntmps25
      go_wp2_with fail
      (with_reducible refine HW.out.mono ?_)
      rintro e w1 ⟨rfl, hb1⟩
      go_wp2_with fail
      (with_reducible refine (HC.out _).mono ?_)
      rintro e w' ⟨rfl, rfl⟩
      go_wp2_with fail
      (with_reducible refine (HD.out _).mono ?_)
      rintro e w2 ⟨rfl, hb2⟩
      go_wp2
      go_ret2
      exact ⟨ret28s HN2.out.symm rfl, hb1.trans (hb2.mono hb1.size)⟩

end Go.Proofs.Ytfkkjdggmlggbaa
