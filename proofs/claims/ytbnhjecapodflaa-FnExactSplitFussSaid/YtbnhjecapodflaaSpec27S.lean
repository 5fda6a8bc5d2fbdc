/- SplitFuss, the model. -/
import Derived.Test.YtbnhjecapodflaaSplit27
namespace Go.Proofs.Ytbnhjecapodflaa
open Go.ChangeShapes Go.WideShapes Go.ChangeAt Go.RowKit
open Go.PlainAid (bt bt_nonneg bt_le get_bt bt_end)
set_option linter.unusedVariables false

set_option maxRecDepth 100000 in
set_option maxHeartbeats 3200000 in
theorem splitFuss (m : Int) (s : ByteArray) (w : World) (hs : s.size ≤ 1048577) : Calls Try.prog 18 #[.int .i64 m, .string s] w (AnsSB (splP m s) (splOk m s) w) := by
  have HF := Lib.hid (fun W => isFuss m s W hs)
  rcases hf : fuB m s with _ | _
  · have HO := Lib.hid (show splOk m s = false by unfold splOk; rw [hf]; rfl)
    have HP := Lib.hid (show splP m s = [] from if_neg (by rw [HO.out]; simp))
    rw [hf] at HF
    clear hf
    go_enter Try.func18, Try.ntmps18
    go_wp2_with fail
    (with_reducible refine (HF.out _).mono ?_)
    rintro e w1 ⟨rfl, rfl⟩
    go_wp2
    go_ret2
    exact ⟨_, ret_spl rfl HO.out.symm, by rw [HP.out]; exact OwnS.of_row (World.ownsRow_made w #[] 0 (Nat.le_refl _) (Nat.zero_le _) (by simp)), (Below.refl _ _).alloc (Nat.le_refl _) _⟩
  · rw [hf] at HF
    by_cases h0 : 0 < s.size
    · have HO := Lib.hid (show splOk m s = true by unfold splOk; rw [hf, decide_eq_true h0]; rfl)
      have HP := Lib.hid (show splP m s = spW m s from if_pos HO.out)
      have hw := fz_word hf
      have HW := Lib.hid hw
      have HS1 := Lib.hid (stP_one hw h0)
      have hm1 := hw.m1
      have hm4 := hw.m4
      have h24 := hw.size
      have hne := str_full s h0
      obtain ⟨M, hM⟩ : ∃ M : Nat, m = (M : Int) + 1 := ⟨(m - 1).toNat, by omega⟩
      have HMM := Lib.hid hM
      have hwm : IntKind.i64.wrap (m - 1) = (M : Int) := by rw [hM]; exact (IntWalk.i64_in _ (by omega)).trans (by omega)
      have hM3 : M ≤ 3 := by omega
      clear hf hw hM
      go_enter Try.func18, Try.ntmps18
      go_wp2_with fail
      (with_reducible refine (HF.out _).mono ?_)
      rintro e w1 ⟨rfl, rfl⟩
      go_wp2
      go_loopw [6, 7, 8] (fun v x y wr => ∃ (k a : Nat) (acc : List ByteArray), x = .int .i64 a ∧ y = .int .i64 k ∧ k ≤ M ∧ 1 ≤ a ∧ a ≤ s.size ∧ acc.length = k ∧ Hid (stP m s a = (a, m - 1 - (k : Int), acc)) ∧ Hid (hG m s a = m - 1 - (k : Int)) ∧ wr.ownsRow w.heap.size 9 1 v acc.length (acc.map Value.string) ∧ Below w.heap.size w wr) (fun _ _ y _ => M - (intOf y).toNat)
      case atStart => exact ⟨0, 1, [], rfl, rfl, Nat.zero_le _, Nat.le_refl _, h0, rfl, Lib.hid (by rw [HS1.out.2]; simp), Lib.hid (by rw [HS1.out.1]; simp), World.ownsRow_made w #[] 0 (Nat.le_refl _) (Nat.zero_le _) (by simp), (Below.refl _ _).alloc (Nat.le_refl _) _⟩
      case round =>
        obtain ⟨k, a, acc, rfl, rfl, hk, ha1, ha, hal, HST, HHG, hown, hb⟩ := hrel
        have HB := Lib.hid hb
        have HOWN := Lib.hid hown
        have hB := hb.size
        have HAL := Lib.hid hal
        have hal4 : acc.length ≤ 1099511627776 := by omega
        clear hb hown hal
        by_cases hlt : k < M
        · have hki : (k : Int) < (M : Int) := by omega
          obtain ⟨wo, rfl⟩ : ∃ wo, wo = wr := ⟨_, rfl⟩
          go_wp2
          go_loopw [7, 9, 10] (fun x y z wr => ∃ (i h : Nat), x = .int .i64 i ∧ y = .int .i64 h ∧ z = .string (s.extract a i) ∧ wr = wo ∧ a ≤ i ∧ i < s.size ∧ h ≤ 3 * i ∧ Hid (stP m s i = (a, m - 1 - (k : Int), acc)) ∧ Hid (hG m s i = m - 1 - (k : Int) + (h : Int))) (fun x _ _ _ => s.size - (intOf x).toNat)
          case atStart =>
            refine ⟨a, 0, rfl, rfl, ?_, rfl, Nat.le_refl _, ?_, Nat.zero_le _, HST, Lib.hid (by rw [HHG.out]; simp)⟩
            · congr 1; apply ByteArray.ext; simp
            · by_cases e : a = s.size
              · have := HHG.out; rw [e, HW.out.fin] at this; have := HMM.out; omega
              · omega
          case round =>
            obtain ⟨i, h, rfl, rfl, rfl, hwr, hai, hi, hh3, HSI, HHI⟩ := hrel
            subst hwr
            have hii : (i : Int) < (s.size : Int) := by omega
            have hi1s : (i : Int) + 1 ≤ (s.size : Int) := by omega
            have hi1i : (i : Int) ≤ (i : Int) + 1 := by omega
            have hi3 : ((i : Int) + 1).toNat = i + 1 := by omega
            have HEX := Lib.hid (ext_on s a i hai hi)
            have hcat : ¬ 9223372036854775807 < (s.extract a i).size + (s.extract i (i + 1)).size := by simp only [ByteArray.size_extract]; omega
            have hbt := get_bt s
            rcases HW.out.letter i hi with e1 | e1
            · have hx1 : IntKind.i64.wrap ((h : Int) + m) = (h : Int) + m := IntWalk.i64_in _ (by omega)
              have hx2 : IntKind.i64.wrap ((h : Int) + m - 1) = (h : Int) + m - 1 := IntWalk.i64_in _ (by omega)
              have b1 : (bt s i == 117) = true := by simp [e1]
              have HU := Lib.hid (hG_up (m := m) e1)
              have HNX := Lib.hid (stP_not HSI.out (by rw [HU.out, HHI.out]; omega))
              have HIN := Lib.hid (show i + 1 < s.size by
                by_cases e : i + 1 = s.size
                · have := HW.out.fin; rw [← e, HU.out, HHI.out] at this; have := HMM.out; omega
                · omega)
              clear e1
              by_cases hh : 0 < h
              · have hhi : (0 : Int) < (h : Int) := by omega
                go_wp2
                exact ⟨⟨i + 1, h + M, by simp, by have := HMM.out; first | (simp; done) | (simp; omega), by first | rfl | rw [HEX.out], by first | rfl | trivial, by omega, HIN.out, by omega, HNX, Lib.hid (by rw [HU.out, HHI.out]; have := HMM.out; omega)⟩, by simp [intOf]; omega⟩
              · obtain rfl : h = 0 := by omega
                go_wp2
                exact ⟨⟨i + 1, 0 + M, by simp, by have := HMM.out; first | (simp; done) | (simp; omega), by first | rfl | rw [HEX.out], by first | rfl | trivial, by omega, HIN.out, by omega, HNX, Lib.hid (by rw [HU.out, HHI.out]; have := HMM.out; omega)⟩, by simp [intOf]; omega⟩
            · have b1 : (bt s i == 117) = false := by simp [e1]
              have HU := Lib.hid (hG_down (m := m) e1)
              clear e1
              by_cases hh : 0 < h
              · have hhi : (0 : Int) < (h : Int) := by omega
                have hx1 : IntKind.i64.wrap ((h : Int) - 1) = (h : Int) - 1 := IntWalk.i64_in _ (by omega)
                have HNX := Lib.hid (stP_not HSI.out (by rw [HU.out, HHI.out]; omega))
                have HIN := Lib.hid (show i + 1 < s.size by
                  by_cases e : i + 1 = s.size
                  · have := HW.out.fin; rw [← e, HU.out, HHI.out] at this; have := HMM.out; omega
                  · omega)
                go_wp2
                exact ⟨⟨i + 1, h - 1, by simp, by congr 1; omega, by first | rfl | rw [HEX.out], by first | rfl | trivial, by omega, HIN.out, by omega, HNX, Lib.hid (by rw [HU.out, HHI.out]; omega)⟩, by simp [intOf]; omega⟩
              · obtain rfl : h = 0 := by omega
                have HLO := Lib.hid (stP_low HSI.out (by rw [HU.out, HHI.out]; omega))
                have HEH := Lib.hid (show hG m s (i + 1) = m - 1 - ((k + 1 : Nat) : Int) by rw [HU.out, HHI.out]; omega)
                go_wp2_with (at_builtin; go_must (refine wpAppStr rfl _ _ rfl w.heap.size _ _ _ rfl (HOWN.out.alloc _) wr.heap.size _ _ rfl (cell_one _ _ _) hal4 (base_up hB) ?_); intro v' w' hown' hg')
                exact ⟨⟨k + 1, i + 1, acc ++ [s.extract a i], by simp, by simp, by omega, by omega, by omega, by rw [List.length_append, HAL.out]; rfl, Lib.hid (by rw [HLO.out, HEH.out]), HEH, by simpa using hown', (HB.out.alloc hB _).grown hg' (base_up hB) (fun k hk => (HOWN.out.lt k hk).1)⟩, by simp [intOf]; omega⟩
        · obtain rfl : k = M := by omega
          have hki : ¬ (k : Int) < (k : Int) := by omega
          have has : (a : Int) ≤ (s.size : Int) := by omega
          have HFIN := Lib.hid (show spW m s = acc ++ [s.extract a s.size] from spW_stay HW.out ha (by rw [HST.out]; congr 2; have := HMM.out; omega))
          go_wp2_with (at_builtin; go_must (refine wpAppStr rfl _ _ rfl w.heap.size _ _ _ rfl (HOWN.out.alloc _) wr.heap.size _ _ rfl (cell_one _ _ _) hal4 (base_up hB) ?_); intro v' w' hown' hg')
          go_ret2
          exact ⟨_, ret_spl rfl HO.out.symm, by rw [HP.out, HFIN.out]; exact OwnS.of_row (by simpa using hown'), (HB.out.alloc hB _).grown hg' (base_up hB) (fun k hk => (HOWN.out.lt k hk).1)⟩
    · have HO := Lib.hid (show splOk m s = false by unfold splOk; rw [decide_eq_false h0]; simp)
      have HP := Lib.hid (show splP m s = [] from if_neg (by rw [HO.out]; simp))
      have hne := str_none s (by omega)
      clear hf
      go_enter Try.func18, Try.ntmps18
      go_wp2_with fail
      (with_reducible refine (HF.out _).mono ?_)
      rintro e w1 ⟨rfl, rfl⟩
      go_wp2
      go_ret2
      exact ⟨_, ret_spl rfl HO.out.symm, by rw [HP.out]; exact OwnS.of_row (World.ownsRow_made w #[] 0 (Nat.le_refl _) (Nat.zero_le _) (by simp)), (Below.refl _ _).alloc (Nat.le_refl _) _⟩

end Go.Proofs.Ytbnhjecapodflaa
