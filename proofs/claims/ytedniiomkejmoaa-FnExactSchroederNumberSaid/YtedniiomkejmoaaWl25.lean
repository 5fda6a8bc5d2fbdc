/- IsMotzkin and IsSchroeder, both functions (written by tools/mk25a.py). -/
import Derived.Test.YtedniiomkejmoaaAlp25
namespace Go.Proofs.Ytedniiomkejmoaa
open Go.ChangeShapes Go.WideShapes Go.ChangeAt Go.RowKit
open Go.PlainAid (bt bt_nonneg bt_le get_bt bt_end)
set_option linter.unusedVariables false

def wl (W : Int) : List Kd := [(117, 1, 1), (108, 0, W), (100, -1, 1)]
theorem fnd_wl (W x : Int) : fnd (wl W) x = if x = 117 then some (117, 1, 1) else if x = 108 then some (108, 0, W) else if x = 100 then some (100, -1, 1) else none := by
  unfold fnd wl
  by_cases e1 : x = 117
  · subst e1; rfl
  · rw [if_neg e1]
    by_cases e2 : x = 108
    · subst e2; rfl
    · rw [if_neg e2]
      by_cases e3 : x = 100
      · subst e3; rfl
      · rw [if_neg e3]
        simp only [List.find?_cons, List.find?_nil]
        rw [show ((117 : Int) == x) = false from beq_eq_false_iff_ne.2 (fun h => e1 h.symm), show ((108 : Int) == x) = false from beq_eq_false_iff_ne.2 (fun h => e2 h.symm), show ((100 : Int) == x) = false from beq_eq_false_iff_ne.2 (fun h => e3 h.symm)]
theorem mod_wl (W : Int) (h0 : 0 ≤ W) (h2 : W ≤ 2) : Mod (wl W) := by
  intro x k h
  rw [fnd_wl] at h
  split at h
  · rename_i e; cases h; exact ⟨by decide, by decide, by decide, by decide, by omega⟩
  · split at h
    · rename_i e; cases h; exact ⟨h0, h2, (by decide : (-1 : Int) ≤ 0), (by decide : (0 : Int) ≤ 3), by omega⟩
    · split at h
      · rename_i e; cases h; exact ⟨by decide, by decide, by decide, by decide, by omega⟩
      · cases h
set_option maxRecDepth 100000 in
theorem withLevelsI (W : Int) (w : World) : Calls Try.prog 24 #[.int .i64 W] w fun e w' => e = .returned (.slice (some ⟨w.heap.size, 0, none⟩) 3 3) ∧ Alph w' w.heap.size (wl W) ∧ Below w.heap.size w w' := by
  go_enter Try.func24, Try.ntmps24
  go_wp2
  go_ret
  refine ⟨rfl, ⟨by simp, fun i hi => ?_⟩, (Below.refl _ _).alloc (Nat.le_refl _) _⟩
  match i, hi with
  | 0, _ => exact ⟨by simp [wl, kd0], by simp [wl, kd0], by simp [wl, kd0]⟩
  | 1, _ => exact ⟨by simp [wl, kd0], by simp [wl, kd0], by simp [wl, kd0]⟩
  | 2, _ => exact ⟨by simp [wl, kd0], by simp [wl, kd0], by simp [wl, kd0]⟩

set_option maxRecDepth 100000 in
set_option maxHeartbeats 1600000 in
theorem isSchroederI (s : ByteArray) (w : World) (hs : s.size ≤ 1048577) : Calls Try.prog 10 #[.string s] w fun e w' => e = .returned (.bool (alB (wl 2) 16 s)) ∧ Below w.heap.size w w' := by
  have HL := Lib.hid (withLevelsI 2 w)
  have HS := Lib.hid (fun W (h : Alph W w.heap.size (wl 2)) => spellsI (wl 2) w.heap.size 3 16 s W h rfl (Nat.le_refl _) (mod_wl 2 (by omega) (by omega)) (by omega) (by omega) hs)
  generalize alB (wl 2) 16 s = r at *
  go_enter Try.func10, Try.ntmps10
  go_wp2_with fail
  (with_reducible refine HL.out.mono ?_)
  rintro e w1 ⟨rfl, ha, hb⟩
  go_wp2_with fail
  (with_reducible refine (HS.out _ ?h).mono ?_)
  case h => exact ha
  rintro e w2 ⟨rfl, hb2⟩
  go_wp2
  go_ret
  exact ⟨ret_bool rfl, hb.trans (hb2.mono hb.size)⟩

set_option maxRecDepth 100000 in
set_option maxHeartbeats 1600000 in
theorem isSchroeder (s : ByteArray) (w : World) (hs : s.size ≤ 1048577) : Calls Try.prog 9 #[.string s] w fun e w' => e = .returned (.bool (alB (wl 2) 16 s)) ∧ w = w' := by
  go_enter Try.func9, Try.ntmps9
  go_wp2
  go_loop [3, 4, 5] (fun x z y => ∃ (i : Nat) (h v : Int), i ≤ s.size ∧ 0 ≤ h ∧ h ≤ i ∧ (i : Int) ≤ v ∧ v ≤ 2 * (i : Int) ∧ y = .int .i64 i ∧ x = .int .i64 h ∧ z = .int .i64 v ∧ spG (wl 2) 0 s.data.toList = spG (wl 2) h (rest s i) ∧ wdG (wl 2) s.data.toList = v + wdG (wl 2) (rest s i)) (fun _ _ y => s.size - (intOf y).toNat)
  case atStart => exact ⟨0, 0, 0, Nat.zero_le _, by omega, by omega, by omega, by omega, rfl, rfl, rfl, rfl, by rw [rest_zero]; omega⟩
  case round =>
    obtain ⟨i, h, v, hi, h1, h2, v1, v2, rfl, rfl, rfl, hu, hw⟩ := hrel
    have HU := Lib.hid hu
    have HW := Lib.hid hw
    clear hu hw
    by_cases hlt : i < s.size
    · have hbt := get_bt s
      have HR := Lib.hid (rest_cons s i hlt)
      have HBB := Lib.hid (bt_at s i hlt)
      have hn1 : decide (h + 1 < 0) = false := decide_eq_false (by omega)
      have hn0 : decide (h < 0) = false := decide_eq_false (by omega)
      by_cases e117 : bt s i = 117
      · have b117 : (bt s i == 117) = true := by simp [e117]
        have HE := Lib.hid (show s[i].toNat = 117 by have := HBB.out; omega)
        have HF := Lib.hid (show fnd (wl 2) (s[i].toNat : Int) = some (117, 1, 1) by rw [fnd_wl, HE.out]; rfl)
        clear e117
        go_wp2
        exact ⟨⟨i + 1, h + 1, v + 1, by omega, by omega, by omega, by omega, by omega, by simp, by first | rfl | simp, by first | rfl | (simp; omega), by rw [HU.out, HR.out, spG_on _ _ HF.out (by show ¬ h + (1) < 0; omega)], by rw [HW.out, HR.out, wdG_on _ HF.out]; show _ + (1 + _) = _; omega⟩, by simp [intOf]; omega⟩
      · have b117 : (bt s i == 117) = false := by simp [e117]
        by_cases e100 : bt s i = 100
        · have b100 : (bt s i == 100) = true := by simp [e100]
          have HE := Lib.hid (show s[i].toNat = 100 by have := HBB.out; omega)
          have HF := Lib.hid (show fnd (wl 2) (s[i].toNat : Int) = some (100, -1, 1) by rw [fnd_wl, HE.out]; rfl)
          clear e117 e100
          by_cases ez : h = 0
          · subst ez
            go_wp2
            go_ret
            refine ⟨ret_bool ?_, rfl⟩
            unfold alB
            rw [HU.out, HR.out, spG_low _ _ HF.out (by show (0 : Int) + -1 < 0; omega)]; rfl
          · have hm1 : decide (h - 1 < 0) = false := decide_eq_false (by omega)
            have hm2 : ¬ h - 1 < 0 := by omega
            go_wp2
            exact ⟨⟨i + 1, h - 1, v + 1, by omega, by omega, by omega, by omega, by omega, by simp, by first | rfl | simp, by first | rfl | (simp; omega), by rw [HU.out, HR.out, spG_on _ _ HF.out (by show ¬ h + (-1) < 0; omega)]; rfl, by rw [HW.out, HR.out, wdG_on _ HF.out]; show _ + (1 + _) = _; omega⟩, by simp [intOf]; omega⟩
        · have b100 : (bt s i == 100) = false := by simp [e100]
          by_cases e108 : bt s i = 108
          · have b108 : (bt s i == 108) = true := by simp [e108]
            have HE := Lib.hid (show s[i].toNat = 108 by have := HBB.out; omega)
            have HF := Lib.hid (show fnd (wl 2) (s[i].toNat : Int) = some (108, 0, 2) by rw [fnd_wl, HE.out]; rfl)
            clear e117 e100 e108
            go_wp2
            exact ⟨⟨i + 1, h, v + 2, by omega, by omega, by omega, by omega, by omega, by simp, by first | rfl | simp, by first | rfl | (simp; omega), by rw [HU.out, HR.out, spG_on _ _ HF.out (by show ¬ h + (0) < 0; omega)]; show spG (wl 2) (h + 0) _ = _; rw [Int.add_zero], by rw [HW.out, HR.out, wdG_on _ HF.out]; show _ + (2 + _) = _; omega⟩, by simp [intOf]; omega⟩
          · have b108 : (bt s i == 108) = false := by simp [e108]
            have HF := Lib.hid (show fnd (wl 2) (s[i].toNat : Int) = none by have := HBB.out; rw [fnd_wl, if_neg (by omega), if_neg (by omega), if_neg (by omega)])
            clear e117 e100 e108
            go_wp2
            go_ret
            refine ⟨ret_bool ?_, rfl⟩
            unfold alB
            rw [HU.out, HR.out, spG_no _ _ HF.out]; rfl
    · have HE := Lib.hid (rest_end s i (by omega))
      have HF := Lib.hid (show alB (wl 2) 16 s = ((h == 0) && decide (v ≤ 16)) by unfold alB; rw [HU.out, HW.out, HE.out, spG_nil, wdG, Int.add_zero])
      by_cases h0 : h = 0
      · have b0 : (h == 0) = true := by simp [h0]
        subst h0
        by_cases hm : v ≤ 16
        · have d1 : decide (v ≤ 16) = true := decide_eq_true hm
          go_wp2
          go_ret
          exact ⟨ret_bool (by rw [HF.out, d1]; rfl), rfl⟩
        · have d1 : decide (v ≤ 16) = false := decide_eq_false hm
          go_wp2
          go_ret
          exact ⟨ret_bool (by rw [HF.out, d1]; rfl), rfl⟩
      · have b0 : (h == 0) = false := beq_eq_false_iff_ne.2 h0
        go_wp2
        go_ret
        exact ⟨ret_bool (by rw [HF.out, b0]; rfl), rfl⟩

end Go.Proofs.Ytedniiomkejmoaa
