/- The contracts of the model's functions on words of chapter 29. -/
import Derived.Test.YtpggglcjocnjlaaGreatFact29
import Derived.Test.YtpggglcjocnjlaaGreatBin29
namespace Go.Proofs.YtpggglcjocnjlaaGreat
open Go.ChangeShapes Go.WideShapes Go.ChangeAt Go.RowKit
open Go.PlainAid (bt bt_nonneg bt_le get_bt bt_end)
set_option linter.unusedVariables false

theorem ret29 {a a' : ByteArray} {x y : Bool} (h : a = a') (h' : x = y) : Ending.returned (.tuple #[.string a, .bool x]) = .returned (.tuple #[.string a', .bool y]) := by rw [h, h']
theorem ret_nnb {a b a' b' : Int} {x y : Bool} (h : a = a') (h2 : b = b') (h' : x = y) : Ending.returned (.tuple #[.int .i64 a, .int .i64 b, .bool x]) = .returned (.tuple #[.int .i64 a', .int .i64 b', .bool y]) := by rw [h, h2, h']

set_option maxRecDepth 100000 in
set_option maxHeartbeats 800000 in
theorem l29Word (s : ByteArray) (w : World) (hs : s.size ≤ 1048577) : Calls Tryz.prog 33 #[.string s] w fun e w' => (∃ U D : Int, (udS s = true → U - D = smA s.data.toList) ∧ 0 ≤ U ∧ U ≤ s.size ∧ 0 ≤ D ∧ D ≤ s.size ∧ e = .returned (.tuple #[.int .i64 U, .int .i64 D, .bool (udS s)])) ∧ w = w' := by
  go_enter Tryz.func33, Tryz.ntmps33
  go_wp2
  go_loop [5, 6, 7] (fun x z y => ∃ (i : Nat) (U D : Int), i ≤ s.size ∧ 0 ≤ U ∧ 0 ≤ D ∧ U + D ≤ i ∧ y = .int .i64 i ∧ x = .int .i64 U ∧ z = .int .i64 D ∧ udA s.data.toList = udA (rest s i) ∧ smA s.data.toList = U - D + smA (rest s i)) (fun _ _ y => s.size - (intOf y).toNat)
  case atStart => exact ⟨0, 0, 0, Nat.zero_le _, by omega, by omega, by omega, rfl, rfl, rfl, rfl, by rw [rest_zero]; omega⟩
  case round =>
    obtain ⟨i, U, D, hi, h1, h2, h3, rfl, rfl, rfl, hu, hm⟩ := hrel
    have HU := Lib.hid hu
    have HM := Lib.hid hm
    clear hu hm
    by_cases hlt : i < s.size
    · have hbt := get_bt s
      have HR := Lib.hid (rest_cons s i hlt)
      have HBB := Lib.hid (bt_at s i hlt)
      by_cases e1 : bt s i = 117
      · have b1 : (bt s i == 117) = true := by simp [e1]
        have HE := Lib.hid (show s[i].toNat = 117 by have := HBB.out; omega)
        clear e1
        go_wp2
        exact ⟨⟨i + 1, U + 1, D, by omega, by omega, by omega, by omega, by simp, rfl, rfl, by rw [HU.out, HR.out, udA_up _ (.inl HE.out)], by rw [HM.out, HR.out, smA_up _ HE.out]; omega⟩, by simp [intOf]; omega⟩
      · have b1 : (bt s i == 117) = false := by simp [e1]
        by_cases e2 : bt s i = 100
        · have b2 : (bt s i == 100) = true := by simp [e2]
          have HE := Lib.hid (show s[i].toNat = 100 by have := HBB.out; omega)
          clear e1 e2
          go_wp2
          exact ⟨⟨i + 1, U, D + 1, by omega, by omega, by omega, by omega, by simp, rfl, rfl, by rw [HU.out, HR.out, udA_up _ (.inr HE.out)], by rw [HM.out, HR.out, smA_down _ (by have := HE.out; omega)]; omega⟩, by simp [intOf]; omega⟩
        · have b2 : (bt s i == 100) = false := by simp [e2]
          have HE := Lib.hid (show ¬ (s[i].toNat = 117 ∨ s[i].toNat = 100) by have := HBB.out; omega)
          clear e1 e2
          have HF := Lib.hid (show udS s = false by unfold udS; rw [HU.out, HR.out, udA_no _ HE.out]; rfl)
          go_wp2
          go_ret3
          exact ⟨⟨0, 0, fun h => (by rw [HF.out] at h; cases h), by omega, by omega, by omega, by omega, ret_nnb rfl rfl HF.out.symm⟩, rfl⟩
    · have HE := Lib.hid (rest_end s i (by omega))
      have HU2 := Lib.hid (show udS s = decide (s.size ≤ 16) by unfold udS; rw [HU.out, HE.out]; rfl)
      have HM2 := Lib.hid (show U - D = smA s.data.toList by rw [HM.out, HE.out]; simp [smA])
      by_cases h16 : s.size ≤ 16
      · have HF := Lib.hid (HU2.out.trans (decide_eq_true h16))
        have hd : decide ((s.size : Int) ≤ 16) = true := decide_eq_true (by omega)
        have hd2 : (s.size : Int) ≤ 16 := by omega
        go_wp2
        go_ret3
        exact ⟨⟨U, D, fun _ => HM2.out, by omega, by omega, by omega, by omega, ret_nnb rfl rfl HF.out.symm⟩, rfl⟩
      · have HF := Lib.hid (HU2.out.trans (decide_eq_false h16))
        have hd : decide ((s.size : Int) ≤ 16) = false := decide_eq_false (by omega)
        have hd2 : ¬ (s.size : Int) ≤ 16 := by omega
        go_wp2
        go_ret3
        exact ⟨⟨U, D, fun _ => HM2.out, by omega, by omega, by omega, by omega, ret_nnb rfl rfl HF.out.symm⟩, rfl⟩

theorem app_list (x : ByteArray) (c : UInt8) : (x ++ ⟨#[c]⟩).data.toList = x.data.toList ++ [c] := by rw [ByteArray.data_append, Array.toList_append]
theorem ext_one (s : ByteArray) (i : Nat) (h : i < s.size) : s.extract i (i + 1) = ⟨#[s[i]]⟩ := by
  apply ByteArray.ext
  apply Array.toList_inj.1
  rw [ByteArray.data_extract, Array.toList_extract, List.extract_eq_take_drop]
  have : s.data.toList.drop i = s[i] :: s.data.toList.drop (i + 1) := rest_cons s i h
  rw [this, show i + 1 - i = 1 by omega]; rfl
theorem sl_one (s : ByteArray) (i : Nat) (h : i < s.size) (W : World) : (Instr.slice 9 (.string s) (some (.int .i64 (i : Int))) (some (.int .i64 ((i : Int) + 1))) none).run Tryz.prog W = .ok (.string ⟨#[s[i]]⟩) W := by
  rw [run_slice_string W 9 s .i64 .i64 (i : Int) ((i : Int) + 1) Tryz.underlying9 (by omega) (by omega) (by omega), ← ext_one s i h]
  congr 2

set_option maxRecDepth 100000 in
set_option maxHeartbeats 1600000 in
theorem l29Flip (s : ByteArray) (w : World) (hu : udA s.data.toList = true) (hs : s.size ≤ 16) : Calls Tryz.prog 32 #[.string s, .int .i64 (-1)] w fun e w' => e = .returned (.string (flS s)) ∧ w = w' := by
  have HUD := Lib.hid (fun i (h : i < s.size) => show s[i].toNat = 117 ∨ s[i].toNat = 100 from by
    have h2 := udA_drop hu i
    have h3 : s.data.toList.drop i = s[i] :: rest s (i + 1) := rest_cons s i h
    rw [h3] at h2
    by_cases hc : s[i].toNat = 117 ∨ s[i].toNat = 100
    · exact hc
    · rw [udA_no _ hc] at h2; cases h2)
  clear hu
  go_enter Tryz.func32, Tryz.ntmps32
  go_wp2
  go_loop [5, 6, 7, 8] (fun x z m y => ∃ (i : Nat) (h : Int) (out : ByteArray) (met : Bool), i ≤ s.size ∧ -(i : Int) ≤ h ∧ h ≤ i ∧ y = .int .i64 i ∧ x = .int .i64 h ∧ z = .string out ∧ m = .bool met ∧ out.size = i ∧ flA 0 s.data.toList = out.data.toList ++ (if met = true then (rest s i).map otA else flA h (rest s i))) (fun _ _ _ y => s.size - (intOf y).toNat)
  case atStart => exact ⟨0, 0, ⟨#[]⟩, false, Nat.zero_le _, by omega, by omega, rfl, rfl, rfl, rfl, rfl, by rw [rest_zero]; simp⟩
  case round =>
    obtain ⟨i, h, out, met, hi, h1, h2, rfl, rfl, rfl, rfl, hz, hf⟩ := hrel
    have HF := Lib.hid hf
    have HZ := Lib.hid hz
    have hzz : out.size ≤ 16 := by omega
    clear hf hz
    by_cases hlt : i < s.size
    · have hbt := get_bt s
      have HR := Lib.hid (rest_cons s i hlt)
      have HBB := Lib.hid (bt_at s i hlt)
      have hl := HUD.out i hlt
      have hsl := fun W => sl_one s i hlt W
      have o1 : ∀ c : UInt8, (⟨#[c]⟩ : ByteArray).size = 1 := fun _ => rfl
      have o2 : ∀ c : UInt8, ¬ 9223372036854775807 < out.size + (⟨#[c]⟩ : ByteArray).size := fun c => by rw [o1 c]; omega
      have HAP := Lib.hid (fun c => app_list out c)
      have HOS := Lib.hid (fun c : UInt8 => show (out ++ ⟨#[c]⟩ : ByteArray).size = i + 1 by rw [ByteArray.size_append, o1, HZ.out])
      rcases met with _ | _
      · rw [if_neg (by simp)] at HF
        rcases hl with e1 | e1
        · have b0 : bt s i = 117 := by have := HBB.out; omega
          have b1 : (bt s i == 117) = true := by simp [b0]
          have hst := stA_up e1
          have HE := Lib.hid e1
          clear b0 e1
          have hne : (h + 1 == -1) = decide (h + 1 = -1) := by
            by_cases e : h + 1 = -1
            · rw [decide_eq_true e, e]; rfl
            · rw [decide_eq_false e]; exact beq_eq_false_iff_ne.2 e
          by_cases em : h + 1 = -1
          · rw [decide_eq_true em] at hne
            have HN := Lib.hid (flA_hit h s[i] (rest s (i + 1)) (by rw [hst]; exact em))
            clear hst em
            go_wp2
            exact ⟨⟨i + 1, h + 1, _, true, by omega, by omega, by omega, by simp, rfl, rfl, rfl, HOS.out _, by rw [HF.out, HR.out, HN.out, HAP.out]; simp⟩, by simp [intOf]; omega⟩
          · rw [decide_eq_false em] at hne
            have HN := Lib.hid (flA_miss h s[i] (rest s (i + 1)) (by rw [hst]; exact em))
            have HST := Lib.hid hst
            clear hst em
            go_wp2
            exact ⟨⟨i + 1, h + 1, _, false, by omega, by omega, by omega, by simp, rfl, rfl, rfl, HOS.out _, by rw [HF.out, HR.out, HN.out, HAP.out, HST.out]; simp⟩, by simp [intOf]; omega⟩
        · have b0 : bt s i = 100 := by have := HBB.out; omega
          have b1 : (bt s i == 117) = false := by simp [b0]
          have hst := stA_down e1
          have HE := Lib.hid e1
          clear b0 e1
          have hne : (h - 1 == -1) = decide (h + -1 = -1) := by
            by_cases e : h + -1 = -1
            · rw [decide_eq_true e, show h = 0 by omega]; rfl
            · rw [decide_eq_false e]; exact beq_eq_false_iff_ne.2 (by omega)
          by_cases em : h + -1 = -1
          · rw [decide_eq_true em] at hne
            have HN := Lib.hid (flA_hit h s[i] (rest s (i + 1)) (by rw [hst]; exact em))
            clear hst em
            go_wp2
            exact ⟨⟨i + 1, h - 1, _, true, by omega, by omega, by omega, by simp, rfl, rfl, rfl, HOS.out _, by rw [HF.out, HR.out, HN.out, HAP.out]; simp⟩, by simp [intOf]; omega⟩
          · rw [decide_eq_false em] at hne
            have HN := Lib.hid (flA_miss h s[i] (rest s (i + 1)) (by rw [hst]; exact em))
            have HST := Lib.hid hst
            clear hst em
            go_wp2
            exact ⟨⟨i + 1, h - 1, _, false, by omega, by omega, by omega, by simp, rfl, rfl, rfl, HOS.out _, by rw [HF.out, HR.out, HN.out, HAP.out, HST.out, show h + -1 = h - 1 by omega]; simp⟩, by simp [intOf]; omega⟩
      · rw [if_pos rfl] at HF
        rcases hl with e1 | e1
        · have b0 : bt s i = 117 := by have := HBB.out; omega
          have b1 : (bt s i == 117) = true := by simp [b0]
          have HO := Lib.hid (show otA s[i] = 100 from if_pos e1)
          clear b0 e1
          go_wp2
          exact ⟨⟨i + 1, h, _, true, by omega, by omega, by omega, by simp, rfl, rfl, rfl, HOS.out _, by rw [HF.out, HR.out, HAP.out, List.map_cons, HO.out]; simp⟩, by simp [intOf]; omega⟩
        · have b0 : bt s i = 100 := by have := HBB.out; omega
          have b1 : (bt s i == 117) = false := by simp [b0]
          have HO := Lib.hid (show otA s[i] = 117 from if_neg (by omega))
          clear b0 e1
          go_wp2
          exact ⟨⟨i + 1, h, _, true, by omega, by omega, by omega, by simp, rfl, rfl, rfl, HOS.out _, by rw [HF.out, HR.out, HAP.out, List.map_cons, HO.out]; simp⟩, by simp [intOf]; omega⟩
    · have HE := Lib.hid (rest_end s i (by omega))
      have HFN := Lib.hid (show flS s = out by
        apply ByteArray.ext
        show (flA 0 s.data.toList).toArray = out.data
        rw [HF.out, HE.out]
        cases met <;> simp [flA])
      rcases met with _ | _
      · go_wp2
        go_ret
        exact ⟨ret_str HFN.out.symm, rfl⟩
      · go_wp2
        go_ret
        exact ⟨ret_str HFN.out.symm, rfl⟩

set_option maxRecDepth 100000 in
set_option maxHeartbeats 800000 in
theorem isBad (s : ByteArray) (w : World) (hs : s.size ≤ 1048577) : Calls Tryz.prog 9 #[.string s] w fun e w' => e = .returned (.bool (badB s)) ∧ w = w' := by
  have HW := Lib.hid (l29Word s w hs)
  have HD := Lib.hid (fun W => isDyck s W (by omega))
  rcases hu : udS s with _ | _
  · have HP := Lib.hid (show badB s = false by unfold badB; rw [hu]; rfl)
    rw [hu] at HW
    clear hu
    go_enter Tryz.func9, Tryz.ntmps9
    go_wp2_with fail
    (with_reducible refine HW.out.mono ?_)
    rintro e w' ⟨⟨U, D, hUD, u0, u1, d0, d1, rfl⟩, rfl⟩
    go_wp2
    go_ret
    exact ⟨ret_bool HP.out.symm, rfl⟩
  · have HPP := Lib.hid (show badB s = (decide (smA s.data.toList = 0) && !dyck s) by unfold badB; rw [hu]; rfl)
    rw [hu] at HW
    clear hu
    go_enter Tryz.func9, Tryz.ntmps9
    go_wp2_with fail
    (with_reducible refine HW.out.mono ?_)
    rintro e w' ⟨⟨U, D, hUD, u0, u1, d0, d1, rfl⟩, rfl⟩
    have hsum := hUD trivial
    by_cases e : U = D
    · subst e
      have HPP2 := Lib.hid (show badB s = !dyck s by rw [HPP.out, decide_eq_true (by omega)]; rfl)
      clear hUD hsum HPP
      go_wp2_with fail
      (with_reducible refine (HD.out _).mono ?_)
      rintro e w' ⟨rfl, rfl⟩
      go_wp2
      go_ret
      exact ⟨ret_bool HPP2.out.symm, rfl⟩
    · have hb : (U == D) = false := beq_eq_false_iff_ne.2 e
      have HPP2 := Lib.hid (show badB s = false by rw [HPP.out, decide_eq_false (by omega)]; rfl)
      clear hUD hsum HPP
      go_wp2
      go_ret
      exact ⟨ret_bool HPP2.out.symm, rfl⟩

set_option maxRecDepth 100000 in
set_option maxHeartbeats 800000 in
theorem reflectBad (s : ByteArray) (w : World) (hs : s.size ≤ 1048577) : Calls Tryz.prog 7 #[.string s] w fun e w' => e = .returned (.tuple #[.string (rbP s), .bool (badB s)]) ∧ w = w' := by
  have HB := Lib.hid (isBad s w hs)
  rcases hb : badB s with _ | _
  · have HP := Lib.hid (show rbP s = ⟨#[]⟩ from if_neg (by rw [hb]; simp))
    rw [hb] at HB
    clear hb
    go_enter Tryz.func7, Tryz.ntmps7
    go_wp2_with fail
    (with_reducible refine HB.out.mono ?_)
    rintro e w' ⟨rfl, rfl⟩
    go_wp2
    go_ret2
    exact ⟨ret29 HP.out.symm rfl, rfl⟩
  · have HP := Lib.hid (show rbP s = flS s from if_pos hb)
    have hu : udS s = true := by
      rcases hu : udS s with _ | _
      · unfold badB at hb; rw [hu] at hb; cases hb
      · rfl
    have HF := Lib.hid (fun W => l29Flip s W (ud_parts hu).1 (ud_parts hu).2)
    rw [hb] at HB
    clear hb hu
    go_enter Tryz.func7, Tryz.ntmps7
    go_wp2_with fail
    (with_reducible refine HB.out.mono ?_)
    rintro e w' ⟨rfl, rfl⟩
    go_wp2_with fail
    (with_reducible refine (HF.out _).mono ?_)
    rintro e w' ⟨rfl, rfl⟩
    go_wp2
    go_ret2
    exact ⟨ret29 HP.out.symm rfl, rfl⟩

set_option maxRecDepth 100000 in
set_option maxHeartbeats 800000 in
theorem unreflectWord (s : ByteArray) (w : World) (hs : s.size ≤ 1048577) : Calls Tryz.prog 12 #[.string s] w fun e w' => e = .returned (.tuple #[.string (ruP s), .bool (lowB s)]) ∧ w = w' := by
  have HW := Lib.hid (l29Word s w hs)
  rcases hu : udS s with _ | _
  · have HL := Lib.hid (show lowB s = false by unfold lowB; rw [hu]; rfl)
    have HP := Lib.hid (show ruP s = ⟨#[]⟩ from if_neg (by rw [HL.out]; simp))
    rw [hu] at HW
    clear hu
    go_enter Tryz.func12, Tryz.ntmps12
    go_wp2_with fail
    (with_reducible refine HW.out.mono ?_)
    rintro e w' ⟨⟨U, D, hUD, u0, u1, d0, d1, rfl⟩, rfl⟩
    go_wp2
    go_ret2
    exact ⟨ret29 HP.out.symm HL.out.symm, rfl⟩
  · have HLL := Lib.hid (show lowB s = decide (smA s.data.toList = -2) by unfold lowB; rw [hu]; rfl)
    have HF := Lib.hid (fun W => l29Flip s W (ud_parts hu).1 (ud_parts hu).2)
    rw [hu] at HW
    clear hu
    go_enter Tryz.func12, Tryz.ntmps12
    go_wp2_with fail
    (with_reducible refine HW.out.mono ?_)
    rintro e w' ⟨⟨U, D, hUD, u0, u1, d0, d1, rfl⟩, rfl⟩
    have hsum := hUD trivial
    have hw1 : IntKind.i64.wrap (U + 2) = U + 2 := IntWalk.i64_in _ (by omega)
    by_cases e : D = U + 2
    · subst e
      have HL := Lib.hid (show lowB s = true by rw [HLL.out, decide_eq_true (by omega)])
      have HP := Lib.hid (show ruP s = flS s from if_pos HL.out)
      clear hUD hsum HLL
      go_wp2_with fail
      (with_reducible refine (HF.out _).mono ?_)
      rintro e w' ⟨rfl, rfl⟩
      go_wp2
      go_ret2
      exact ⟨ret29 HP.out.symm HL.out.symm, rfl⟩
    · have hb : (D != U + 2) = true := by simpa using e
      have hb2 : (D == U + 2) = false := beq_eq_false_iff_ne.2 e
      have HL := Lib.hid (show lowB s = false by rw [HLL.out, decide_eq_false (by omega)])
      have HP := Lib.hid (show ruP s = ⟨#[]⟩ from if_neg (by rw [HL.out]; simp))
      clear hUD hsum HLL
      go_wp2
      go_ret2
      exact ⟨ret29 HP.out.symm HL.out.symm, rfl⟩

end Go.Proofs.YtpggglcjocnjlaaGreat
