/- The contracts of the model's functions of chapter 28. -/
import Derived.Test.YtfkkjdggmlggbaaFact28
import Derived.Lib.MinMax
import Derived.BigQuiet
import Derived.WalkSmall
namespace Go.Proofs.Ytfkkjdggmlggbaa
open Go.ChangeShapes Go.WideShapes Go.ChangeAt Go.RowKit
open Go.PlainAid (bt bt_nonneg bt_le get_bt bt_end)
set_option linter.unusedVariables false

set_option maxRecDepth 100000 in
set_option maxHeartbeats 800000 in
theorem isBalanced (s : ByteArray) (w : World) (hs : s.size ≤ 1099511627776) : Calls Try.prog 11 #[.string s] w fun e w' => e = .returned (.bool (balB s)) ∧ w = w' := by
  go_enter Try.func11, Try.ntmps11
  go_wp2
  go_loop [3, 4] (fun x y => ∃ (i : Nat) (h : Int), i ≤ s.size ∧ -(i : Int) ≤ h ∧ h ≤ i ∧ y = .int .i64 i ∧ x = .int .i64 h ∧ udA s.data.toList = udA (rest s i) ∧ smA s.data.toList = h + smA (rest s i)) (fun _ y => s.size - (intOf y).toNat)
  case atStart => exact ⟨0, 0, Nat.zero_le _, by omega, by omega, rfl, rfl, rfl, by rw [rest_zero]; omega⟩
  case round =>
    obtain ⟨i, h, hi, h1, h2, rfl, rfl, hu, hm⟩ := hrel
    have HU := Lib.hid hu
    have HM := Lib.hid hm
    clear hu hm
    by_cases hlt : i < s.size
    · have hbt := get_bt s
      have HR := Lib.hid (rest_cons s i hlt)
      have HBB := Lib.hid (bt_at s i hlt)
      by_cases e1 : bt s i = 117
      · have b1 : (bt s i == 117) = true := by simp [e1]
        have HE := Lib.hid (show s[i].toNat = 117 by have := HBB.out; omega)
        clear e1
        go_wp2
        exact ⟨⟨i + 1, h + 1, by omega, by omega, by omega, by simp, rfl, by rw [HU.out, HR.out, udA_up _ (.inl HE.out)], by rw [HM.out, HR.out, smA_up _ HE.out]; omega⟩, by simp [intOf]; omega⟩
      · have b1 : (bt s i == 117) = false := by simp [e1]
        by_cases e2 : bt s i = 100
        · have b2 : (bt s i == 100) = true := by simp [e2]
          have HE := Lib.hid (show s[i].toNat = 100 by have := HBB.out; omega)
          clear e1 e2
          go_wp2
          exact ⟨⟨i + 1, h - 1, by omega, by omega, by omega, by simp, rfl, by rw [HU.out, HR.out, udA_up _ (.inr HE.out)], by rw [HM.out, HR.out, smA_down _ (by have := HE.out; omega)]; omega⟩, by simp [intOf]; omega⟩
        · have b2 : (bt s i == 100) = false := by simp [e2]
          have HE := Lib.hid (show ¬ (s[i].toNat = 117 ∨ s[i].toNat = 100) by have := HBB.out; omega)
          clear e1 e2
          go_wp2
          go_ret
          refine ⟨ret_bool ?_, rfl⟩
          unfold balB
          rw [HU.out, HR.out, udA_no _ HE.out]; rfl
    · have HE := Lib.hid (rest_end s i (by omega))
      have HU2 := Lib.hid (show udA s.data.toList = true by rw [HU.out, HE.out]; rfl)
      have HM2 := Lib.hid (show smA s.data.toList = h by rw [HM.out, HE.out]; simp [smA])
      by_cases h0 : h = -1
      · have b0 : (h == -1) = true := by simp [h0]
        have HZ := Lib.hid h0
        clear h0
        go_wp2
        go_ret
        refine ⟨ret_bool ?_, rfl⟩
        unfold balB
        rw [HU2.out, HM2.out, HZ.out]
        first | rfl | (simp; done) | (simp; omega)
      · have b0 : (h == -1) = false := by simp [h0]
        have HZ := Lib.hid h0
        clear h0
        go_wp2
        go_ret
        refine ⟨ret_bool ?_, rfl⟩
        unfold balB
        rw [HU2.out, HM2.out, decide_eq_false HZ.out]; rfl

set_option maxRecDepth 100000 in
set_option maxHeartbeats 800000 in
theorem l28Good (x : ByteArray) (w : World) (hs : x.size ≤ 1048577) : Calls Try.prog 24 #[.string x] w fun e w' => e = .returned (.bool (gdW x)) ∧ w = w' := by
  by_cases h0 : 0 < x.size
  · obtain ⟨m, hm⟩ : ∃ m, x.size = m + 1 := ⟨x.size - 1, by omega⟩
    have HG := Lib.hid (show gdW x = (dyck (x.extract 0 m) && decide (bt x m = 100)) by unfold gdW; rw [decide_eq_true h0, hm]; rfl)
    have hz : (x.extract 0 m).size = m := by rw [ByteArray.size_extract]; omega
    have hsl : ∀ W : World, (Instr.slice 9 (.string x) none (some (.int .i64 (m : Int))) none).run Try.prog W = .ok (.string (x.extract 0 m)) W := fun W => by
      rw [run_slice_string_h W 9 x Try.underlying9 .i64 (m : Int) (by omega) (by omega)]; simp
    have hg0 : (0 : Int) < (x.size : Int) := by omega
    have hmi : (x.size : Int) - 1 = (m : Int) := by omega
    have hmw : IntKind.i64.wrap (m : Int) = (m : Int) := IntWalk.i64_in _ (by omega)
    have hm1 : (m : Int) < (x.size : Int) := by omega
    have hm2 : m < x.size := by omega
    have hbt := get_bt x
    have HY := Lib.hid (fun W => isDyck (x.extract 0 m) W (by omega))
    have hb0 := bt_nonneg x m
    clear h0 hz
    generalize x.extract 0 m = y at *
    rcases hd : dyck y with _ | _
    · rw [hd] at HY HG
      clear hd hm
      go_enter Try.func24, Try.ntmps24
      go_wp2_with fail
      (with_reducible refine (HY.out _).mono ?_)
      rintro e w' ⟨rfl, rfl⟩
      go_wp2
      go_ret
      exact ⟨ret_bool (by rw [HG.out]; rfl), rfl⟩
    · rw [hd] at HY HG
      clear hd hm
      by_cases e1 : bt x m = 100
      · have b1 : (bt x m == 100) = true := by simp [e1]
        have HG2 := Lib.hid (HG.out.trans (show (true && decide (bt x m = 100)) = true by rw [decide_eq_true e1]; rfl))
        clear e1 HG
        go_enter Try.func24, Try.ntmps24
        go_wp2_with fail
        (with_reducible refine (HY.out _).mono ?_)
        rintro e w' ⟨rfl, rfl⟩
        go_wp2
        go_ret
        exact ⟨ret_bool HG2.out.symm, rfl⟩
      · have b1 : (bt x m == 100) = false := by simp [e1]
        have HG2 := Lib.hid (HG.out.trans (show (true && decide (bt x m = 100)) = false by rw [decide_eq_false e1]; rfl))
        clear e1 HG
        go_enter Try.func24, Try.ntmps24
        go_wp2_with fail
        (with_reducible refine (HY.out _).mono ?_)
        rintro e w' ⟨rfl, rfl⟩
        go_wp2
        go_ret
        exact ⟨ret_bool HG2.out.symm, rfl⟩
  · have hg0 : ¬ (0 : Int) < (x.size : Int) := by omega
    have HG := Lib.hid (show gdW x = false by unfold gdW; rw [decide_eq_false h0]; rfl)
    go_enter Try.func24, Try.ntmps24
    go_wp2
    go_ret
    exact ⟨ret_bool HG.out.symm, rfl⟩

theorem ret28i {a a' : Int} {x y : Bool} (h : a = a') (h' : x = y) : Ending.returned (.tuple #[.int .i64 a, .bool x]) = .returned (.tuple #[.int .i64 a', .bool y]) := by rw [h, h']
theorem ret28s {a a' : ByteArray} {x y : Bool} (h : a = a') (h' : x = y) : Ending.returned (.tuple #[.string a, .bool x]) = .returned (.tuple #[.string a', .bool y]) := by rw [h, h']
theorem l1In_out (x lo hi : Int) (w : World) (h : ¬ (lo ≤ x ∧ x ≤ hi)) :
    Calls Try.prog 29 #[.int .i64 x, .int .i64 lo, .int .i64 hi] w fun e w' => e = .returned (.bool false) ∧ w = w' := by
  by_cases h1 : lo ≤ x
  · exact l1In_no2 x lo hi w h1 (by omega)
  · exact l1In_no1 x lo hi w (by omega)
/-- A call that leaves the world as it is, within a region that only draws. -/
theorem still_on {P : Program} {f : Nat} {args : Array Value} {w : World} {n : Nat} {v : Value} (h : Calls P f args (w.drewN n) fun e w' => e = .returned v ∧ w.drewN n = w') : Calls P f args (w.drewN n) fun e w' => e = .returned v ∧ ∃ m, w' = w.drewN m :=
  h.mono fun e w' h => ⟨h.1, n, h.2.symm⟩
/-- The two parts of a turned word, as the walk takes them. -/
theorem sl_low (s : ByteArray) (k : Nat) (h : k ≤ s.size) (W : World) : (Instr.slice 9 (.string s) (some (.int .i64 (k : Int))) none none).run Try.prog W = .ok (.string (s.extract k s.size)) W := by
  rw [run_slice_string_l W 9 s Try.underlying9 .i64 (k : Int) (by omega) (by omega)]; simp
theorem sl_high (s : ByteArray) (k : Nat) (h : k ≤ s.size) (W : World) : (Instr.slice 9 (.string s) none (some (.int .i64 (k : Int))) none).run Try.prog W = .ok (.string (s.extract 0 k)) W := by
  rw [run_slice_string_h W 9 s Try.underlying9 .i64 (k : Int) (by omega) (by omega)]; simp
theorem rt_parts (s : ByteArray) (k : Nat) (h : k ≤ s.size) : ∃ a b, Hid (rtS s k = a ++ b) ∧ a.size + b.size = s.size ∧ (∀ W, (Instr.slice 9 (.string s) (some (.int .i64 (k : Int))) none none).run Try.prog W = .ok (.string a) W) ∧ ∀ W, (Instr.slice 9 (.string s) none (some (.int .i64 (k : Int))) none).run Try.prog W = .ok (.string b) W :=
  ⟨_, _, Lib.hid rfl, by rw [ByteArray.size_extract, ByteArray.size_extract]; omega, sl_low s k h, sl_high s k h⟩

set_option maxRecDepth 100000 in
set_option maxHeartbeats 1600000 in
theorem goodShift (s : ByteArray) (w : World) (hs : s.size ≤ 1048577) : Calls Try.prog 7 #[.string s] w fun e w' => e = .returned (.tuple #[.int .i64 (gsP s), .bool (balB s)]) ∧ Below w.heap.size w w' := by
  have HI := Lib.hid (fun W => isBalanced s W (by omega))
  rcases hb : balB s with _ | _
  · have HP := Lib.hid (show gsP s = 0 from if_neg (by rw [hb]; simp))
    rw [hb] at HI
    clear hb
    by_cases h0 : 0 < s.size
    · have h0i : (0 : Int) < (s.size : Int) := by omega
      go_enter Try.func7, Try.ntmps7
      go_wp2
      go_loop [4] (fun y => y = .int .i64 0) (fun y => 0)
      case atStart => rfl
      case round =>
        obtain rfl := hrel
        go_wp2_with fail
        (with_reducible refine (HI.out _).mono ?_)
        rintro e w' ⟨rfl, rfl⟩
        go_wp2
        go_ret2
        exact ⟨ret28i HP.out.symm rfl, Below.refl _ _⟩
    · have h0i : ¬ (0 : Int) < (s.size : Int) := by omega
      go_enter Try.func7, Try.ntmps7
      go_wp2
      go_loop [4] (fun y => y = .int .i64 0) (fun y => 0)
      case atStart => rfl
      case round =>
        obtain rfl := hrel
        go_wp2
        go_ret2
        exact ⟨ret28i HP.out.symm rfl, Below.refl _ _⟩
  · obtain ⟨k, hk, hg, hno⟩ := first_good hb
    have HP := Lib.hid (show gsP s = (k : Int) by unfold gsP; rw [if_pos hb]; exact (gsL_head hg hno s.size hk).1)
    have HG := Lib.hid hg
    have HN := Lib.hid hno
    rw [hb] at HI
    clear hb hg hno
    go_enter Try.func7, Try.ntmps7
    go_wp2
    go_loopw [4] (fun y wr => ∃ i : Nat, i ≤ k ∧ y = .int .i64 i ∧ Below w.heap.size w wr) (fun y _ => k - (intOf y).toNat)
    case atStart => exact ⟨0, Nat.zero_le _, rfl, Below.refl _ _⟩
    case round =>
      obtain ⟨i, hi, rfl, hb⟩ := hrel
      have HB := Lib.hid hb
      clear hb
      have hii : (i : Int) < (s.size : Int) := by omega
      obtain ⟨a, b, HAB, hab, sl1, sl2⟩ := rt_parts s i (by omega)
      have hab2 : ¬ 9223372036854775807 < a.size + b.size := by omega
      have HL := Lib.hid (fun W => l28Good (a ++ b) W (by rw [ByteArray.size_append]; omega))
      by_cases e : i = k
      · subst e
        have e2 : gdW (a ++ b) = true := by rw [← HAB.out]; exact HG.out
        rw [e2] at HL
        clear e2 hab
        go_wp2_with fail
        (with_reducible refine (HI.out _).mono ?_)
        rintro e w' ⟨rfl, rfl⟩
        go_wp2_with fail
        go_quiet ((with_reducible exact still_on (HL.out _)))
        go_wp2
        go_ret2
        exact ⟨ret28i HP.out.symm rfl, (below_drewN HB.out _)⟩
      · have e2 : gdW (a ++ b) = false := by rw [← HAB.out]; exact HN.out i (by omega)
        rw [e2] at HL
        have hik : i < k := by omega
        clear e2 hab e
        go_wp2_with fail
        (with_reducible refine (HI.out _).mono ?_)
        rintro e w' ⟨rfl, rfl⟩
        go_wp2_with fail
        go_quiet ((with_reducible exact still_on (HL.out _)))
        go_wp2
        go_roundw
        case rel => exact ⟨i + 1, by omega, by simp, below_drewN HB.out _⟩
        case measure => simp [intOf]; omega

set_option maxRecDepth 100000 in
set_option maxHeartbeats 1600000 in
theorem countGoodShifts (s : ByteArray) (w : World) (hs : s.size ≤ 1048577) : Calls Try.prog 13 #[.string s] w fun e w' => e = .returned (.int .i64 (cgP s)) ∧ Below w.heap.size w w' := by
  have HI := Lib.hid (fun W => isBalanced s W (by omega))
  rcases hb : balB s with _ | _
  · have HP := Lib.hid (show cgP s = -1 from if_neg (by rw [hb]; simp))
    rw [hb] at HI
    clear hb
    go_enter Try.func13, Try.ntmps13
    go_wp2_with fail
    (with_reducible refine (HI.out _).mono ?_)
    rintro e w' ⟨rfl, rfl⟩
    go_wp2
    go_ret
    exact ⟨ret_int HP.out.symm, Below.refl _ _⟩
  · have HP := Lib.hid (show cgP s = ((gsL s s.size).length : Int) from if_pos hb)
    rw [hb] at HI
    have HZL := Lib.hid (show (gsL s 0).length = 0 from rfl)
    clear hb
    go_enter Try.func13, Try.ntmps13
    go_wp2_with fail
    (with_reducible refine (HI.out _).mono ?_)
    rintro e w' ⟨rfl, rfl⟩
    go_wp2
    go_loopw [3, 4] (fun x y wr => ∃ i : Nat, i ≤ s.size ∧ x = .int .i64 ((gsL s i).length : Int) ∧ y = .int .i64 i ∧ Below w.heap.size w wr) (fun _ y _ => s.size - (intOf y).toNat)
    case atStart => exact ⟨0, Nat.zero_le _, by rw [HZL.out]; rfl, rfl, Below.refl _ _⟩
    case round =>
      obtain ⟨i, hi, rfl, rfl, hb⟩ := hrel
      have HB := Lib.hid hb
      clear hb
      have hgl := gsL_len s i
      by_cases hlt : i < s.size
      · have hii : (i : Int) < (s.size : Int) := by omega
        obtain ⟨a, b, HAB, hab, sl1, sl2⟩ := rt_parts s i (by omega)
        have hab2 : ¬ 9223372036854775807 < a.size + b.size := by omega
        have HL := Lib.hid (fun W => l28Good (a ++ b) W (by rw [ByteArray.size_append]; omega))
        rcases e2 : gdW (a ++ b) with _ | _
        · rw [e2] at HL
          have hgi : gdW (rtS s i) = false := HAB.out ▸ e2
          have HN := Lib.hid (show (gsL s (i + 1)).length = (gsL s i).length by rw [gsL_no s i hgi])
          generalize (gsL s i).length = q at *
          clear e2 hab hgi
          go_wp2_with fail
          go_quiet ((with_reducible exact still_on (HL.out _)))
          go_wp2
          go_roundw
          case rel => exact ⟨i + 1, by omega, by rw [HN.out], by simp, below_drewN HB.out _⟩
          case measure => simp [intOf]; omega
        · rw [e2] at HL
          have hgi : gdW (rtS s i) = true := HAB.out ▸ e2
          have HN := Lib.hid (show (gsL s (i + 1)).length = (gsL s i).length + 1 by rw [gsL_yes s i hgi]; simp)
          generalize (gsL s i).length = q at *
          clear e2 hab hgi
          go_wp2_with fail
          go_quiet ((with_reducible exact still_on (HL.out _)))
          go_wp2
          go_roundw
          case rel => exact ⟨i + 1, by omega, by rw [HN.out]; simp, by simp, below_drewN HB.out _⟩
          case measure => simp [intOf]; omega
      · obtain rfl : i = s.size := by omega
        go_wp2
        go_ret
        exact ⟨ret_int HP.out.symm, HB.out⟩

set_option maxRecDepth 100000 in
set_option maxHeartbeats 1600000 in
theorem dyckOfCircle (s : ByteArray) (w : World) (hs : s.size ≤ 1048577) : Calls Try.prog 9 #[.string s] w fun e w' => e = .returned (.tuple #[.string (dcP s), .bool (balB s)]) ∧ Below w.heap.size w w' := by
  have HG := Lib.hid (goodShift s w hs)
  rcases hb : balB s with _ | _
  · have HP := Lib.hid (show dcP s = ⟨#[]⟩ from if_neg (by rw [hb]; simp))
    rw [hb] at HG
    clear hb
    go_enter Try.func9, Try.ntmps9
    go_wp2_with fail
    (with_reducible refine HG.out.mono ?_)
    rintro e w' ⟨rfl, hb⟩
    go_wp2
    go_ret2
    exact ⟨ret28s HP.out.symm rfl, hb⟩
  · obtain ⟨k, hk, hg, hno⟩ := first_good hb
    have hz1 := bal_size hb
    have HK : gsP s = (k : Int) := by unfold gsP; rw [if_pos hb]; exact (gsL_head hg hno s.size hk).1
    obtain ⟨a, b, HAB, hab, sl1, sl2⟩ := rt_parts s k (by omega)
    obtain ⟨m, hm⟩ : ∃ m, s.size = m + 1 := ⟨s.size - 1, by omega⟩
    have HP := Lib.hid (show dcP s = (a ++ b).extract 0 m by unfold dcP; rw [if_pos hb, HK, Int.toNat_natCast, HAB.out, hm]; rfl)
    rw [hb, HK] at HG
    have hab2 : ¬ 9223372036854775807 < a.size + b.size := by omega
    have hx : (a ++ b).size = m + 1 := by rw [ByteArray.size_append]; omega
    have hsl : ∀ W : World, (Instr.slice 9 (.string (a ++ b)) none (some (.int .i64 (m : Int))) none).run Try.prog W = .ok (.string ((a ++ b).extract 0 m)) W := fun W => by
      rw [run_slice_string_h W 9 (a ++ b) Try.underlying9 .i64 (m : Int) (by omega) (by omega)]; simp
    have hmi : (((a ++ b).size : Nat) : Int) - 1 = (m : Int) := by omega
    have hmj : (a.size : Int) + (b.size : Int) - 1 = (m : Int) := by omega
    have hmk : ((a.size + b.size : Nat) : Int) - 1 = (m : Int) := by omega
    have hmw : IntKind.i64.wrap (m : Int) = (m : Int) := IntWalk.i64_in _ (by omega)
    clear hb hk hg hno HK hm hab
    go_enter Try.func9, Try.ntmps9
    go_wp2_with fail
    (with_reducible refine HG.out.mono ?_)
    rintro e w' ⟨rfl, hb⟩
    go_wp2
    go_quiet (fail)
    go_wp2
    go_ret2
    exact ⟨ret28s HP.out.symm rfl, below_drewN hb _⟩

set_option maxRecDepth 100000 in
set_option maxHeartbeats 1600000 in
theorem shiftWord (s : ByteArray) (k : Int) (w : World) (hs : s.size ≤ 1048577) : Calls Try.prog 18 #[.string s, .int .i64 k] w fun e w' => e = .returned (.tuple #[.string (swP s k), .bool (swOk s k)]) ∧ Below w.heap.size w w' := by
  by_cases h17 : 17 < s.size
  · have h17i : (17 : Int) < (s.size : Int) := by omega
    have HO := Lib.hid (show swOk s k = false from decide_eq_false (by omega))
    have HP := Lib.hid (show swP s k = ⟨#[]⟩ from if_neg (by rw [HO.out]; simp))
    go_enter Try.func18, Try.ntmps18
    go_wp2
    go_ret2
    exact ⟨ret28s HP.out.symm HO.out.symm, Below.refl _ _⟩
  · have h17i : ¬ (17 : Int) < (s.size : Int) := by omega
    by_cases hok : 0 ≤ k ∧ (k < (s.size : Int) ∨ k = 0)
    · obtain ⟨q, rfl⟩ : ∃ q : Nat, k = q := ⟨k.toNat, by omega⟩
      have HO := Lib.hid (show swOk s q = true from decide_eq_true ⟨by omega, hok⟩)
      obtain ⟨a, b, HAB, hab, sl1, sl2⟩ := rt_parts s q (by omega)
      have hab2 : ¬ 9223372036854775807 < a.size + b.size := by omega
      have HP := Lib.hid (show swP s q = a ++ b by unfold swP; rw [if_pos HO.out, Int.toNat_natCast, HAB.out])
      have HL := Lib.hid (fun M W (h : (q : Int) ≤ M) => l1In_yes (q : Int) 0 M W (by omega) h)
      have HQ := Lib.hid hok
      clear hok hab
      go_enter Try.func18, Try.ntmps18
      go_wp2_with fail
      (with_reducible refine (HL.out _ _ ?h).mono ?_)
      case h => have := HQ.out; omega
      rintro e w' ⟨rfl, rfl⟩
      go_wp2
      go_quiet (fail)
      go_wp2
      go_ret2
      exact ⟨ret28s HP.out.symm HO.out.symm, below_drewN (Below.refl _ _) _⟩
    · have HO := Lib.hid (show swOk s k = false from decide_eq_false (by omega))
      have HP := Lib.hid (show swP s k = ⟨#[]⟩ from if_neg (by rw [HO.out]; simp))
      have HL := Lib.hid (fun M W (h : ¬ (0 ≤ k ∧ k ≤ M)) => l1In_out k 0 M W h)
      have HQ := Lib.hid hok
      clear hok
      go_enter Try.func18, Try.ntmps18
      go_wp2_with fail
      (with_reducible refine (HL.out _ _ ?h).mono ?_)
      case h => have := HQ.out; omega
      rintro e w' ⟨rfl, rfl⟩
      go_wp2
      go_ret2
      exact ⟨ret28s HP.out.symm HO.out.symm, Below.refl _ _⟩

set_option maxRecDepth 100000 in
set_option maxHeartbeats 1600000 in
theorem circleOf (s : ByteArray) (k : Int) (w : World) (hs : s.size ≤ 1048576) : Calls Try.prog 20 #[.string s, .int .i64 k] w fun e w' => e = .returned (.tuple #[.string (coP s k), .bool (coOk s k)]) ∧ Below w.heap.size w w' := by
  have HD := Lib.hid (fun W => isDyck s W (by omega))
  rcases hd : dyck s with _ | _
  · have HO := Lib.hid (show coOk s k = false by unfold coOk; rw [hd]; rfl)
    have HP := Lib.hid (show coP s k = ⟨#[]⟩ from if_neg (by rw [hd]; simp))
    rw [hd] at HD
    clear hd
    go_enter Try.func20, Try.ntmps20
    go_wp2_with fail
    (with_reducible refine (HD.out _).mono ?_)
    rintro e w' ⟨rfl, rfl⟩
    go_wp2
    go_ret2
    exact ⟨ret28s HP.out.symm HO.out.symm, Below.refl _ _⟩
  · have HO := Lib.hid (show coOk s k = swOk (s ++ ⟨#[100]⟩) k by unfold coOk; rw [hd]; rfl)
    have HP := Lib.hid (show coP s k = swP (s ++ ⟨#[100]⟩) k from if_pos hd)
    have e1 : (⟨#[100]⟩ : ByteArray).size = 1 := rfl
    have c1 : ¬ 9223372036854775807 < s.size + (⟨#[100]⟩ : ByteArray).size := by omega
    have HS := Lib.hid (shiftWord (s ++ ⟨#[100]⟩) k w (by rw [ByteArray.size_append]; omega))
    rw [hd] at HD
    clear hd e1
    go_enter Try.func20, Try.ntmps20
    go_wp2_with fail
    (with_reducible refine (HD.out _).mono ?_)
    rintro e w' ⟨rfl, rfl⟩
    go_wp2_with fail
    (with_reducible refine HS.out.mono ?_)
    rintro e w' ⟨rfl, hb⟩
    go_wp2
    go_ret2
    exact ⟨ret28s HP.out.symm HO.out.symm, hb⟩

end Go.Proofs.Ytfkkjdggmlggbaa
