/- IsFuss and FussNumber, both functions. -/
import Derived.Test.YtbnhjecapodflaaAlp25
import Derived.Test.YtbnhjecapodflaaBin30
namespace Go.Proofs.Ytbnhjecapodflaa
open Go.ChangeShapes Go.WideShapes Go.ChangeAt Go.RowKit
open Go.PlainAid (bt bt_nonneg bt_le get_bt bt_end)
set_option linter.unusedVariables false

theorem l1In_is (x lo hi : Int) (w : World) : Calls Try.prog 26 #[.int .i64 x, .int .i64 lo, .int .i64 hi] w fun e w' => e = .returned (.bool (decide (lo ≤ x ∧ x ≤ hi))) ∧ w = w' := by
  by_cases h : lo ≤ x ∧ x ≤ hi
  · rw [decide_eq_true h]; exact l1In_yes x lo hi w h.1 h.2
  · rw [decide_eq_false h]
    by_cases h1 : lo ≤ x
    · exact l1In_no2 x lo hi w h1 (by omega)
    · exact l1In_no1 x lo hi w (by omega)
def fz (m : Int) : List Kd := [(117, m - 1, 1), (100, -1, 1)]
theorem fnd_fz (m x : Int) : fnd (fz m) x = if x = 117 then some (117, m - 1, 1) else if x = 100 then some (100, -1, 1) else none := by
  unfold fnd fz
  by_cases e1 : x = 117
  · subst e1; rfl
  · rw [if_neg e1]
    by_cases e3 : x = 100
    · subst e3; rfl
    · rw [if_neg e3]
      simp only [List.find?_cons, List.find?_nil]
      rw [show ((117 : Int) == x) = false from beq_eq_false_iff_ne.2 (fun h => e1 h.symm), show ((100 : Int) == x) = false from beq_eq_false_iff_ne.2 (fun h => e3 h.symm)]
theorem mod_fz (m : Int) (h1 : 1 ≤ m) (h4 : m ≤ 4) : Mod (fz m) := by
  intro x k h
  rw [fnd_fz] at h
  split at h
  · rename_i e; cases h; exact ⟨(by decide : (0 : Int) ≤ 1), (by decide : (1 : Int) ≤ 2), by show -1 ≤ m - 1; omega, by show m - 1 ≤ 3; omega, by omega⟩
  · split at h
    · rename_i e; cases h; exact ⟨by decide, by decide, by decide, by decide, by omega⟩
    · cases h
/-- A word is as wide as it has letters. -/
theorem wd_len (m : Int) : ∀ (l : List UInt8) (h : Int), spG (fz m) h l = true → wdG (fz m) l = (l.length : Int)
  | [], _, _ => rfl
  | c :: l, h, hs => by
    rw [spG] at hs
    rw [wdG]
    have hf := fnd_fz m (c.toNat : Int)
    cases e : fnd (fz m) (c.toNat : Int) with
    | none => rw [e] at hs; cases hs
    | some k =>
      rw [e] at hs
      have hq : k.2.2 = 1 := by
        rw [e] at hf
        split at hf
        · cases hf; rfl
        · split at hf
          · cases hf; rfl
          · cases hf
      have hs2 : (if h + k.2.1 < 0 then false else spG (fz m) (h + k.2.1) l) = true := hs
      split at hs2
      · cases hs2
      · have := wd_len m l _ hs2
        show k.2.2 + _ = _
        rw [this, hq, List.length_cons]; omega
def fuB (m : Int) (s : ByteArray) : Bool := decide (1 ≤ m ∧ m ≤ 4) && alB (fz m) 24 s
set_option maxRecDepth 100000 in
theorem fussAlphabetI (m : Int) (w : World) (h1 : 1 ≤ m) (h4 : m ≤ 4) : Calls Try.prog 30 #[.int .i64 m] w fun e w' => e = .returned (.slice (some ⟨w.heap.size, 0, none⟩) 2 2) ∧ Alph w' w.heap.size (fz m) ∧ Below w.heap.size w w' := by
  have hw : IntKind.i64.wrap (m - 1) = m - 1 := IntWalk.i64_in _ (by omega)
  go_enter Try.func30, Try.ntmps30
  go_wp2
  go_ret
  refine ⟨rfl, ⟨by simp, fun i hi => ?_⟩, (Below.refl _ _).alloc (Nat.le_refl _) _⟩
  match i, hi with
  | 0, _ => exact ⟨by simp [fz, kd0], by simp [fz, kd0], by simp [fz, kd0]⟩
  | 1, _ => exact ⟨by simp [fz, kd0], by simp [fz, kd0], by simp [fz, kd0]⟩
set_option maxRecDepth 100000 in
theorem isFussRiseI (m : Int) (w : World) : Calls Try.prog 28 #[.int .i64 m] w fun e w' => e = .returned (.bool (decide (1 ≤ m ∧ m ≤ 4))) ∧ w = w' := by
  by_cases h1 : 1 ≤ m
  · have d1 : decide (1 ≤ m) = true := decide_eq_true h1
    by_cases h2 : m ≤ 4
    · have d2 : decide (m ≤ 4) = true := decide_eq_true h2
      have HP := Lib.hid (show decide (1 ≤ m ∧ m ≤ 4) = true from decide_eq_true ⟨h1, h2⟩)
      go_enter Try.func28, Try.ntmps28
      go_wp2
      go_ret
      exact ⟨ret_bool (by first | exact HP.out.symm | rfl), rfl⟩
    · have d2 : decide (m ≤ 4) = false := decide_eq_false h2
      have HP := Lib.hid (show decide (1 ≤ m ∧ m ≤ 4) = false from decide_eq_false fun h => h2 h.2)
      go_enter Try.func28, Try.ntmps28
      go_wp2
      go_ret
      exact ⟨ret_bool (by first | exact HP.out.symm | rfl), rfl⟩
  · have d1 : decide (1 ≤ m) = false := decide_eq_false h1
    have HP := Lib.hid (show decide (1 ≤ m ∧ m ≤ 4) = false from decide_eq_false fun h => h1 h.1)
    go_enter Try.func28, Try.ntmps28
    go_wp2
    go_ret
    exact ⟨ret_bool (by first | exact HP.out.symm | rfl), rfl⟩

set_option maxRecDepth 100000 in
set_option maxHeartbeats 1600000 in
theorem isFussI (m : Int) (s : ByteArray) (w : World) (hs : s.size ≤ 1048577) : Calls Try.prog 12 #[.int .i64 m, .string s] w fun e w' => e = .returned (.bool (fuB m s)) ∧ Below w.heap.size w w' := by
  have HR := Lib.hid (isFussRiseI m w)
  by_cases hm : 1 ≤ m ∧ m ≤ 4
  · have HP := Lib.hid (show fuB m s = alB (fz m) 24 s by unfold fuB; rw [decide_eq_true hm]; rfl)
    rw [decide_eq_true hm] at HR
    have HL := Lib.hid (fussAlphabetI m w hm.1 hm.2)
    have HS := Lib.hid (fun W (h : Alph W w.heap.size (fz m)) => spellsI (fz m) w.heap.size 2 24 s W h rfl (by omega) (mod_fz m hm.1 hm.2) (by omega) (by omega) hs)
    clear hm
    go_enter Try.func12, Try.ntmps12
    go_wp2_with fail
    (with_reducible refine HR.out.mono ?_)
    rintro e w' ⟨rfl, rfl⟩
    go_wp2_with fail
    (with_reducible refine HL.out.mono ?_)
    rintro e w1 ⟨rfl, ha, hb⟩
    go_wp2_with fail
    (with_reducible refine (HS.out _ ?h).mono ?_)
    case h => exact ha
    rintro e w2 ⟨rfl, hb2⟩
    go_wp2
    go_ret
    exact ⟨ret_bool HP.out.symm, hb.trans (hb2.mono hb.size)⟩
  · have HP := Lib.hid (show fuB m s = false by unfold fuB; rw [decide_eq_false hm]; rfl)
    rw [decide_eq_false hm] at HR
    clear hm
    go_enter Try.func12, Try.ntmps12
    go_wp2_with fail
    (with_reducible refine HR.out.mono ?_)
    rintro e w' ⟨rfl, rfl⟩
    go_wp2
    go_ret
    exact ⟨ret_bool HP.out.symm, Below.refl _ _⟩

set_option maxRecDepth 100000 in
set_option maxHeartbeats 1600000 in
theorem isFuss (m : Int) (s : ByteArray) (w : World) (hs : s.size ≤ 1048577) : Calls Try.prog 11 #[.int .i64 m, .string s] w fun e w' => e = .returned (.bool (fuB m s)) ∧ w = w' := by
  have HR := Lib.hid (l1In_is m 1 4 w)
  by_cases hm : 1 ≤ m ∧ m ≤ 4
  · rw [decide_eq_true hm] at HR
    by_cases hl : s.size ≤ 24
    · have HP := Lib.hid (show fuB m s = spG (fz m) 0 s.data.toList by
        unfold fuB alB
        rw [decide_eq_true hm, Bool.true_and]
        rcases hsp : spG (fz m) 0 s.data.toList with _ | _
        · rfl
        · have hz : s.data.toList.length = s.size := by simp
          rw [wd_len m _ _ hsp, hz, decide_eq_true (by omega)]; rfl)
      have hli : ¬ (24 : Int) < (s.size : Int) := by omega
      have hld : decide ((24 : Int) < (s.size : Int)) = false := decide_eq_false hli
      have hm1 := hm.1
      have hm4 := hm.2
      clear hm
      go_enter Try.func11, Try.ntmps11
      go_wp2_with fail
      (with_reducible refine HR.out.mono ?_)
      rintro e w' ⟨rfl, rfl⟩
      go_wp2
      go_loop [5, 6] (fun x y => ∃ (i : Nat) (h : Int), i ≤ s.size ∧ 0 ≤ h ∧ h ≤ 3 * (i : Int) ∧ y = .int .i64 i ∧ x = .int .i64 h ∧ spG (fz m) 0 s.data.toList = spG (fz m) h (rest s i)) (fun _ y => s.size - (intOf y).toNat)
      case atStart => exact ⟨0, 0, Nat.zero_le _, by omega, by omega, rfl, rfl, rfl⟩
      case round =>
        obtain ⟨i, h, hi, h1, h2, rfl, rfl, hu⟩ := hrel
        have HU := Lib.hid hu
        clear hu
        by_cases hlt : i < s.size
        · have hbt := get_bt s
          have HRC := Lib.hid (rest_cons s i hlt)
          have HBB := Lib.hid (bt_at s i hlt)
          have hw1 : IntKind.i64.wrap (h + m) = h + m := IntWalk.i64_in _ (by omega)
          have hw2 : IntKind.i64.wrap (h + m - 1) = h + m - 1 := IntWalk.i64_in _ (by omega)
          by_cases e1 : bt s i = 117
          · have b1 : (bt s i == 117) = true := by simp [e1]
            have HE := Lib.hid (show s[i].toNat = 117 by have := HBB.out; omega)
            have HF := Lib.hid (show fnd (fz m) (s[i].toNat : Int) = some (117, m - 1, 1) by rw [fnd_fz, HE.out]; rfl)
            have hn1 : decide (h + m - 1 < 0) = false := decide_eq_false (by omega)
            clear e1
            go_wp2
            exact ⟨⟨i + 1, h + m - 1, by omega, by omega, by omega, by simp, rfl, by rw [HU.out, HRC.out, spG_on _ _ HF.out (by show ¬ h + (m - 1) < 0; omega)]; show spG _ (h + (m - 1)) _ = _; rw [show h + (m - 1) = h + m - 1 by omega]⟩, by simp [intOf]; omega⟩
          · have b1 : (bt s i == 117) = false := by simp [e1]
            by_cases e2 : bt s i = 100
            · have b2 : (bt s i == 100) = true := by simp [e2]
              have HE := Lib.hid (show s[i].toNat = 100 by have := HBB.out; omega)
              have HF := Lib.hid (show fnd (fz m) (s[i].toNat : Int) = some (100, -1, 1) by rw [fnd_fz, HE.out]; rfl)
              clear e1 e2
              by_cases ez : h = 0
              · subst ez
                have HFIN := Lib.hid (show fuB m s = false by rw [HP.out, HU.out, HRC.out, spG_low _ _ HF.out (by show (0 : Int) + -1 < 0; omega)])
                go_wp2
                go_ret
                exact ⟨ret_bool HFIN.out.symm, rfl⟩
              · have hm1' : decide (h - 1 < 0) = false := decide_eq_false (by omega)
                have hm2 : ¬ h - 1 < 0 := by omega
                go_wp2
                exact ⟨⟨i + 1, h - 1, by omega, by omega, by omega, by simp, rfl, by rw [HU.out, HRC.out, spG_on _ _ HF.out (by show ¬ h + -1 < 0; omega)]; rfl⟩, by simp [intOf]; omega⟩
            · have b2 : (bt s i == 100) = false := by simp [e2]
              have HF := Lib.hid (show fnd (fz m) (s[i].toNat : Int) = none by have := HBB.out; rw [fnd_fz, if_neg (by omega), if_neg (by omega)])
              have HFIN := Lib.hid (show fuB m s = false by rw [HP.out, HU.out, HRC.out, spG_no _ _ HF.out])
              clear e1 e2
              go_wp2
              go_ret
              exact ⟨ret_bool HFIN.out.symm, rfl⟩
        · have HE := Lib.hid (rest_end s i (by omega))
          have HFIN := Lib.hid (show fuB m s = (h == 0) by rw [HP.out, HU.out, HE.out, spG_nil])
          go_wp2
          go_ret
          exact ⟨ret_bool HFIN.out.symm, rfl⟩
    · have HP := Lib.hid (show fuB m s = false by
        unfold fuB alB
        rcases hsp : spG (fz m) 0 s.data.toList with _ | _
        · simp
        · have hz : s.data.toList.length = s.size := by simp
          rw [wd_len m _ _ hsp, hz, decide_eq_false (p := ((s.size : Nat) : Int) ≤ 24) (by omega)]; simp)
      have hli : (24 : Int) < (s.size : Int) := by omega
      have hld : decide ((24 : Int) < (s.size : Int)) = true := decide_eq_true hli
      clear hm
      go_enter Try.func11, Try.ntmps11
      go_wp2_with fail
      (with_reducible refine HR.out.mono ?_)
      rintro e w' ⟨rfl, rfl⟩
      go_wp2
      go_ret
      exact ⟨ret_bool HP.out.symm, rfl⟩
  · have HP := Lib.hid (show fuB m s = false by unfold fuB; rw [decide_eq_false hm]; rfl)
    rw [decide_eq_false hm] at HR
    clear hm
    go_enter Try.func11, Try.ntmps11
    go_wp2_with fail
    (with_reducible refine HR.out.mono ?_)
    rintro e w' ⟨rfl, rfl⟩
    go_wp2
    go_ret
    exact ⟨ret_bool HP.out.symm, rfl⟩

def fuN (m n : Int) : Int := if 1 ≤ m ∧ m ≤ 4 ∧ 0 ≤ n ∧ n ≤ 6 then bo (m.toNat * n.toNat) n.toNat / ((m - 1) * n + 1) else -1
theorem fu_yes (m n : Nat) (h1 : 1 ≤ m) (h2 : m ≤ 4) (h3 : n ≤ 6) : fuN m n = bo (m * n) n / (((m : Int) - 1) * (n : Int) + 1) := by unfold fuN; rw [if_pos (by omega), Int.toNat_natCast, Int.toNat_natCast]
theorem fu_mul (m n : Nat) (h1 : 1 ≤ m) (h2 : m ≤ 4) (h3 : n ≤ 6) : n ≤ m * n ∧ m * n ≤ 24 ∧ 0 ≤ ((m : Int) - 1) * (n : Int) ∧ ((m : Int) - 1) * (n : Int) ≤ 18 := by
  have a : m * n ≤ 4 * 6 := Nat.mul_le_mul h2 h3
  have b : 1 * n ≤ m * n := Nat.mul_le_mul h1 (Nat.le_refl _)
  have c : (((m : Int) - 1) * (n : Int)).natAbs ≤ 3 * 6 := by rw [Int.natAbs_mul]; exact Nat.mul_le_mul (by omega) (by omega)
  have d : 0 ≤ ((m : Int) - 1) * (n : Int) := Int.mul_nonneg (by omega) (by omega)
  omega
theorem mul_at (f m n : Nat) (w : World) {r : Int} (h : Calls Try.prog f #[.int .i64 ((m * n : Nat) : Int), .int .i64 n] w fun e w' => e = .returned (.int .i64 r) ∧ w = w') : Calls Try.prog f #[.int .i64 ((m : Int) * (n : Int)), .int .i64 n] w fun e w' => e = .returned (.int .i64 r) ∧ w = w' := by
  rwa [Int.natCast_mul] at h

set_option maxRecDepth 100000 in
set_option maxHeartbeats 1600000 in
theorem fussNumber (m n : Int) (w : World) : Calls Try.prog 9 #[.int .i64 m, .int .i64 n] w fun e w' => e = .returned (.int .i64 (fuN m n)) ∧ w = w' := by
  have HR := Lib.hid (l1In_is m 1 4 w)
  have HQ := Lib.hid (l1In_is n 0 6 w)
  by_cases hm : 1 ≤ m ∧ m ≤ 4
  · rw [decide_eq_true hm] at HR
    by_cases hn : 0 ≤ n ∧ n ≤ 6
    · rw [decide_eq_true hn] at HQ
      obtain ⟨m, rfl⟩ : ∃ q : Nat, m = q := ⟨m.toNat, by omega⟩
      obtain ⟨n, rfl⟩ : ∃ q : Nat, n = q := ⟨n.toNat, by omega⟩
      have HP := Lib.hid (fu_yes m n (by omega) (by omega) (by omega))
      obtain ⟨a1, a2, a3, a4⟩ := fu_mul m n (by omega) (by omega) (by omega)
      have HC := Lib.hid (fun W => mul_at 27 m n W (boS (m * n) n W (by omega) a1))
      have hbd := bo_bd (m * n) n (by omega) (by omega)
      have hw0 : IntKind.i64.wrap ((m : Int) * (n : Int)) = (m : Int) * (n : Int) := by rw [← Int.natCast_mul]; exact IntWalk.i64_in _ (by omega)
      have hw1 : IntKind.i64.wrap ((m : Int) - 1) = (m : Int) - 1 := IntWalk.i64_in _ (by omega)
      have hw2 : IntKind.i64.wrap (((m : Int) - 1) * (n : Int)) = ((m : Int) - 1) * (n : Int) := IntWalk.i64_in _ (by omega)
      have hw3 : IntKind.i64.wrap (((m : Int) - 1) * (n : Int) + 1) = ((m : Int) - 1) * (n : Int) + 1 := IntWalk.i64_in _ (by omega)
      have hne : (((m : Int) - 1) * (n : Int) + 1 == 0) = false := beq_eq_false_iff_ne.2 (by omega)
      have hpos : 0 ≤ ((m : Int) - 1) * (n : Int) + 1 := by omega
      generalize bo (m * n) n = X at *
      clear hm hn
      go_enter Try.func9, Try.ntmps9
      go_wp2_with fail
      (with_reducible refine HR.out.mono ?_)
      rintro e w' ⟨rfl, rfl⟩
      go_wp2_with fail
      (with_reducible refine HQ.out.mono ?_)
      rintro e w' ⟨rfl, rfl⟩
      go_wp2_with fail
      (with_reducible refine (HC.out _).mono ?_)
      rintro e w' ⟨rfl, rfl⟩
      go_wp2
      go_ret
      exact ⟨ret_int HP.out.symm, rfl⟩
    · rw [decide_eq_false hn] at HQ
      have HP := Lib.hid (show fuN m n = -1 from if_neg (by omega))
      clear hm hn
      go_enter Try.func9, Try.ntmps9
      go_wp2_with fail
      (with_reducible refine HR.out.mono ?_)
      rintro e w' ⟨rfl, rfl⟩
      go_wp2_with fail
      (with_reducible refine HQ.out.mono ?_)
      rintro e w' ⟨rfl, rfl⟩
      go_wp2
      go_ret
      exact ⟨ret_int HP.out.symm, rfl⟩
  · rw [decide_eq_false hm] at HR
    have HP := Lib.hid (show fuN m n = -1 from if_neg (by omega))
    clear hm
    go_enter Try.func9, Try.ntmps9
    go_wp2_with fail
    (with_reducible refine HR.out.mono ?_)
    rintro e w' ⟨rfl, rfl⟩
    go_wp2
    go_ret
    exact ⟨ret_int HP.out.symm, rfl⟩

set_option maxRecDepth 100000 in
set_option maxHeartbeats 1600000 in
theorem fussNumberI (m n : Int) (w : World) : Calls Try.prog 10 #[.int .i64 m, .int .i64 n] w fun e w' => e = .returned (.int .i64 (fuN m n)) ∧ w = w' := by
  have HR := Lib.hid (isFussRiseI m w)
  by_cases hm : 1 ≤ m ∧ m ≤ 4
  · rw [decide_eq_true hm] at HR
    by_cases hn0 : n < 0
    · have HP := Lib.hid (show fuN m n = -1 from if_neg (by omega))
      have d0 : decide (n < 0) = true := decide_eq_true hn0
      clear hm
      go_enter Try.func10, Try.ntmps10
      go_wp2_with fail
      (with_reducible refine HR.out.mono ?_)
      rintro e w' ⟨rfl, rfl⟩
      go_wp2
      go_ret
      exact ⟨ret_int HP.out.symm, rfl⟩
    have d0 : decide (n < 0) = false := decide_eq_false hn0
    by_cases hn6 : 6 < n
    · have HP := Lib.hid (show fuN m n = -1 from if_neg (by omega))
      have d6 : decide (6 < n) = true := decide_eq_true hn6
      clear hm
      go_enter Try.func10, Try.ntmps10
      go_wp2_with fail
      (with_reducible refine HR.out.mono ?_)
      rintro e w' ⟨rfl, rfl⟩
      go_wp2
      go_ret
      exact ⟨ret_int HP.out.symm, rfl⟩
    have d6 : decide (6 < n) = false := decide_eq_false hn6
    obtain ⟨m, rfl⟩ : ∃ q : Nat, m = q := ⟨m.toNat, by omega⟩
    obtain ⟨n, rfl⟩ : ∃ q : Nat, n = q := ⟨n.toNat, by omega⟩
    have d6' : decide (6 < n) = false := decide_eq_false (by omega)
    have HP := Lib.hid (fu_yes m n (by omega) (by omega) (by omega))
    obtain ⟨a1, a2, a3, a4⟩ := fu_mul m n (by omega) (by omega) (by omega)
    have HC := Lib.hid (fun W => mul_at 29 m n W (boI (m * n) n W (by omega) a1))
    have hbd := bo_bd (m * n) n (by omega) (by omega)
    have hw0 : IntKind.i64.wrap ((m : Int) * (n : Int)) = (m : Int) * (n : Int) := by rw [← Int.natCast_mul]; exact IntWalk.i64_in _ (by omega)
    have hw1 : IntKind.i64.wrap ((m : Int) - 1) = (m : Int) - 1 := IntWalk.i64_in _ (by omega)
    have hw2 : IntKind.i64.wrap (((m : Int) - 1) * (n : Int)) = ((m : Int) - 1) * (n : Int) := IntWalk.i64_in _ (by omega)
    have hw3 : IntKind.i64.wrap (((m : Int) - 1) * (n : Int) + 1) = ((m : Int) - 1) * (n : Int) + 1 := IntWalk.i64_in _ (by omega)
    have hne : (((m : Int) - 1) * (n : Int) + 1 == 0) = false := beq_eq_false_iff_ne.2 (by omega)
    have hpos : 0 ≤ ((m : Int) - 1) * (n : Int) + 1 := by omega
    generalize bo (m * n) n = X at *
    clear hm
    go_enter Try.func10, Try.ntmps10
    go_wp2_with fail
    (with_reducible refine HR.out.mono ?_)
    rintro e w' ⟨rfl, rfl⟩
    go_wp2_with fail
    (with_reducible refine (HC.out _).mono ?_)
    rintro e w' ⟨rfl, rfl⟩
    go_wp2
    go_ret
    exact ⟨ret_int HP.out.symm, rfl⟩
  · rw [decide_eq_false hm] at HR
    have HP := Lib.hid (show fuN m n = -1 from if_neg (by omega))
    clear hm
    go_enter Try.func10, Try.ntmps10
    go_wp2_with fail
    (with_reducible refine HR.out.mono ?_)
    rintro e w' ⟨rfl, rfl⟩
    go_wp2
    go_ret
    exact ⟨ret_int HP.out.symm, rfl⟩

end Go.Proofs.Ytbnhjecapodflaa
