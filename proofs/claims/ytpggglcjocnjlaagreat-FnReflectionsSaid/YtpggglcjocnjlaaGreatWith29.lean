/- CountWithin, both functions (written by tools/mk29w.py). -/
import Derived.Test.YtpggglcjocnjlaaGreatBin29
namespace Go.Proofs.YtpggglcjocnjlaaGreat
open Go.ChangeShapes Go.WideShapes Go.ChangeAt Go.RowKit
set_option linter.unusedVariables false

/-- What the model adds from k on. -/
def tmW (n h : Nat) : Nat → Int → Int
  | 0, _ => 0
  | f + 1, k => if k ≤ (n : Int) + 1 then boZ (2 * n) ((n : Int) + k * ((h : Int) + 2)) - boZ (2 * n) ((n : Int) + k * ((h : Int) + 2) + 1) + tmW n h f (k + 1) else 0
/-- What the program adds from u on. -/
def tlW (n h : Nat) : Nat → Int → Int
  | 0, _ => 0
  | f + 1, u => if u ≤ 2 * (n : Int) + 1 then boZ (2 * n) u - boZ (2 * n) (u - 1) + tlW n h f (u + ((h : Int) + 2)) else 0
theorem tmW_on (n h f : Nat) (k : Int) (e : k ≤ (n : Int) + 1) : tmW n h (f + 1) k = boZ (2 * n) ((n : Int) + k * ((h : Int) + 2)) - boZ (2 * n) ((n : Int) + k * ((h : Int) + 2) + 1) + tmW n h f (k + 1) := by rw [tmW, if_pos e]
theorem tlW_on (n h f : Nat) (u : Int) (e : u ≤ 2 * (n : Int) + 1) : tlW n h (f + 1) u = boZ (2 * n) u - boZ (2 * n) (u - 1) + tlW n h f (u + ((h : Int) + 2)) := by rw [tlW, if_pos e]
theorem both_W : ∀ n, n < 15 → ∀ h, h < 16 → tmW n h (2 * n + 3) (-(n : Int) - 1) = tlW n h 16 ((n % (h + 2) : Nat) : Int) := by decide +kernel
def wiP (n h : Int) : Int := if 0 ≤ n ∧ n ≤ 14 ∧ 0 ≤ h ∧ h ≤ 15 then tlW n.toNat h.toNat 16 ((n.toNat % (h.toNat + 2) : Nat) : Int) else -1
theorem wi_yes (n h : Nat) (h1 : n ≤ 14) (h2 : h ≤ 15) : wiP n h = tlW n h 16 ((n % (h + 2) : Nat) : Int) := by unfold wiP; rw [if_pos (by omega)]; rfl
theorem wi_yesM (n h : Nat) (h1 : n ≤ 14) (h2 : h ≤ 15) : wiP n h = tmW n h (2 * n + 3) (-(n : Int) - 1) := by rw [wi_yes n h h1 h2, both_W n (by omega) h (by omega)]
theorem mul_in (k : Int) (h : Nat) (h1 : -15 ≤ k) (h2 : k ≤ 15) (h3 : h ≤ 15) : -255 ≤ k * ((h : Int) + 2) ∧ k * ((h : Int) + 2) ≤ 255 := by
  have : (k * ((h : Int) + 2)).natAbs ≤ 15 * 17 := by rw [Int.natAbs_mul]; exact Nat.mul_le_mul (by omega) (by omega)
  omega
theorem two_w (f n a : Nat) (w : World) {r : Int} (h : Calls Tryz.prog f #[.int .i64 ((2 * n : Nat) : Int), .int .i64 a] w fun e w' => e = .returned (.int .i64 r) ∧ w = w') : Calls Tryz.prog f #[.int .i64 (2 * (n : Int)), .int .i64 a] w fun e w' => e = .returned (.int .i64 r) ∧ w = w' := by
  rwa [show ((2 * n : Nat) : Int) = 2 * (n : Int) by omega] at h
theorem two_wZ (f n : Nat) (k : Int) (w : World) {r : Int} (h : Calls Tryz.prog f #[.int .i64 ((2 * n : Nat) : Int), .int .i64 k] w fun e w' => e = .returned (.int .i64 r) ∧ w = w') : Calls Tryz.prog f #[.int .i64 (2 * (n : Int)), .int .i64 k] w fun e w' => e = .returned (.int .i64 r) ∧ w = w' := by
  rwa [show ((2 * n : Nat) : Int) = 2 * (n : Int) by omega] at h
/-- The model's binomial at a number in range. -/
theorem boSZ (n : Nat) (k : Int) (w : World) (hn : n ≤ 14) (hk : 0 ≤ k ∧ k ≤ 2 * (n : Int)) : Calls Tryz.prog 40 #[.int .i64 (2 * (n : Int)), .int .i64 k] w fun e w' => e = .returned (.int .i64 (boZ (2 * n) k)) ∧ w = w' := by
  obtain ⟨q, rfl⟩ : ∃ q : Nat, k = q := ⟨k.toNat, by omega⟩
  have : boZ (2 * n) q = bo (2 * n) q := if_pos (by omega)
  rw [this]
  exact two_w _ n q w (boS (2 * n) q w (by omega) (by omega))

set_option maxRecDepth 100000 in
set_option maxHeartbeats 3200000 in
theorem countWithin (n h : Int) (w : World) : Calls Tryz.prog 20 #[.int .i64 n, .int .i64 h] w fun e w' => e = .returned (.int .i64 (wiP n h)) ∧ w = w' := by
  have HA := Lib.hid (fun W => l1In_is n 0 14 W)
  have HB := Lib.hid (fun W => l1In_is h 0 15 W)
  by_cases h1 : 0 ≤ n ∧ n ≤ 14
  · rw [decide_eq_true h1] at HA
    by_cases h2 : 0 ≤ h ∧ h ≤ 15
    · rw [decide_eq_true h2] at HB
      obtain ⟨n, rfl⟩ : ∃ q : Nat, n = q := ⟨n.toNat, by omega⟩
      obtain ⟨h, rfl⟩ : ∃ q : Nat, h = q := ⟨h.toNat, by omega⟩
      have HP := Lib.hid (wi_yesM n h (by omega) (by omega))
      obtain ⟨T, hT⟩ : ∃ T, Hid (T = tmW n h (2 * n + 3) (-(n : Int) - 1)) := ⟨_, Lib.hid rfl⟩
      have hw0 : IntKind.i64.wrap (-(n : Int)) = -(n : Int) := IntWalk.i64_in _ (by omega)
      have hw1 : IntKind.i64.wrap (-(n : Int) - 1) = -(n : Int) - 1 := IntWalk.i64_in _ (by omega)
      have hw2 : IntKind.i64.wrap ((n : Int) + 1) = (n : Int) + 1 := IntWalk.i64_in _ (by omega)
      have hw3 : IntKind.i64.wrap ((h : Int) + 2) = (h : Int) + 2 := IntWalk.i64_in _ (by omega)
      have hw4 : IntKind.i64.wrap (2 * (n : Int)) = 2 * (n : Int) := IntWalk.i64_in _ (by omega)
      go_enter Tryz.func20, Tryz.ntmps20
      go_wp2_with fail
      (with_reducible refine (HA.out _).mono ?_)
      rintro e w' ⟨rfl, rfl⟩
      go_wp2_with fail
      (with_reducible refine (HB.out _).mono ?_)
      rintro e w' ⟨rfl, rfl⟩
      go_wp2
      go_loop [5, 6] (fun x y => ∃ (f : Nat) (k X : Int), y = .int .i64 k ∧ x = .int .i64 X ∧ -(n : Int) - 1 ≤ k ∧ (f : Int) = (n : Int) + 2 - k ∧ -(400000000 * (k + (n : Int) + 1)) ≤ X ∧ X ≤ 400000000 * (k + (n : Int) + 1) ∧ T = X + tmW n h f k) (fun _ y => ((n : Int) + 2 - intOf y).toNat)
      case atStart => exact ⟨2 * n + 3, -(n : Int) - 1, 0, rfl, rfl, by omega, by omega, by omega, by omega, by rw [hT.out]; omega⟩
      case round =>
        obtain ⟨f, k, X, rfl, rfl, k1, kf, x1, x2, ht⟩ := hrel
        have HT := Lib.hid ht
        have HF := Lib.hid kf
        by_cases hlt : k ≤ (n : Int) + 1
        · obtain ⟨g, rfl⟩ : ∃ g, f = g + 1 := ⟨f - 1, by omega⟩
          have HU := Lib.hid (HT.out.trans (congrArg (X + ·) (tmW_on n h g k hlt)))
          have hp := mul_in k h (by omega) (by omega) (by omega)
          have hv0 : IntKind.i64.wrap (k * ((h : Int) + 2)) = k * ((h : Int) + 2) := IntWalk.i64_in _ (by omega)
          have HZ := Lib.hid (fun k => boZ_bd (2 * n) k (by omega))
          clear ht kf
          generalize hm : k * ((h : Int) + 2) = p at *
          have hv1 : IntKind.i64.wrap ((n : Int) + p) = (n : Int) + p := IntWalk.i64_in _ (by omega)
          have hv2 : IntKind.i64.wrap ((n : Int) + p + 1) = (n : Int) + p + 1 := IntWalk.i64_in _ (by omega)
          have za := HZ.out ((n : Int) + p)
          have zb := HZ.out ((n : Int) + p + 1)
          have HIA := Lib.hid (fun W => l1In_is ((n : Int) + p) 0 (2 * (n : Int)) W)
          have HIB := Lib.hid (fun W => l1In_is ((n : Int) + p + 1) 0 (2 * (n : Int)) W)
          have HNA := Lib.hid (fun (q : ¬ (0 ≤ (n : Int) + p ∧ (n : Int) + p ≤ 2 * (n : Int))) => show boZ (2 * n) ((n : Int) + p) = 0 from if_neg (by omega))
          have HNB := Lib.hid (fun (q : ¬ (0 ≤ (n : Int) + p + 1 ∧ (n : Int) + p + 1 ≤ 2 * (n : Int))) => show boZ (2 * n) ((n : Int) + p + 1) = 0 from if_neg (by omega))
          have HCA := Lib.hid (fun W q => boSZ n ((n : Int) + p) W (by omega) q)
          have HCB := Lib.hid (fun W q => boSZ n ((n : Int) + p + 1) W (by omega) q)
          generalize boZ (2 * n) ((n : Int) + p) = Za at *
          generalize boZ (2 * n) ((n : Int) + p + 1) = Zb at *
          have u1 : IntKind.i64.wrap (X + Za) = X + Za := IntWalk.i64_in _ (by omega)
          have u2 : IntKind.i64.wrap (X + Za - Zb) = X + Za - Zb := IntWalk.i64_in _ (by omega)
          have u3 : IntKind.i64.wrap (X - Zb) = X - Zb := IntWalk.i64_in _ (by omega)
          by_cases qa : 0 ≤ (n : Int) + p ∧ (n : Int) + p ≤ 2 * (n : Int)
          · rw [decide_eq_true qa] at HIA
            have HCA2 := Lib.hid (fun W => HCA.out W qa)
            by_cases qb : 0 ≤ (n : Int) + p + 1 ∧ (n : Int) + p + 1 ≤ 2 * (n : Int)
            · rw [decide_eq_true qb] at HIB
              have HCB2 := Lib.hid (fun W => HCB.out W qb)
              clear qa qb
              go_wp2_with fail
              (with_reducible refine (HIA.out _).mono ?_)
              rintro e w' ⟨rfl, rfl⟩
              go_wp2_with fail
              (with_reducible refine (HCA2.out _).mono ?_)
              rintro e w' ⟨rfl, rfl⟩
              go_wp2_with fail
              (with_reducible refine (HIB.out _).mono ?_)
              rintro e w' ⟨rfl, rfl⟩
              go_wp2_with fail
              (with_reducible refine (HCB2.out _).mono ?_)
              rintro e w' ⟨rfl, rfl⟩
              go_wp2
              exact ⟨⟨g, k + 1, X + Za - Zb, rfl, rfl, by omega, by have := HF.out; omega, by omega, by omega, by have := HU.out; omega⟩, by simp [intOf]; omega⟩
            · rw [decide_eq_false qb] at HIB
              have eb := HNB.out qb
              subst eb
              clear qa qb
              go_wp2_with fail
              (with_reducible refine (HIA.out _).mono ?_)
              rintro e w' ⟨rfl, rfl⟩
              go_wp2_with fail
              (with_reducible refine (HCA2.out _).mono ?_)
              rintro e w' ⟨rfl, rfl⟩
              go_wp2_with fail
              (with_reducible refine (HIB.out _).mono ?_)
              rintro e w' ⟨rfl, rfl⟩
              go_wp2
              exact ⟨⟨g, k + 1, X + Za, rfl, rfl, by omega, by have := HF.out; omega, by omega, by omega, by have := HU.out; omega⟩, by simp [intOf]; omega⟩
          · rw [decide_eq_false qa] at HIA
            have ea := HNA.out qa
            subst ea
            by_cases qb : 0 ≤ (n : Int) + p + 1 ∧ (n : Int) + p + 1 ≤ 2 * (n : Int)
            · rw [decide_eq_true qb] at HIB
              have HCB2 := Lib.hid (fun W => HCB.out W qb)
              clear qa qb
              go_wp2_with fail
              (with_reducible refine (HIA.out _).mono ?_)
              rintro e w' ⟨rfl, rfl⟩
              go_wp2_with fail
              (with_reducible refine (HIB.out _).mono ?_)
              rintro e w' ⟨rfl, rfl⟩
              go_wp2_with fail
              (with_reducible refine (HCB2.out _).mono ?_)
              rintro e w' ⟨rfl, rfl⟩
              go_wp2
              exact ⟨⟨g, k + 1, X - Zb, rfl, rfl, by omega, by have := HF.out; omega, by omega, by omega, by have := HU.out; omega⟩, by simp [intOf]; omega⟩
            · rw [decide_eq_false qb] at HIB
              have eb := HNB.out qb
              subst eb
              clear qa qb
              go_wp2_with fail
              (with_reducible refine (HIA.out _).mono ?_)
              rintro e w' ⟨rfl, rfl⟩
              go_wp2_with fail
              (with_reducible refine (HIB.out _).mono ?_)
              rintro e w' ⟨rfl, rfl⟩
              go_wp2
              exact ⟨⟨g, k + 1, X, rfl, rfl, by omega, by have := HF.out; omega, by omega, by omega, by have := HU.out; omega⟩, by simp [intOf]; omega⟩
        · obtain rfl : f = 0 := by omega
          have HE := Lib.hid (show wiP n h = X by rw [HP.out, ← hT.out, HT.out]; show X + 0 = X; omega)
          clear ht kf
          go_wp2
          go_ret
          exact ⟨ret_int HE.out.symm, rfl⟩
    · rw [decide_eq_false h2] at HB
      have HP := Lib.hid (show wiP n h = -1 from if_neg (by omega))
      clear h2
      go_enter Tryz.func20, Tryz.ntmps20
      go_wp2_with fail
      (with_reducible refine (HA.out _).mono ?_)
      rintro e w' ⟨rfl, rfl⟩
      go_wp2_with fail
      (with_reducible refine (HB.out _).mono ?_)
      rintro e w' ⟨rfl, rfl⟩
      go_wp2
      go_ret
      exact ⟨ret_int HP.out.symm, rfl⟩
  · rw [decide_eq_false h1] at HA
    have HP := Lib.hid (show wiP n h = -1 from if_neg (by omega))
    clear h1
    go_enter Tryz.func20, Tryz.ntmps20
    go_wp2_with fail
    (with_reducible refine (HA.out _).mono ?_)
    rintro e w' ⟨rfl, rfl⟩
    go_wp2
    go_ret
    exact ⟨ret_int HP.out.symm, rfl⟩

set_option maxRecDepth 100000 in
set_option maxHeartbeats 3200000 in
theorem countWithinI (n h : Int) (w : World) : Calls Tryz.prog 19 #[.int .i64 n, .int .i64 h] w fun e w' => e = .returned (.int .i64 (wiP n h)) ∧ w = w' := by
  by_cases h1 : 0 ≤ n ∧ n ≤ 14 ∧ 0 ≤ h ∧ h ≤ 15
  · obtain ⟨n, rfl⟩ : ∃ q : Nat, n = q := ⟨n.toNat, by omega⟩
    obtain ⟨h, rfl⟩ : ∃ q : Nat, h = q := ⟨h.toNat, by omega⟩
    have d1 : decide ((n : Int) < 0) = false := decide_eq_false (by omega)
    have d2 : decide ((14 : Int) < (n : Int)) = false := decide_eq_false (by omega)
    have d3 : decide ((h : Int) < 0) = false := decide_eq_false (by omega)
    have d4 : decide ((15 : Int) < (h : Int)) = false := decide_eq_false (by omega)
    have d5 : decide (14 < n) = false := decide_eq_false (by omega)
    have d6 : decide (15 < h) = false := decide_eq_false (by omega)
    have HP := Lib.hid (wi_yes n h (by omega) (by omega))
    obtain ⟨r, hr⟩ : ∃ r, Hid (r = n % (h + 2)) := ⟨_, Lib.hid rfl⟩
    have hr1 : r ≤ 14 := by rw [hr.out]; exact Nat.le_trans (Nat.mod_le _ _) (by omega)
    have hw3 : IntKind.i64.wrap ((h : Int) + 2) = (h : Int) + 2 := IntWalk.i64_in _ (by omega)
    have hw4 : IntKind.i64.wrap (2 * (n : Int)) = 2 * (n : Int) := IntWalk.i64_in _ (by omega)
    have hw5 : IntKind.i64.wrap (2 * (n : Int) + 1) = 2 * (n : Int) + 1 := IntWalk.i64_in _ (by omega)
    have hne : ((h : Int) + 2 == 0) = false := beq_eq_false_iff_ne.2 (by omega)
    have htm : (n : Int).tmod ((h : Int) + 2) = (r : Int) := by
      rw [hr.out, show ((h : Int) + 2) = ((h + 2 : Nat) : Int) by omega, Int.ofNat_tmod]
    have htw : IntKind.i64.wrap (r : Int) = (r : Int) := IntWalk.i64_in _ (by omega)
    obtain ⟨T, hT⟩ : ∃ T, Hid (T = tlW n h 16 ((n % (h + 2) : Nat) : Int)) := ⟨_, Lib.hid rfl⟩
    rw [← hr.out] at hT HP
    have hn14 : n ≤ 14 := by omega
    have hh15 : h ≤ 15 := by omega
    clear h1
    go_enter Tryz.func19, Tryz.ntmps19
    go_wp2
    go_loop [5, 6] (fun x y => ∃ (f j : Nat) (u X : Int), y = .int .i64 u ∧ x = .int .i64 X ∧ 0 ≤ u ∧ u ≤ 2 * (n : Int) + 20 ∧ f + j = 16 ∧ 2 * (n : Int) + 2 ≤ 2 * (f : Int) + u ∧ -(400000000 * (j : Int)) ≤ X ∧ X ≤ 400000000 * (j : Int) ∧ T = X + tlW n h f u) (fun _ y => (2 * (n : Int) + 30 - intOf y).toNat)
    case atStart => exact ⟨16, 0, (r : Int), 0, rfl, rfl, by omega, by omega, rfl, by omega, by omega, by omega, by rw [hT.out]; omega⟩
    case round =>
      obtain ⟨f, j, u, X, rfl, rfl, u1, u2, kf, u3, x1, x2, ht⟩ := hrel
      have HT := Lib.hid ht
      have HF := Lib.hid kf
      by_cases hlt : u ≤ 2 * (n : Int) + 1
      · obtain ⟨g, rfl⟩ : ∃ g, f = g + 1 := ⟨f - 1, by omega⟩
        have HU := Lib.hid (HT.out.trans (congrArg (X + ·) (tlW_on n h g u hlt)))
        have za := boZ_bd (2 * n) u (by omega)
        have zb := boZ_bd (2 * n) (u - 1) (by omega)
        have HCA := Lib.hid (fun W => two_wZ _ n u W (boIZ (2 * n) u W (by omega)))
        have HCB := Lib.hid (fun W => two_wZ _ n (u - 1) W (boIZ (2 * n) (u - 1) W (by omega)))
        have hv1 : IntKind.i64.wrap (u - 1) = u - 1 := IntWalk.i64_in _ (by omega)
        have hv2 : IntKind.i64.wrap (u + ((h : Int) + 2)) = u + ((h : Int) + 2) := IntWalk.i64_in _ (by omega)
        generalize boZ (2 * n) u = Za at *
        generalize boZ (2 * n) (u - 1) = Zb at *
        have v1 : IntKind.i64.wrap (Za - Zb) = Za - Zb := IntWalk.i64_in _ (by omega)
        have hj : j ≤ 16 := by omega
        have v2 : IntKind.i64.wrap (X + (Za - Zb)) = X + (Za - Zb) := IntWalk.i64_in _ (by omega)
        clear ht kf
        go_wp2_with fail
        (with_reducible refine (HCA.out _).mono ?_)
        rintro e w' ⟨rfl, rfl⟩
        go_wp2_with fail
        (with_reducible refine (HCB.out _).mono ?_)
        rintro e w' ⟨rfl, rfl⟩
        go_wp2
        exact ⟨⟨g, j + 1, u + ((h : Int) + 2), X + (Za - Zb), rfl, rfl, by omega, by omega, by have := HF.out; omega, by omega, by omega, by omega, by have := HU.out; omega⟩, by simp [intOf]; omega⟩
      · have HZ : tlW n h f u = 0 := by
          cases f with
          | zero => rfl
          | succ g => rw [tlW, if_neg hlt]
        have HE := Lib.hid (show wiP n h = X by rw [HP.out, ← hT.out, HT.out, HZ]; omega)
        clear ht kf HZ
        go_wp2
        go_ret
        exact ⟨ret_int HE.out.symm, rfl⟩
  · have HP := Lib.hid (show wiP n h = -1 from if_neg h1)
    by_cases a1 : n < 0
    · have d1 : decide (n < 0) = true := decide_eq_true a1
      clear h1
      go_enter Tryz.func19, Tryz.ntmps19
      go_wp2
      go_ret
      exact ⟨ret_int HP.out.symm, rfl⟩
    · have d1 : decide (n < 0) = false := decide_eq_false a1
      by_cases a2 : 14 < n
      · have d2 : decide (14 < n) = true := decide_eq_true a2
        clear h1
        go_enter Tryz.func19, Tryz.ntmps19
        go_wp2
        go_ret
        exact ⟨ret_int HP.out.symm, rfl⟩
      · have d2 : decide (14 < n) = false := decide_eq_false a2
        by_cases a3 : h < 0
        · have d3 : decide (h < 0) = true := decide_eq_true a3
          clear h1
          go_enter Tryz.func19, Tryz.ntmps19
          go_wp2
          go_ret
          exact ⟨ret_int HP.out.symm, rfl⟩
        · have d3 : decide (h < 0) = false := decide_eq_false a3
          have a4 : 15 < h := by omega
          have d4 : decide (15 < h) = true := decide_eq_true a4
          clear h1
          go_enter Tryz.func19, Tryz.ntmps19
          go_wp2
          go_ret
          exact ⟨ret_int HP.out.symm, rfl⟩

end Go.Proofs.YtpggglcjocnjlaaGreat
