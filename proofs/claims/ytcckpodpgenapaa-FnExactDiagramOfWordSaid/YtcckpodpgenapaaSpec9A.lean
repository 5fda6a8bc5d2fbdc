/- The contracts of the model's MatchingOf, IsMatching, CrossingsOf, IsNoncrossingMatching. -/
import Derived.Test.YtcckpodpgenapaaSpec4B
namespace Go.Proofs.Ytcckpodpgenapaa
open Go.ChangeShapes Go.WideShapes Go.ChangeAt Go.RowKit
open Go.PlainAid (bt bt_nonneg bt_le get_bt)
set_option linter.unusedVariables false

/-- A function that answers the ints xs in memory of its own, and whether. -/
def AnsIB (xs : List Int) (b : Bool) (w : World) (e : Ending) (w' : World) : Prop := ∃ v, e = .returned (.tuple #[v, .bool b]) ∧ OwnI w' w.heap.size w'.heap.size v xs ∧ Below w.heap.size w w'
/-- The partners of all letters of a path. -/
def mtL (s : ByteArray) (k : Nat) : List Int := (List.range k).map fun q => partL s q
theorem mtL_len (s : ByteArray) (k : Nat) : (mtL s k).length = k := by simp [mtL]
theorem mtL_succ (s : ByteArray) (k : Nat) : mtL s (k + 1) = mtL s k ++ [partL s k] := by simp [mtL, List.range_succ]
def matchingP (s : ByteArray) : List Int := if dyck s = true then mtL s s.size else []

/-- The point j has another one as partner, whose partner it is. -/
def mtOk (xs : List Int) (j : Nat) : Prop := 0 ≤ xs.getD j 0 ∧ xs.getD j 0 ≤ (xs.length : Int) - 1 ∧ xs.getD j 0 ≠ (j : Int) ∧ xs.getD (xs.getD j 0).toNat 0 = (j : Int)
instance (xs : List Int) (j : Nat) : Decidable (mtOk xs j) := by unfold mtOk; infer_instance
def matchP (xs : List Int) : Bool := decide (xs.length ≤ 16 ∧ ∀ j, j < xs.length → mtOk xs j)
theorem match_no {xs : List Int} {j : Nat} (hj : j < xs.length) (h : ¬ mtOk xs j) : matchP xs = false := decide_eq_false fun hh => h (hh.2 j hj)
theorem match_yes {xs : List Int} (h : matchP xs = true) : xs.length ≤ 16 ∧ ∀ j, j < xs.length → mtOk xs j := of_decide_eq_true h

set_option maxRecDepth 100000 in
set_option maxHeartbeats 1600000 in
theorem isMatching (v : Value) (xs : List Int) (lo hi : Nat) (w : World) (hv : OwnI w lo hi v xs) (hl : xs.length ≤ 1099511627776) :
    Calls Try.prog 68 #[v] w fun e w' => e = .returned (.bool (matchP xs)) ∧ w = w' := by
  obtain ⟨A1, c1, rfl, k1⟩ := id hv
  clear k1
  have HV := Lib.hid hv
  clear hv
  go_enter Try.func68, Try.ntmps68
  go_wp2
  go_loop [3] (fun x => ∃ j : Nat, j ≤ xs.length ∧ x = .int .i64 j ∧ ∀ q, q < j → mtOk xs q) (fun x => xs.length - (intOf x).toNat)
  case atStart => exact ⟨0, Nat.zero_le _, rfl, fun q h => by omega⟩
  case round =>
    obtain ⟨j, hj, rfl, hok⟩ := hrel
    have HOK := Lib.hid hok
    clear hok
    by_cases hlt : j < xs.length
    · obtain ⟨g1, p1, e1, -, -, hc1, -⟩ := HV.out.cell hlt
      simp only [Value.slice.injEq] at e1
      obtain ⟨rfl, -, rfl⟩ := e1
      have hji : (j : Int) < (xs.length : Int) := by omega
      have HNO := Lib.hid (fun h : ¬ mtOk xs j => match_no hlt h)
      have HMT := Lib.hid (show mtOk xs j ↔ _ from Iff.rfl)
      generalize hy : xs.getD j 0 = y at hc1
      have HY := Lib.hid hy
      clear hy
      by_cases y0 : y < 0
      · go_wp2_with fail
        (with_reducible refine (l1In_no1 _ _ _ _ y0).mono ?_)
        rintro e w' ⟨rfl, rfl⟩
        go_wp2
        go_ret
        exact ⟨ret_bool (HNO.out fun h => by have := h.1; rw [HY.out] at this; omega).symm, rfl⟩
      · by_cases y1 : (xs.length : Int) - 1 < y
        · go_wp2_with fail
          (with_reducible refine (l1In_no2 _ _ _ _ (by omega) y1).mono ?_)
          rintro e w' ⟨rfl, rfl⟩
          go_wp2
          go_ret
          exact ⟨ret_bool (HNO.out fun h => by have := h.2.1; rw [HY.out] at this; omega).symm, rfl⟩
        · obtain ⟨k, rfl⟩ : ∃ k : Nat, y = k := ⟨y.toNat, by omega⟩
          have hk : k < xs.length := by omega
          have hki : (k : Int) < (xs.length : Int) := by omega
          obtain ⟨g2, p2, e2, -, -, hc2, -⟩ := HV.out.cell hk
          obtain rfl : g1 = g2 := by simpa using (Value.slice.inj e2).1
          have HZ := Lib.hid (show xs.getD (xs.getD j 0).toNat 0 = xs.getD k 0 by rw [HY.out]; rfl)
          generalize xs.getD k 0 = z at hc2 HZ
          by_cases ek : k = j
          · subst ek
            clear hc2
            go_wp2_with fail
            (with_reducible refine (l1In_yes _ _ _ _ (by omega) (by omega)).mono ?_)
            rintro e w' ⟨rfl, rfl⟩
            go_wp2
            go_ret
            exact ⟨ret_bool (HNO.out fun h => h.2.2.1 HY.out).symm, rfl⟩
          · have ek2 : ((k : Int) == (j : Int)) = false := beq_eq_false_iff_ne.2 (by omega)
            by_cases ez : z = (j : Int)
            · subst ez
              go_wp2_with fail
              (with_reducible refine (l1In_yes _ _ _ _ (by omega) (by omega)).mono ?_)
              rintro e w' ⟨rfl, rfl⟩
              go_wp2
              refine ⟨⟨j + 1, by omega, by simp, fun q hq => ?_⟩, by simp [intOf]; omega⟩
              by_cases e : q < j
              · exact HOK.out q e
              · obtain rfl : q = j := by omega
                exact ⟨by rw [HY.out]; omega, by rw [HY.out]; omega, by rw [HY.out]; omega, HZ.out⟩
            · have ez2 : (z != (j : Int)) = true := by simp [ez]
              have HEZ := Lib.hid ez
              clear ez
              go_wp2_with fail
              (with_reducible refine (l1In_yes _ _ _ _ (by omega) (by omega)).mono ?_)
              rintro e w' ⟨rfl, rfl⟩
              go_wp2
              go_ret
              exact ⟨ret_bool (HNO.out fun h => HEZ.out (HZ.out.symm.trans h.2.2.2)).symm, rfl⟩
    · obtain rfl : j = xs.length := by omega
      go_wp2
      go_ret
      refine ⟨ret_bool ?_, rfl⟩
      unfold matchP
      rw [decide_eq_decide]
      exact ⟨fun h => ⟨by omega, HOK.out⟩, fun h => by have := h.1; omega⟩

/-- Pairs of arcs that cross. -/
def crR (xs : List Int) (a b : Nat) : Nat := if (b : Int) < xs.getD a 0 ∧ xs.getD a 0 < xs.getD b 0 then 1 else 0
def crIn (xs : List Int) (a : Nat) : Nat → Nat
  | 0 => 0
  | k + 1 => crIn xs a k + crR xs a (a + 1 + k)
def crOut (xs : List Int) : Nat → Nat
  | 0 => 0
  | a + 1 => crOut xs a + crIn xs a (xs.length - (a + 1))
theorem crIn_le (xs : List Int) (a : Nat) : ∀ k, crIn xs a k ≤ k := by
  intro k
  induction k with
  | zero => exact Nat.le_refl _
  | succ k ih => rw [crIn]; have : crR xs a (a + 1 + k) ≤ 1 := by unfold crR; split <;> omega
                 omega
theorem crOut_le (xs : List Int) : ∀ a, crOut xs a ≤ a * xs.length := by
  intro a
  induction a with
  | zero => exact Nat.zero_le _
  | succ a ih => rw [crOut, Nat.succ_mul]; have := crIn_le xs a (xs.length - (a + 1)); omega
def crossP (xs : List Int) : Int := if matchP xs = true then (crOut xs xs.length : Int) else -1

set_option maxRecDepth 100000 in
set_option maxHeartbeats 3200000 in
theorem crossingsOf (v : Value) (xs : List Int) (lo hi : Nat) (w : World) (hv : OwnI w lo hi v xs) (hl : xs.length ≤ 1099511627776) :
    Calls Try.prog 56 #[v] w fun e w' => e = .returned (.int .i64 (crossP xs)) ∧ Below w.heap.size w w' := by
  obtain ⟨A1, c1, rfl, k1⟩ := id hv
  clear k1
  have HV := Lib.hid hv
  clear hv
  rcases hm : matchP xs with _ | _
  · have HP := Lib.hid (show crossP xs = -1 from if_neg (by simp [hm]))
    have HM := Lib.hid (fun w (h : OwnI w lo hi (.slice A1 xs.length c1) xs) => isMatching _ xs lo hi w h hl)
    rw [hm] at HM
    clear hm
    go_enter Try.func56, Try.ntmps56
    go_wp2_with fail
    (with_reducible refine (HM.out _ HV.out).mono ?_)
    rintro e w' ⟨rfl, rfl⟩
    go_wp2
    go_ret
    exact ⟨ret_int HP.out.symm, Below.refl _ _⟩
  · have HP := Lib.hid (show crossP xs = (crOut xs xs.length : Int) from if_pos hm)
    have HM := Lib.hid (fun w (h : OwnI w lo hi (.slice A1 xs.length c1) xs) => isMatching _ xs lo hi w h hl)
    rw [hm] at HM
    have h16 := (match_yes hm).1
    have HLE := Lib.hid (fun a (ha : a ≤ 16) => show crOut xs a ≤ 256 from Nat.le_trans (crOut_le xs a) (Nat.mul_le_mul ha h16))
    clear hm
    go_enter Try.func56, Try.ntmps56
    go_wp2_with fail
    (with_reducible refine (HM.out _ HV.out).mono ?_)
    rintro e w' ⟨rfl, rfl⟩
    go_wp2
    go_loopw [3, 4] (fun x y wr => ∃ (a q : Nat), a ≤ xs.length ∧ y = .int .i64 a ∧ x = .int .i64 (crOut xs a : Nat) ∧ wr = w.drewN q) (fun _ y _ => xs.length - (intOf y).toNat)
    case atStart => exact ⟨0, 0, Nat.zero_le _, rfl, rfl, rfl⟩
    case round =>
      obtain ⟨a, q, ha, rfl, rfl, rfl⟩ := hrel
      have hle := HLE.out a (by omega)
      by_cases hlt : a < xs.length
      · obtain ⟨g1, p1, e1, -, -, hc1, -⟩ := HV.out.cell hlt
        simp only [Value.slice.injEq] at e1
        obtain ⟨rfl, -, rfl⟩ := e1
        have hai : (a : Int) < (xs.length : Int) := by omega
        have HSUC := Lib.hid (show crOut xs (a + 1) = crOut xs a + crIn xs a (xs.length - (a + 1)) from rfl)
        generalize crOut xs a = na at *
        have HR := Lib.hid (fun b => show crR xs a b = if (b : Int) < xs.getD a 0 ∧ xs.getD a 0 < xs.getD b 0 then 1 else 0 from rfl)
        generalize hx : xs.getD a 0 = x at hc1 HR
        clear hx
        go_wp2
        go_loopw [3, 5] (fun x y wr => ∃ (k q : Nat), a + 1 + k ≤ xs.length ∧ y = .int .i64 ((a + 1 + k : Nat) : Int) ∧ x = .int .i64 ((na + crIn xs a k : Nat) : Int) ∧ wr = w.drewN q) (fun _ y _ => xs.length - (intOf y).toNat)
        case atStart => exact ⟨0, q, by omega, by simp, rfl, rfl⟩
        case round =>
          obtain ⟨k, q, hk, rfl, rfl, rfl⟩ := hrel
          have hin := crIn_le xs a k
          have HIN := Lib.hid (show crIn xs a (k + 1) = crIn xs a k + crR xs a (a + 1 + k) from rfl)
          have HRB := Lib.hid (HR.out (a + 1 + k))
          generalize hnb : crIn xs a k = nb at *
          have HNB := Lib.hid hnb
          clear hnb
          by_cases hkl : a + 1 + k < xs.length
          · obtain ⟨g2, p2, e2, -, -, hc2, -⟩ := HV.out.cell hkl
            obtain rfl : g1 = g2 := by simpa using (Value.slice.inj e2).1
            generalize xs.getD (a + 1 + k) 0 = y at hc2 HRB
            have hk16 : k ≤ 16 := by omega
            have HK := Lib.hid hk
            generalize hb : a + 1 + k = b at *
            have HBB := Lib.hid hb
            clear hb
            have hbi : (b : Int) < (xs.length : Int) := by omega
            by_cases c1 : (b : Int) < x
            · by_cases c2 : x < y
              · have HE := Lib.hid (HRB.out.trans (if_pos ⟨c1, c2⟩))
                go_wp2
                go_quiet (fail)
                go_wp2
                refine ⟨⟨k + 1, q + nq, by have := HBB.out; omega, by have := HBB.out; congr 1; omega, by rw [HIN.out, HE.out]; congr 1, rfl⟩, by simp [intOf]; omega⟩
              · have HE := Lib.hid (HRB.out.trans (if_neg fun h => c2 h.2))
                go_wp2
                go_quiet (fail)
                go_wp2
                refine ⟨⟨k + 1, q + nq, by have := HBB.out; omega, by have := HBB.out; congr 1; omega, by rw [HIN.out, HE.out]; rfl, rfl⟩, by simp [intOf]; omega⟩
            · have HE := Lib.hid (HRB.out.trans (if_neg fun h => c1 h.1))
              have c1d : decide ((b : Int) < x) = false := decide_eq_false c1
              go_wp2
              go_quiet (fail)
              go_wp2
              refine ⟨⟨k + 1, q + nq, by have := HBB.out; omega, by have := HBB.out; congr 1; omega, by rw [HIN.out, HE.out]; rfl, rfl⟩, by simp [intOf]; omega⟩
          · have hkn : ¬ ((a + 1 + k : Nat) : Int) < (xs.length : Int) := by omega
            have HKE := Lib.hid (show xs.length - (a + 1) = k by omega)
            generalize ((a + 1 + k : Nat) : Int) = bb at *
            go_wp2
            refine ⟨⟨a + 1, q, by omega, by simp, by rw [HSUC.out, HKE.out, HNB.out], rfl⟩, by simp [intOf]; omega⟩
      · obtain rfl : a = xs.length := by omega
        go_wp2
        go_ret
        exact ⟨ret_int HP.out.symm, below_drewN (Below.refl _ _) _⟩

theorem noncrossing (v : Value) (xs : List Int) (lo hi : Nat) (w : World) (hv : OwnI w lo hi v xs) (hl : xs.length ≤ 1099511627776) :
    Calls Try.prog 43 #[v] w fun e w' => e = .returned (.bool (crossP xs == 0)) ∧ Below w.heap.size w w' := by
  have H := Lib.hid (crossingsOf v xs lo hi w hv hl)
  obtain ⟨A1, c1, rfl, -⟩ := hv
  obtain ⟨z, hz⟩ : ∃ z, z = crossP xs := ⟨_, rfl⟩
  rw [← hz] at H ⊢
  clear hz
  go_enter Try.func43, Try.ntmps43
  go_wp2_with fail
  (with_reducible refine H.out.mono ?_)
  rintro e w' ⟨rfl, hb⟩
  go_wp2
  go_ret
  exact ⟨rfl, hb⟩

end Go.Proofs.Ytcckpodpgenapaa
