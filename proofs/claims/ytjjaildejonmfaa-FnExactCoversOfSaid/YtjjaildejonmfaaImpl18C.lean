/- The program's CoversOf. -/
import Derived.Test.YtjjaildejonmfaaBeg11
import Derived.Test.YtjjaildejonmfaaSpec18C
namespace Go.Proofs.Ytjjaildejonmfaa
open Go.ChangeShapes Go.WideShapes Go.ChangeAt Go.RowKit
open Go.PlainAid (bt bt_nonneg bt_le get_bt bt_end)
set_option linter.unusedVariables false

theorem beg_vl (s : ByteArray) : ∀ i, i ≤ s.size → begL ⟨#[100, 117]⟩ s i = vlL s (i + 1)
  | 0, _ => by rw [vlL_no (k := 0) (fun h => by have := h.1; omega)]; rfl
  | i + 1, h => by
    have hv : hpB ⟨#[100, 117]⟩ s i = decide (vale s (i + 1)) := by
      rw [hpB_two 100 117 s i (by omega), Bool.eq_iff_iff]
      simp only [Bool.and_eq_true, decide_eq_true_eq]
      constructor
      · rintro ⟨h1, h2, h3⟩; exact ⟨by omega, by rw [Nat.add_sub_cancel]; exact h1, h3⟩
      · intro h
        have h1 := h.2.1
        have h3 := h.2.2
        rw [Nat.add_sub_cancel] at h1
        refine ⟨h1, ?_, h3⟩
        rcases Nat.lt_or_ge (i + 1) s.size with h4 | h4
        · exact h4
        · rw [bt_end s (by omega)] at h3; omega
    rw [begL, beg_vl s i (by omega), hv]
    by_cases c : vale s (i + 1)
    · rw [if_pos (decide_eq_true c), vlL_yes c]; congr 2
    · rw [if_neg (by rw [decide_eq_false c]; simp), vlL_no c]
theorem beg_all (s : ByteArray) : begL ⟨#[100, 117]⟩ s s.size = vlL s s.size := by
  rw [beg_vl s s.size (Nat.le_refl _), vlL_no]
  intro h
  have := h.2.2
  rw [bt_end s (Nat.le_refl _)] at this; omega
/-- The covers by the first i places. -/
def cvM (s : ByteArray) (P : List Int) (i : Nat) : List ByteArray := (P.take i).map fun y => cvP s y.toNat
theorem cvM_zero (s : ByteArray) (P : List Int) : cvM s P 0 = [] := by simp [cvM]
theorem cvM_next (s : ByteArray) (P : List Int) (i q : Nat) (h : i < P.length) (hq : P.getD i 0 = (q : Int)) : cvM s P (i + 1) = cvM s P i ++ [cvP s q] := by
  unfold cvM
  rw [List.take_add_one, List.map_append]
  rw [List.getD_eq_getElem?_getD, List.getElem?_eq_getElem h, Option.getD_some] at hq
  rw [List.getElem?_eq_getElem h, hq]; simp
theorem cvM_all (s : ByteArray) (P : List Int) : cvM s P P.length = P.map fun y => cvP s y.toNat := by unfold cvM; rw [List.take_length]
set_option maxRecDepth 100000 in
set_option maxHeartbeats 800000 in
theorem coversOfI (s : ByteArray) (w : World) (hs : s.size ≤ 1099511627776) : Calls Try.prog 22 #[.string s] w (AnsS (covP s) w) := by
  rcases hd : dyck s with _ | _
  · have HP := Lib.hid (cov_no hd)
    have HD := Lib.hid hd
    clear hd
    go_enter Try.func22, Try.ntmps22
    go_wp2_with fail
    (with_reducible refine (isDyckI_no s _ HD.out).mono ?_)
    rintro e w1 ⟨rfl, hb1⟩
    go_wp2
    go_ret
    exact ⟨_, rfl, by rw [HP.out]; exact ⟨_, _, rfl, .inl rfl⟩, hb1⟩
  · have HP := Lib.hid (((cov_yes hd).trans (cvL_map s s.size)).trans (cvM_all s _).symm)
    have HD := Lib.hid hd
    have h16 := dyck_size hd
    have HB := Lib.hid (fun W => beginningsOfI ⟨#[100, 117]⟩ s W hd)
    rw [beg_all] at HB
    have HIN := Lib.hid (vlL_in s s.size)
    have hle := vlL_le s s.size
    clear hd
    generalize vlL s s.size = P at *
    have hP16 : P.length ≤ 16 := by omega
    go_enter Try.func22, Try.ntmps22
    go_wp2_with fail
    (with_reducible refine (isDyckI_yes s _ HD.out).mono ?_)
    rintro e w1 ⟨rfl, hb1⟩
    have HB1 := Lib.hid hb1
    have z1 := hb1.size
    clear hb1
    go_wp2_with fail
    (with_reducible refine (HB.out _).mono ?_)
    rintro e w2 ⟨v2, rfl, hrow, hb2⟩
    have HB2 := Lib.hid (HB1.out.trans (hb2.mono z1))
    have z2 := HB2.out.size
    have HO := Lib.hid (OwnI.of_row hrow)
    obtain ⟨A2, c2, rfl, -⟩ := id HO.out
    clear hrow hb2
    go_wp2
    go_loopw [3, 12] (fun v y wr => ∃ i : Nat, i ≤ P.length ∧ y = .int .i64 i ∧ wr.ownsRow w2.heap.size 9 1 v i ((cvM s P i).map Value.string) ∧ Below w2.heap.size w2 wr) (fun _ y _ => P.length - (intOf y).toNat)
    case atStart => exact ⟨0, Nat.zero_le _, rfl, by rw [cvM_zero]; exact ⟨rfl, .inl ⟨rfl, rfl⟩⟩, Below.refl _ _⟩
    case round =>
      obtain ⟨i, hi, rfl, hrow, hb⟩ := hrel
      have HROW := Lib.hid hrow
      have HBW := Lib.hid hb
      have hB := hb.size
      clear hrow hb
      by_cases hlt : i < P.length
      · have hii : (i : Int) < (P.length : Int) := by omega
        obtain ⟨g1, p1, e1, -, -, hc1, -⟩ := (HO.out.keep HBW.out (Nat.le_refl _)).cell (j := i) hlt
        simp only [Value.slice.injEq] at e1
        obtain ⟨rfl, -, rfl⟩ := e1
        obtain ⟨q, hq, hq1, hq2⟩ := HIN.out (P.getD i 0) (by
          rw [List.getD_eq_getElem?_getD, List.getElem?_eq_getElem hlt]; exact List.getElem_mem _)
        have HL := Lib.hid (cvM_next s P i q hlt hq)
        rw [hq] at hc1
        obtain ⟨j, hj⟩ : ∃ j, q = j + 1 := ⟨q - 1, by omega⟩
        obtain ⟨k, hk⟩ : ∃ k, k = q + 1 := ⟨_, rfl⟩
        have gj : (q : Int) - 1 = (j : Int) := by omega
        have gk : (q : Int) + 1 = (k : Int) := by omega
        have hwj : IntKind.i64.wrap (j : Int) = (j : Int) := IntWalk.i64_in _ (by omega)
        have hwk : IntKind.i64.wrap (k : Int) = (k : Int) := IntWalk.i64_in _ (by omega)
        have hj16 : j ≤ 16 := by omega
        have hk17 : k ≤ 17 := by omega
        have ht := sl_to s j (by omega)
        have hf := sl_fr s k (by omega)
        have HC := Lib.hid (show (s.extract 0 j ++ ⟨#[117, 100]⟩) ++ s.extract k s.size = cvP s q by subst hj; subst hk; rfl)
        have y1 : (s.extract 0 j).size ≤ 16 := by rw [ByteArray.size_extract]; omega
        have y2 : (s.extract k s.size).size ≤ 16 := by rw [ByteArray.size_extract]; omega
        clear hj hk hq hq1 hq2
        generalize s.extract 0 j = X2 at *
        generalize s.extract k s.size = X3 at *
        have zz1 : ¬ 9223372036854775807 < X2.size + (⟨#[117, 100]⟩ : ByteArray).size := by rw [ud_size]; omega
        have zz2 : ¬ 9223372036854775807 < (X2 ++ ⟨#[117, 100]⟩ : ByteArray).size + X3.size := by rw [ByteArray.size_append, ud_size]; omega
        have x1 : ¬ 9223372036854775807 < X2.size + 2 := by omega
        have x2 : ¬ 9223372036854775807 < X2.size + 2 + X3.size := by omega
        go_wp2
        go_region_law (refine stepAppS1 rfl _ _ (by rfl) w2.heap.size _ i (cvM s P i) (by rfl) (World.ownsRow.alloc (row_drew HROW.out) _) _ 1 ((X2 ++ ⟨#[117, 100]⟩) ++ X3) (by rfl) (by first | exact cell_one_at (by simp) | exact cell_one_at rfl | exact cell_one_drew (by simp) | exact cell_one_drew rfl) (by omega) (by first | (simp; omega) | omega | exact Nat.le_trans hB (by simp)) ?_; intro v' w' hown' hg'; have HOW := Lib.hid hown'; have HBG := Lib.hid ((show Below w2.heap.size w2 _ from (by first | exact (below_drewN HBW.out _).alloc hB _ | exact ((HBW.out).alloc hB _).drew | exact ((below_drewN HBW.out 1).alloc hB _).drew)).grown hg' (by first | (simp; omega) | omega) (fun k hk => (World.ownsRow.lt HROW.out k hk).1)); clear hown' hg')
        all_goals go_wp2
        all_goals exact ⟨⟨i + 1, by omega, by simp, by rw [HL.out, ← HC.out]; exact HOW.out, HBG.out⟩, by simp [intOf]; omega⟩
      · obtain rfl : i = P.length := by omega
        go_wp2
        go_ret
        refine ⟨_, rfl, ?_, HB2.out.trans (HBW.out.mono z2)⟩
        rw [HP.out]
        exact (OwnS.of_row HROW.out).wide z2 (Nat.le_refl _)

end Go.Proofs.Ytjjaildejonmfaa
