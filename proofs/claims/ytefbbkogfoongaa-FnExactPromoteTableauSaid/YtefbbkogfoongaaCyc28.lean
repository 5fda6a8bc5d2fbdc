/- The cycle lemma, plain: one good shift, and the way back. -/
import Derived.Test.YtefbbkogfoongaaFact28
namespace Go.Proofs.Ytefbbkogfoongaa
open Go.ChangeShapes Go.WideShapes Go.ChangeAt Go.RowKit
open Go.PlainAid (bt bt_nonneg bt_le get_bt bt_end)
set_option linter.unusedVariables false

theorem df_pref : ∀ (l : List UInt8) (h : Nat), dyckFrom h l = true → udA l = true ∧ (h : Int) + smA l = 0 ∧ ∀ i, 0 ≤ (h : Int) + smA (l.take i) := by
  intro l
  induction l with
  | nil =>
    intro h hd
    rw [df_nil, beq_iff_eq] at hd
    subst hd
    exact ⟨rfl, rfl, fun i => by rw [List.take_nil]; exact Int.le_refl _⟩
  | cons c l ih =>
    intro h hd
    rcases df_letter hd with ⟨e, h2⟩ | ⟨e, h1, h2⟩
    · obtain ⟨a1, a2, a3⟩ := ih _ h2
      refine ⟨by rw [udA_up l (.inl e)]; exact a1, by rw [smA_up l e]; push_cast at a2; omega, fun i => ?_⟩
      cases i with
      | zero => rw [List.take_zero, smA]; omega
      | succ i => rw [List.take_succ_cons, smA_up _ e]; have := a3 i; push_cast at this; omega
    · obtain ⟨a1, a2, a3⟩ := ih _ h2
      refine ⟨by rw [udA_up l (.inr e)]; exact a1, by rw [smA_down l (by omega)]; omega, fun i => ?_⟩
      cases i with
      | zero => rw [List.take_zero, smA]; omega
      | succ i => rw [List.take_succ_cons, smA_down _ (by omega)]; have := a3 i; omega
/-- What a good word is. -/
theorem gd_list {x : ByteArray} (h : gdW x = true) : 0 < x.size ∧ dyck (x.extract 0 (x.size - 1)) = true ∧ x = x.extract 0 (x.size - 1) ++ ⟨#[100]⟩ ∧ ∀ i, i < x.size → 0 ≤ smA (x.data.toList.take i) := by
  unfold gdW at h
  simp only [Bool.and_eq_true, decide_eq_true_eq] at h
  obtain ⟨h0, hd, hb⟩ := h
  have hl : x.data.toList.length = x.size := by simp
  have e1 : (x.extract 0 (x.size - 1)).data.toList = x.data.toList.take (x.size - 1) := by
    rw [ByteArray.data_extract, Array.toList_extract, List.extract_eq_take_drop, List.drop_zero, Nat.sub_zero]
  have h16 := dyck_size hd
  have hd2 := hd
  rw [dyck_short h16, e1] at hd2
  obtain ⟨-, -, hp⟩ := df_pref _ _ hd2
  refine ⟨h0, hd, ?_, fun i hi => ?_⟩
  · apply ByteArray.ext
    apply Array.ext'
    rw [ByteArray.data_append, Array.toList_append, e1]
    have h3 : x.data.toList.drop (x.size - 1) = [100] := by
      rw [List.drop_eq_getElem_cons (by omega), List.drop_of_length_le (by omega)]
      rw [bt_at_or, List.getD_eq_getElem?_getD, List.getElem?_map, List.getElem?_eq_getElem (by omega)] at hb
      congr 1
      apply UInt8.toNat_inj.1
      simp only [Option.map_some, Option.getD_some] at hb
      have : (100 : UInt8).toNat = 100 := rfl
      omega
    have h4 := List.take_append_drop (x.size - 1) x.data.toList
    rw [h3] at h4
    exact h4.symm
  · have := hp i
    rw [List.take_take, Nat.min_eq_left (by omega)] at this
    simpa using this
/-- Not two shifts are good. -/
theorem good_one {s : ByteArray} (h : balB s = true) {j k : Nat} (hjk : j < k) (hk : k < s.size) (gj : gdW (rtS s j) = true) (gk : gdW (rtS s k) = true) : False := by
  obtain ⟨h1, h2, h3⟩ := bal_parts h
  have hl : s.data.toList.length = s.size := by simp
  obtain ⟨-, -, -, pj⟩ := gd_list gj
  obtain ⟨-, -, -, pk⟩ := gd_list gk
  rw [rtS_size s j (by omega), rtS_list] at pj
  rw [rtS_size s k (by omega), rtS_list] at pk
  have a := pj (k - j) (by omega)
  have b := pk (s.size - k + j) (by omega)
  generalize s.data.toList = l at *
  have c := smA_take_add l j (k - j)
  rw [show j + (k - j) = k by omega] at c
  have ea : (rtL l j).take (k - j) = (l.drop j).take (k - j) := by
    unfold rtL
    rw [List.take_append_of_le_length (by rw [List.length_drop]; omega)]
  have eb : (rtL l k).take (s.size - k + j) = l.drop k ++ l.take j := by
    unfold rtL
    rw [List.take_append, List.take_of_length_le (l := l.drop k) (by rw [List.length_drop]; omega), List.length_drop, List.take_take]
    congr 2
    omega
  rw [ea] at a
  rw [eb, smA_app] at b
  have d := smA_app (l.take k) (l.drop k)
  rw [List.take_append_drop, h2] at d
  omega
theorem cg_one {s : ByteArray} (h : balB s = true) : cgP s = 1 ∧ ∃ k : Nat, k < s.size ∧ gsP s = (k : Int) ∧ gdW (rtS s k) = true := by
  obtain ⟨k, hk, hg, hn⟩ := first_good h
  have h1 : ∀ m, k + 1 + m ≤ s.size → gsL s (k + 1 + m) = [(k : Int)] := by
    intro m
    induction m with
    | zero => intro _; rw [Nat.add_zero, gsL_yes s k hg, gsL_nil hn]; rfl
    | succ m ih =>
      intro hm
      rw [show k + 1 + (m + 1) = (k + 1 + m) + 1 by omega, gsL_no s _ ?_, ih (by omega)]
      rcases hb : gdW (rtS s (k + 1 + m)) with _ | _
      · rfl
      · exact absurd (good_one h (show k < k + 1 + m by omega) (by omega) hg hb) id
  have h2 := h1 (s.size - (k + 1)) (by omega)
  rw [show k + 1 + (s.size - (k + 1)) = s.size by omega] at h2
  refine ⟨by unfold cgP; rw [if_pos h, h2]; rfl, k, hk, by unfold gsP; rw [if_pos h, h2]; rfl, hg⟩
theorem rtL_back (l : List UInt8) (k : Nat) (h : k ≤ l.length) : rtL (rtL l k) (l.length - k) = l := by
  unfold rtL
  have hd : (l.drop k).length = l.length - k := List.length_drop
  rw [List.drop_append, List.take_append, hd, Nat.sub_self, List.take_zero, List.drop_zero, List.append_nil, List.drop_of_length_le (by omega), List.nil_append, List.take_of_length_le (l := l.drop k) (by omega), List.take_append_drop]
theorem rtS_ext {a b : ByteArray} (h : a.data.toList = b.data.toList) : a = b := by
  apply ByteArray.ext
  exact Array.ext' h
/-- The way back from the path of a circle. -/
theorem co_back {s : ByteArray} (h : balB s = true) : dyck (dcP s) = true ∧ coOk (dcP s) (((s.size : Int) - gsP s).tmod (s.size : Int)) = true ∧ coP (dcP s) (((s.size : Int) - gsP s).tmod (s.size : Int)) = s := by
  obtain ⟨-, k, hk, hg, hgd⟩ := cg_one h
  obtain ⟨h1, h2, h3⟩ := bal_parts h
  obtain ⟨g0, g1, g2, -⟩ := gd_list hgd
  have hz := rtS_size s k (by omega)
  have hdc : dcP s = (rtS s k).extract 0 (s.size - 1) := by unfold dcP; rw [if_pos h, hg, Int.toNat_natCast]
  rw [hz, ← hdc] at g1 g2
  have hl : s.data.toList.length = s.size := by simp
  by_cases hk0 : k = 0
  · have hr : ((s.size : Int) - gsP s).tmod (s.size : Int) = 0 := by rw [hg, hk0]; simp
    have ho : swOk (dcP s ++ ⟨#[100]⟩) 0 = true := decide_eq_true ⟨by rw [← g2, hz]; exact h3, by omega, .inr rfl⟩
    rw [hr]
    refine ⟨g1, by unfold coOk; rw [g1, ho]; rfl, ?_⟩
    unfold coP swP
    rw [if_pos g1, if_pos ho, ← g2]
    apply rtS_ext
    rw [rtS_list, rtS_list, hk0]
    unfold rtL; simp
  · have hr : ((s.size : Int) - gsP s).tmod (s.size : Int) = ((s.size - k : Nat) : Int) := by
      rw [hg, Int.tmod_eq_emod_of_nonneg (by omega), Int.emod_eq_of_lt (by omega) (by omega)]; omega
    have ho : swOk (dcP s ++ ⟨#[100]⟩) ((s.size - k : Nat) : Int) = true := decide_eq_true ⟨by rw [← g2, hz]; exact h3, by omega, .inl (by rw [← g2, hz]; omega)⟩
    rw [hr]
    refine ⟨g1, by unfold coOk; rw [g1, ho]; rfl, ?_⟩
    unfold coP swP
    rw [if_pos g1, if_pos ho, ← g2, Int.toNat_natCast]
    apply rtS_ext
    rw [rtS_list, rtS_list]
    have := rtL_back s.data.toList k (by omega)
    rw [hl] at this
    exact this
/-- A circle out of a path is balanced. -/
theorem co_bal {s : ByteArray} {k : Int} (h : coOk s k = true) : balB (coP s k) = true := by
  unfold coOk at h
  rw [Bool.and_eq_true] at h
  obtain ⟨hd, ho⟩ := h
  have h16 := dyck_size hd
  have hd2 := hd
  rw [dyck_short h16] at hd2
  obtain ⟨a1, a2, -⟩ := df_pref _ _ hd2
  have hsw := of_decide_eq_true ho
  have hsz : (s ++ (⟨#[100]⟩ : ByteArray)).size = s.size + 1 := by rw [ByteArray.size_append]; rfl
  unfold coP swP
  rw [if_pos hd, if_pos ho]
  have hlist : (s ++ (⟨#[100]⟩ : ByteArray)).data.toList = s.data.toList ++ [100] := by rw [ByteArray.data_append, Array.toList_append]
  have hu : udA (s ++ (⟨#[100]⟩ : ByteArray)).data.toList = true := by rw [hlist, udA_app, a1]; rfl
  have hs : smA (s ++ (⟨#[100]⟩ : ByteArray)).data.toList = -1 := by
    rw [hlist, smA_app]
    have e : smA [100] = -1 := rfl
    omega
  have hle : k.toNat ≤ (s ++ (⟨#[100]⟩ : ByteArray)).size := by rw [hsz] at hsw ⊢; omega
  generalize s ++ (⟨#[100]⟩ : ByteArray) = t at *
  unfold balB
  rw [rtS_list, rtS_size t _ hle, decide_eq_true (show t.size ≤ 17 by omega), Bool.and_true]
  generalize t.data.toList = l at *
  have c := smA_app (l.take k.toNat) (l.drop k.toNat)
  rw [List.take_append_drop, hs] at c
  unfold rtL
  rw [udA_app, udA_drop hu, udA_take hu, smA_app, decide_eq_true (by omega)]; rfl

end Go.Proofs.Ytefbbkogfoongaa
