/- The facts of FnPaths about the words that are drawn. -/
import Derived.Test.YtckpojjjodgonaaPlainG
import Derived.Test.YtckpojjjodgonaaDrawP
import Derived.Test.YtckpojjjodgonaaImpl2H
namespace Go.Proofs.Ytckpojjjodgonaa
open Go.ChangeShapes Go.WideShapes Go.ChangeAt Go.RowKit
open Go.PlainAid (bt bt_nonneg bt_le get_bt)
set_option linter.unusedVariables false

theorem okPath_all {s : ByteArray} (hw : Word s) (hd : dyck s = true) : okPath s.data.toList = true := by
  have hl : s.data.toList.length = s.size := by simp
  rcases hw with h | rfl | rfl
  · rw [dyck_short (by omega)] at hd
    have hm := enumP_all _ _ hd
    rw [hl] at hm
    by_cases h12 : s.size < 12
    · exact List.all_eq_true.1 (List.all_eq_true.1 ok0 s.size (by simpa using h12)) _ hm
    · by_cases h2 : s.size = 12
      · rw [h2] at hm; exact List.all_eq_true.1 ok6 _ hm
      · rw [show s.size = 13 by omega] at hm; exact List.all_eq_true.1 ok13 _ hm
  · have := dyck_size hd
    exact absurd this (by decide)
  · exact ok8
theorem bytes_eta (s : ByteArray) : (⟨s.data.toList.toArray⟩ : ByteArray) = s := by
  apply ByteArray.ext
  simp
theorem str_of_list {a b : ByteArray} (h : a.data.toList = b.data.toList) : a = b := ByteArray.ext (Array.toList_inj.1 h)
/-- What is known of a path that is drawn. -/
structure PathFacts (s : ByteArray) : Prop where
  join : 0 < s.size → joinOk (firstA s) (firstB s) = true ∧ joinP (firstA s) (firstB s) = s ∧ areaP s = areaP (firstA s) + sizeP (firstA s) + areaP (firstB s) ∧ returnsP s = 1 + returnsP (firstB s) ∧ (0 ≤ areaP (firstA s) ∧ areaP (firstA s) ≤ 1000 ∧ 0 ≤ sizeP (firstA s) ∧ sizeP (firstA s) ≤ 1000 ∧ 0 ≤ areaP (firstB s) ∧ areaP (firstB s) ≤ 1000 ∧ 0 ≤ returnsP (firstB s) ∧ returnsP (firstB s) ≤ 1000)
  one : ∀ p ∈ primesP s, returnsP p = 1 ∧ p.size ≤ 16
  cat : catS (primesP s) = s
  len : ((primesP s).length : Int) = returnsP s
  peaks : peaksP (reverseP s) = peaksP s
  area : areaP (reverseP s) = areaP s
theorem facts {s : ByteArray} (hw : Word s) (hd : dyck s = true) : PathFacts s := by
  have h := okPath_all hw hd
  unfold okPath at h
  simp only [bytes_eta, Bool.and_eq_true, Bool.or_eq_true, List.all_eq_true, beq_iff_eq, decide_eq_true_eq] at h
  obtain ⟨⟨⟨⟨⟨h1, h2⟩, h3⟩, h4⟩, h5⟩, h6⟩ := h
  refine ⟨fun h0 => ?_, h2, str_of_list h3, h4, h5, h6⟩
  rcases h1 with h1 | ⟨⟨⟨⟨a, b⟩, c⟩, d⟩, e⟩
  · rw [List.isEmpty_iff] at h1
    have : s.data.toList.length = s.size := by simp
    rw [h1] at this
    simp at this
    omega
  · exact ⟨a, str_of_list b, c, d, e⟩
/-- The heights of a path give it back; those of no path are no heights. -/
theorem poh_heights {s : ByteArray} (hd : dyck s = true) : pohOk (heightsP s) = true ∧ pohP (heightsP s) = s := by
  have hlen : (heightsP s).length = s.size + 1 := by rw [heightsP_yes hd, hsL_len]; simp
  have e : dirW (heightsP s) = s := by
    refine ByteArray.ext (Array.ext ?_ ?_)
    · show (dirW (heightsP s)).size = s.size
      rw [dirW_size, hlen]; omega
    · intro i h1 h2
      have hs : i < s.size := h2
      have hd1 : i < (dirW (heightsP s)).size := h1
      show (dirW (heightsP s))[i] = s[i]
      have hup := dir_up hd1
      have ha := dirW_at (heightsP s) i hd1
      rw [hAt_list hd rfl, hAt_list hd rfl] at hup
      rcases dyck_letter hd i hs with e1 | e1
      · have := hAt_up s i hs e1
        have := hup.2 (by omega)
        exact UInt8.toNat_inj.1 (by omega)
      · have hdn := hAt_down s i hs (by omega)
        have hne : (dirW (heightsP s))[i].toNat ≠ 117 := fun h => by have := hup.1 h; omega
        have h100 : stepD (heightsP s) i = 117 ∨ stepD (heightsP s) i = 100 := by unfold stepD; split; exact .inl rfl; exact .inr rfl
        rw [← ha] at h100
        rcases h100 with h | h
        · exact absurd (by rw [h]; rfl) hne
        · exact UInt8.toNat_inj.1 (by rw [h, e1]; rfl)
  obtain ⟨h1, h2⟩ := poh_eq (xs := heightsP s) (by omega) (by rw [e])
  obtain ⟨a, b⟩ := poh_yes h1
  exact ⟨a, by rw [b, h2, e]⟩
theorem poh_none {s : ByteArray} (hd : dyck s = false) : heightsP s = [] ∧ pohOk [] = false ∧ pohP [] = ⟨#[]⟩ := by
  refine ⟨heightsP_no hd, poh_no ?_⟩
  intro h
  exact absurd h.2.1 (by simp)
theorem no_path {s : ByteArray} (hd : dyck s = false) : firstOk s = false ∧ firstA s = ⟨#[]⟩ ∧ firstB s = ⟨#[]⟩ ∧ primesP s = [] ∧ reverseP s = ⟨#[]⟩ := by
  have h : ¬ (dyck s = true ∧ 0 < s.size) := fun h => by rw [hd] at h; cases h.1
  exact ⟨decide_eq_false h, if_neg h, if_neg h, primesF_no _ _ h, if_neg (by rw [hd]; simp)⟩

end Go.Proofs.Ytckpojjjodgonaa
