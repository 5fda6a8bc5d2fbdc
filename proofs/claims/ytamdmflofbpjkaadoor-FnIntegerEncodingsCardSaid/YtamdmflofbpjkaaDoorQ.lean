/- The contracts of both ParseInt. -/
import Derived.Test.YtamdmflofbpjkaaDoorP
import Derived.Laws.RangeAny
import Derived.Deep.QuietTactic
import Derived.BigQuiet
namespace Go.Proofs.YtamdmflofbpjkaaDoor
open Go.ChangeShapes Go.WideShapes Go.ChangeAt Go.RowKit
open Go.PlainAid (bt bt_nonneg bt_le get_bt)
set_option linter.unusedVariables false

def SaysPI (s : ByteArray) (w : World) (e : Ending) (w' : World) : Prop := ∃ (a : Int) (b : Bool), PI s a b ∧ e = .returned (.tuple #[.int .i64 a, .bool b]) ∧ Below w.heap.size w w'

theorem specFI_is (n : Int) (S : ByteArray) (hS : (⟨(Lib.itoa n).toArray⟩ : ByteArray) = S) (w : World) (h0 : -9223372036854775808 ≤ n) (h1 : n ≤ 9223372036854775807) :
    Calls Tryd.prog 19 #[.int .i64 n] w fun e w' => e = .returned (.string S) ∧ Below w.heap.size w w' := by
  rw [← hS]; exact specFI n w h0 h1
theorem implFI_is (n : Int) (S : ByteArray) (hS : (⟨(Lib.itoa n).toArray⟩ : ByteArray) = S) (w : World) (h0 : -9223372036854775808 ≤ n) (h1 : n ≤ 9223372036854775807) (ht : Tab w) :
    Calls Tryd.prog 17 #[.int .i64 n] w fun e w' => e = .returned (.string S) ∧ Below w.heap.size w w' := by
  rw [← hS]; exact implFI n w h0 h1 ht
theorem str_ne {a b : ByteArray} (h : ¬ a = b) : (a.toList != b.toList) = true := by
  rw [bne_iff_ne]
  intro e
  rw [ByteArray.toList_eq, ByteArray.toList_eq] at e
  exact h (ByteArray.ext (Array.toList_inj.1 e))
theorem str_ne2 {a b : ByteArray} (h : ¬ a = b) : (a.toList == b.toList) = false := by
  have := str_ne h
  rw [bne] at this
  simpa using this
theorem head_at {s : ByteArray} (h : 0 < s.size) : s.data.toList.head? = some 45 ↔ bt s 0 = 45 := by
  have h1 := get_bt s 0 h
  have h2 : s.data.toList.head? = some s[0] := by
    rw [List.head?_eq_getElem?, Array.getElem?_toList, Array.getElem?_eq_getElem (show 0 < s.data.size from h)]; rfl
  rw [h2, ← h1]
  constructor
  · intro e
    rw [Option.some.inj e]; rfl
  · intro e
    have : s[0] = 45 := UInt8.toNat_inj.1 (by have : (45 : UInt8).toNat = 45 := rfl; omega)
    rw [this]
theorem head_no {s : ByteArray} (h : s.size = 0) : ¬ s.data.toList.head? = some 45 := by
  have : s.data.toList = [] := List.eq_nil_of_length_eq_zero (by simpa using h)
  rw [this]; simp
theorem step_yes {n k : Nat} {c : UInt8} (h1 : 48 ≤ (c.toNat : Int)) (h2 : (c.toNat : Int) ≤ 57) : step (n, k) c = (n * 10 + (c.toNat - 48), k + 1) := by
  unfold step; rw [if_pos ⟨by omega, by omega⟩]
theorem step_no {n k : Nat} {c : UInt8} (h : ¬ (48 ≤ (c.toNat : Int) ∧ (c.toNat : Int) ≤ 57)) : step (n, k) c = (n, k) := by
  unfold step; rw [if_neg (fun e => h ⟨by have := e.1; omega, by have := e.2; omega⟩)]

theorem pv_num (l : List UInt8) (h : l.length ≤ 11) : (pv l).1 ≤ 100000000000 ∧ (pv l).2 ≤ 11 := by
  have h1 := pv_lt l
  have h2 := pv_cnt l
  have h3 : (10 : Nat) ^ (pv l).2 ≤ 10 ^ 11 := Nat.pow_le_pow_right (by omega) (by omega)
  have h4 : (10 : Nat) ^ 11 = 100000000000 := by decide
  omega

set_option maxRecDepth 100000 in
set_option maxHeartbeats 1600000 in
theorem specPI (s : ByteArray) (w : World) (hs : s.size ≤ 1048576) : Calls Tryd.prog 20 #[.string s] w (SaysPI s w) := by
  go_enter Tryd.func20, Tryd.ntmps20
  go_wp2
  go_loop [4, 5, 6] (fun x y z => ∃ i : Nat, i ≤ s.size ∧ i ≤ 11 ∧ z = .int .i64 i ∧ x = .int .i64 ((pv (s.data.toList.take i)).1 : Nat) ∧ y = .int .i64 ((pv (s.data.toList.take i)).2 : Nat)) (fun _ _ z => 11 - (intOf z).toNat)
  case atStart => exact ⟨0, by omega, by omega, rfl, rfl, rfl⟩
  case round =>
    obtain ⟨i, hi, h11, rfl, rfl, rfl⟩ := hrel
    have hb := pv_num (s.data.toList.take i) (by have := List.length_take_le i s.data.toList; omega)
    obtain ⟨n, hn, HN⟩ : ∃ n, (pv (s.data.toList.take i)).1 = n ∧ Hid ((pv (s.data.toList.take i)).1 = n) := ⟨_, rfl, rfl⟩
    obtain ⟨k, hk, HK⟩ : ∃ n, (pv (s.data.toList.take i)).2 = n ∧ Hid ((pv (s.data.toList.take i)).2 = n) := ⟨_, rfl, rfl⟩
    rw [hn, hk] at hb ⊢
    clear hn hk
    obtain ⟨hb1, hb2⟩ := hb
    by_cases hlt : i < s.size ∧ i < 11
    · obtain ⟨h1, h2⟩ := hlt
      have HS := Lib.hid (show pv (s.data.toList.take (i + 1)) = step (n, k) s[i] by rw [take_snoc s i h1, pv_snoc, ← HN.out, ← HK.out])
      have hbt := get_bt s i h1
      have hb0 := bt_nonneg s i
      have hb255 := bt_le s i
      by_cases hd : 48 ≤ bt s i
      · by_cases hd2 : bt s i ≤ 57
        · go_wp2
          have hss := step_yes (n := n) (k := k) (c := s[i]) (by omega) (by omega)
          refine ⟨⟨i + 1, by omega, by omega, by simp, ?_, ?_⟩, by simp [intOf]; omega⟩
          · rw [HS.out, hss, ← hbt]; simp only; congr 1; omega
          · rw [HS.out, hss]; simp
        · have hd2' : decide (bt s i ≤ 57) = false := by simp; omega
          go_wp2
          have hss := step_no (n := n) (k := k) (c := s[i]) (by omega)
          refine ⟨⟨i + 1, by omega, by omega, by simp, ?_, ?_⟩, by simp [intOf]; omega⟩
          · rw [HS.out, hss]
          · rw [HS.out, hss]
      · go_wp2
        have hss := step_no (n := n) (k := k) (c := s[i]) (by omega)
        refine ⟨⟨i + 1, by omega, by omega, by simp, ?_, ?_⟩, by simp [intOf]; omega⟩
        · rw [HS.out, hss]
        · rw [HS.out, hss]
    · by_cases hz : s.size = 0
      · have hz' : (s.size : Int) ≤ 0 := by omega
        have HH := Lib.hid (head_no hz)
        clear hz
        by_cases hsz : i < s.size
        · have hi11 : ¬ i < 11 := fun h => hlt ⟨hsz, h⟩
          have hlong : (10 : Int) < (s.size : Int) := by omega
          clear hlt
          by_cases hk9 : 9 < k
          · go_wp2
            all_goals go_ret2
            all_goals exact ⟨0, false, PI_long (fun h => by have := h.1; omega), rfl, Below.refl _ _⟩
          · go_wp2
            all_goals go_ret2
            all_goals exact ⟨0, false, PI_long (fun h => by have := h.1; omega), rfl, Below.refl _ _⟩
        · have hie : i = s.size := by omega
          have HE := Lib.hid hie
          clear hlt hie
          have hall : s.data.toList.take i = s.data.toList := by rw [HE.out]; exact List.take_of_length_le (by simp)
          rw [hall] at HN HK
          clear hall
          by_cases hk9 : 9 < k
          · go_wp2
            all_goals go_ret2
            all_goals exact ⟨0, false, PI_long (fun h => by have := h.2; rw [HK.out] at this; omega), rfl, Below.refl _ _⟩
          · by_cases h10 : 10 < s.size
            · have hlong : (10 : Int) < (s.size : Int) := by omega
              go_wp2
              all_goals go_ret2
              all_goals exact ⟨0, false, PI_long (fun h => by have := h.1; omega), rfl, Below.refl _ _⟩
            · have hshort : (s.size : Int) ≤ 10 := by omega
              have hk9' : (k : Int) ≤ 9 := by omega
              have hpar : parse s.data.toList = (n : Int) := by unfold parse; rw [if_neg HH.out, HN.out]
              have HP := Lib.hid hpar
              clear hpar
              by_cases he : (⟨(Lib.itoa ((n : Int))).toArray⟩ : ByteArray) = s
              · have HEQ := Lib.hid he
                clear he
                go_wp2_with fail
                (with_reducible refine (specFI_is ((n : Int)) s HEQ.out _ (by omega) (by omega)).mono ?_)
                rintro e w' ⟨rfl, hb⟩
                go_wp2
                go_ret2
                exact ⟨_, true, PI_yes HP.out (by rw [HK.out]; omega) HEQ.out, rfl, hb⟩
              · obtain ⟨S, hS⟩ : ∃ S, (⟨(Lib.itoa ((n : Int))).toArray⟩ : ByteArray) = S := ⟨_, rfl⟩
                have HEN := Lib.hid he
                have hne := str_ne (show ¬ S = s from hS ▸ he)
                have hne2 := str_ne2 (show ¬ S = s from hS ▸ he)
                have HS := Lib.hid hS
                clear he hS
                go_wp2_with fail
                (with_reducible refine (specFI_is ((n : Int)) S HS.out _ (by omega) (by omega)).mono ?_)
                rintro e w' ⟨rfl, hb⟩
                go_wp2
                go_ret2
                exact ⟨0, false, PI_no HP.out HEN.out, rfl, hb⟩
      · have hpos : (0 : Int) < (s.size : Int) := by omega
        have hbt := get_bt s 0 (by omega)
        by_cases hm : bt s 0 = 45
        · have hm1 : (bt s 0 == 45) = true := by simp [hm]
          have HH := Lib.hid ((head_at (by omega)).2 hm)
          clear hm hz
          by_cases hsz : i < s.size
          · have hi11 : ¬ i < 11 := fun h => hlt ⟨hsz, h⟩
            have hlong : (10 : Int) < (s.size : Int) := by omega
            clear hlt
            by_cases hk9 : 9 < k
            · go_wp2
              all_goals go_ret2
              all_goals exact ⟨0, false, PI_long (fun h => by have := h.1; omega), rfl, Below.refl _ _⟩
            · go_wp2
              all_goals go_ret2
              all_goals exact ⟨0, false, PI_long (fun h => by have := h.1; omega), rfl, Below.refl _ _⟩
          · have hie : i = s.size := by omega
            have HE := Lib.hid hie
            clear hlt hie
            have hall : s.data.toList.take i = s.data.toList := by rw [HE.out]; exact List.take_of_length_le (by simp)
            rw [hall] at HN HK
            clear hall
            by_cases hk9 : 9 < k
            · go_wp2
              all_goals go_ret2
              all_goals exact ⟨0, false, PI_long (fun h => by have := h.2; rw [HK.out] at this; omega), rfl, Below.refl _ _⟩
            · by_cases h10 : 10 < s.size
              · have hlong : (10 : Int) < (s.size : Int) := by omega
                go_wp2
                all_goals go_ret2
                all_goals exact ⟨0, false, PI_long (fun h => by have := h.1; omega), rfl, Below.refl _ _⟩
              · have hshort : (s.size : Int) ≤ 10 := by omega
                have hk9' : (k : Int) ≤ 9 := by omega
                have hpar : parse s.data.toList = -(n : Int) := by unfold parse; rw [if_pos HH.out, HN.out]
                have HP := Lib.hid hpar
                clear hpar
                by_cases he : (⟨(Lib.itoa (-(n : Int))).toArray⟩ : ByteArray) = s
                · have HEQ := Lib.hid he
                  clear he
                  go_wp2_with fail
                  (with_reducible refine (specFI_is (-(n : Int)) s HEQ.out _ (by omega) (by omega)).mono ?_)
                  rintro e w' ⟨rfl, hb⟩
                  go_wp2
                  go_ret2
                  exact ⟨_, true, PI_yes HP.out (by rw [HK.out]; omega) HEQ.out, rfl, hb⟩
                · obtain ⟨S, hS⟩ : ∃ S, (⟨(Lib.itoa (-(n : Int))).toArray⟩ : ByteArray) = S := ⟨_, rfl⟩
                  have HEN := Lib.hid he
                  have hne := str_ne (show ¬ S = s from hS ▸ he)
                  have hne2 := str_ne2 (show ¬ S = s from hS ▸ he)
                  have HS := Lib.hid hS
                  clear he hS
                  go_wp2_with fail
                  (with_reducible refine (specFI_is (-(n : Int)) S HS.out _ (by omega) (by omega)).mono ?_)
                  rintro e w' ⟨rfl, hb⟩
                  go_wp2
                  go_ret2
                  exact ⟨0, false, PI_no HP.out HEN.out, rfl, hb⟩
        · have hm1 : (bt s 0 == 45) = false := by simp [hm]
          have HH := Lib.hid (fun e => hm ((head_at (by omega)).1 e))
          clear hm hz
          by_cases hsz : i < s.size
          · have hi11 : ¬ i < 11 := fun h => hlt ⟨hsz, h⟩
            have hlong : (10 : Int) < (s.size : Int) := by omega
            clear hlt
            by_cases hk9 : 9 < k
            · go_wp2
              all_goals go_ret2
              all_goals exact ⟨0, false, PI_long (fun h => by have := h.1; omega), rfl, Below.refl _ _⟩
            · go_wp2
              all_goals go_ret2
              all_goals exact ⟨0, false, PI_long (fun h => by have := h.1; omega), rfl, Below.refl _ _⟩
          · have hie : i = s.size := by omega
            have HE := Lib.hid hie
            clear hlt hie
            have hall : s.data.toList.take i = s.data.toList := by rw [HE.out]; exact List.take_of_length_le (by simp)
            rw [hall] at HN HK
            clear hall
            by_cases hk9 : 9 < k
            · go_wp2
              all_goals go_ret2
              all_goals exact ⟨0, false, PI_long (fun h => by have := h.2; rw [HK.out] at this; omega), rfl, Below.refl _ _⟩
            · by_cases h10 : 10 < s.size
              · have hlong : (10 : Int) < (s.size : Int) := by omega
                go_wp2
                all_goals go_ret2
                all_goals exact ⟨0, false, PI_long (fun h => by have := h.1; omega), rfl, Below.refl _ _⟩
              · have hshort : (s.size : Int) ≤ 10 := by omega
                have hk9' : (k : Int) ≤ 9 := by omega
                have hpar : parse s.data.toList = (n : Int) := by unfold parse; rw [if_neg HH.out, HN.out]
                have HP := Lib.hid hpar
                clear hpar
                by_cases he : (⟨(Lib.itoa ((n : Int))).toArray⟩ : ByteArray) = s
                · have HEQ := Lib.hid he
                  clear he
                  go_wp2_with fail
                  (with_reducible refine (specFI_is ((n : Int)) s HEQ.out _ (by omega) (by omega)).mono ?_)
                  rintro e w' ⟨rfl, hb⟩
                  go_wp2
                  go_ret2
                  exact ⟨_, true, PI_yes HP.out (by rw [HK.out]; omega) HEQ.out, rfl, hb⟩
                · obtain ⟨S, hS⟩ : ∃ S, (⟨(Lib.itoa ((n : Int))).toArray⟩ : ByteArray) = S := ⟨_, rfl⟩
                  have HEN := Lib.hid he
                  have hne := str_ne (show ¬ S = s from hS ▸ he)
                  have hne2 := str_ne2 (show ¬ S = s from hS ▸ he)
                  have HS := Lib.hid hS
                  clear he hS
                  go_wp2_with fail
                  (with_reducible refine (specFI_is ((n : Int)) S HS.out _ (by omega) (by omega)).mono ?_)
                  rintro e w' ⟨rfl, hb⟩
                  go_wp2
                  go_ret2
                  exact ⟨0, false, PI_no HP.out HEN.out, rfl, hb⟩

end Go.Proofs.YtamdmflofbpjkaaDoor
