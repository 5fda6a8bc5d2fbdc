/- The contract of the program's ParseInt. -/
import Derived.Test.YtamdmflofbpjkaaDoorQ
namespace Go.Proofs.YtamdmflofbpjkaaDoor
open Go.ChangeShapes Go.WideShapes Go.ChangeAt Go.RowKit
open Go.PlainAid (bt bt_nonneg bt_le get_bt)
set_option linter.unusedVariables false

theorem tail_is (l : List UInt8) : Lib.trimPrefix l [45] = tail l := by
  cases l with
  | nil => rfl
  | cons c l =>
    unfold Lib.trimPrefix Lib.hasPrefix tail
    by_cases h : c = 45
    · subst h; simp [List.isPrefixOf]
    · have h2 : ¬ (45 : UInt8) = c := fun e => h e.symm
      simp [List.isPrefixOf, h, h2]
theorem trimC (s T : ByteArray) (hT : (⟨(tail s.data.toList).toArray⟩ : ByteArray) = T) (w : World) :
    Calls Tryd.prog 29 #[.string s, .string ⟨#[45]⟩] w fun e w' => e = .returned (.string T) ∧ w = w' := by
  refine (Tryd.strings_TrimPrefix s ⟨#[45]⟩ w).mono ?_
  rintro e w' ⟨rfl, rfl⟩
  refine ⟨ret_str ?_, rfl⟩
  rw [← hT, ← tail_is]
theorem tail_parse {l : List UInt8} : (pv (tail l)).1 = (pv l).1 ∧ (pv l).2 ≤ (tail l).length ∧ (l.head? = some 45 → (tail l).length < l.length) ∧ (¬ l.head? = some 45 → (tail l).length = l.length) := by
  cases l with
  | nil => simp [tail, pv]
  | cons c l =>
    by_cases h : c = 45
    · subst h
      have e : tail (45 :: l) = l := by simp [tail]
      rw [e, pv_minus]
      exact ⟨rfl, pv_cnt l, by simp, by simp⟩
    · have e : tail (c :: l) = c :: l := by simp [tail, h]
      rw [e]
      exact ⟨rfl, pv_cnt _, by simp [h], by simp⟩
theorem isDig_int (c : UInt8) : isDig c ↔ 48 ≤ (c.toNat : Int) ∧ (c.toNat : Int) ≤ 57 := by unfold isDig; omega

set_option maxRecDepth 100000 in
set_option maxHeartbeats 1600000 in
theorem implPI (s : ByteArray) (w : World) (hs : s.size ≤ 1048576) (ht : Tab w) : Calls Tryd.prog 18 #[.string s] w (SaysPI s w) := by
  obtain ⟨T, hT⟩ : ∃ T, (⟨(tail s.data.toList).toArray⟩ : ByteArray) = T := ⟨_, rfl⟩
  have hTl : T.data.toList = tail s.data.toList := by rw [← hT]
  have hTs : T.size = (tail s.data.toList).length := by rw [← hTl]; simp
  have HT := Lib.hid ht
  have HTT := Lib.hid hT
  have HTL := Lib.hid hTl
  have HTS := Lib.hid hTs
  have hts : T.size ≤ 1048576 := by
    have h1 := @tail_parse s.data.toList
    have h2 : s.data.toList.length = s.size := by simp
    by_cases h : s.data.toList.head? = some 45
    · have := h1.2.2.1 h; omega
    · have := h1.2.2.2 h; omega
  clear ht hT hTl hTs
  by_cases h9 : 9 < T.size
  · go_enter Tryd.func18, Tryd.ntmps18
    go_wp2_with fail
    (with_reducible refine (trimC s T HTT.out _).mono ?_)
    rintro e w' ⟨rfl, rfl⟩
    go_wp2
    go_ret2
    exact ⟨0, false, PI_tail (by rw [← HTS.out]; exact h9), rfl, Below.refl _ _⟩
  · go_enter Tryd.func18, Tryd.ntmps18
    go_wp2_with fail
    (with_reducible refine (trimC s T HTT.out _).mono ?_)
    rintro e w' ⟨rfl, rfl⟩
    go_wp2
    go_loopw [5] (fun x wr => ∃ k : Nat, k ≤ T.size ∧ wr = w.iter T k ∧ x = .int .i64 ((pv (T.data.toList.take k)).1 : Nat)) (fun _ wr => T.size - wr.iterPos w.heap.size)
    case atStart => exact ⟨0, Nat.zero_le _, rfl, rfl⟩
    case round =>
      obtain ⟨k, hk, rfl, rfl⟩ := hrel
      have hb := pv_num (T.data.toList.take k) (by have := List.length_take_le k T.data.toList; omega)
      obtain ⟨n, hn, HN⟩ : ∃ n, (pv (T.data.toList.take k)).1 = n ∧ Hid ((pv (T.data.toList.take k)).1 = n) := ⟨_, rfl, rfl⟩
      rw [hn] at hb ⊢
      clear hn
      have hb1 := hb.1
      clear hb
      by_cases hlt : k < T.size
      · by_cases hd : isDig T[k]
        · have hd2 := (isDig_int _).1 hd
          have HS := Lib.hid (show (pv (T.data.toList.take (k + 1))).1 = n * 10 + (T[k].toNat - 48) by rw [take_snoc T k hlt, pv_snoc, step, if_pos hd, HN.out])
          have hnx := fun ty => run_next_ascii (P := Tryd.prog) w T k ty hlt (by have := hd.2; omega)
          obtain ⟨d1, d2⟩ := hd2
          clear hd
          go_wp2
          refine ⟨⟨k + 1, by omega, rfl, ?_⟩, by simp; omega⟩
          rw [HS.out]; congr 1; omega
        · have hmem : T[k] ∈ tail s.data.toList := by
            rw [← HTL.out]
            have : T.data.toList[k]'(by simpa using hlt) = T[k] := by rw [Array.getElem_toList]; rfl
            rw [← this]; exact List.getElem_mem _
          have HPI := Lib.hid (PI_letter hmem hd)
          have hnx := fun ty => run_next_any (P := Tryd.prog) w T k ty hlt
          obtain ⟨r, hr1, hr2⟩ : ∃ r : Int, ((Utf8.decode T k).1 : Int) = r ∧ (r < 48 ∨ 57 < r) := by
            refine ⟨_, rfl, ?_⟩
            by_cases ha : T[k].toNat < 128
            · rw [decode_ascii T k hlt ha]
              have := fun e => hd ((isDig_int _).2 e)
              by_cases h1 : ((T[k].toNat : Nat) : Int) < 48
              · exact .inl h1
              · right
                by_cases h2 : ((T[k].toNat : Nat) : Int) ≤ 57
                · exact absurd ⟨by omega, h2⟩ this
                · omega
            · have := (decode_high T k hlt (by omega)).1
              right; omega
          rw [hr1] at hnx
          clear hr1 hd hmem
          by_cases hr3 : r < 48
          · go_wp2
            go_ret2
            exact ⟨0, false, HPI.out, rfl, (Below.refl _ _).alloc (Nat.le_refl _) _⟩
          · have hr4 : 57 < r := by omega
            clear hr2
            go_wp2
            go_ret2
            exact ⟨0, false, HPI.out, rfl, (Below.refl _ _).alloc (Nat.le_refl _) _⟩
      · have hnx := fun ty => run_next_end (P := Tryd.prog) w T k ty hlt
        have hke : k = T.size := by omega
        have HN2 := Lib.hid (show n = (pv s.data.toList).1 by
          rw [← HN.out, hke, List.take_of_length_le (by simp), HTL.out]; exact tail_parse.1)
        have HK9 := Lib.hid (show (pv s.data.toList).2 ≤ 9 by have := (@tail_parse s.data.toList).2.1; have := HTS.out; omega)
        have hbi : Below w.heap.size w (w.iter T k) := (Below.refl _ _).alloc (Nat.le_refl _) _
        have HTI := Lib.hid (HT.out.below hbi HT.out.lt)
        have hlen : s.data.toList.length = s.size := by simp
        clear hke
        by_cases hh : s.data.toList.head? = some 45
        · have hlt2 : (T.size : Int) < (s.size : Int) := by have := (@tail_parse s.data.toList).2.2.1 hh; have := HTS.out; omega
          have HH := Lib.hid hh
          clear hh hlen
          have hpar : parse s.data.toList = -(n : Int) := by unfold parse; rw [if_pos HH.out, ← HN2.out]
          have HP := Lib.hid hpar
          clear hpar
          by_cases he : (⟨(Lib.itoa (-(n : Int))).toArray⟩ : ByteArray) = s
          · have HEQ := Lib.hid he
            clear he
            go_wp2_with fail
            (with_reducible refine (implFI_is (-(n : Int)) s HEQ.out _ (by omega) (by omega) HTI.out).mono ?_)
            rintro e w' ⟨rfl, hb⟩
            go_wp2
            go_ret2
            exact ⟨_, true, PI_yes HP.out HK9.out HEQ.out, rfl, hbi.trans (hb.mono hbi.size)⟩
          · obtain ⟨S, hS⟩ : ∃ S, (⟨(Lib.itoa (-(n : Int))).toArray⟩ : ByteArray) = S := ⟨_, rfl⟩
            have HEN := Lib.hid he
            have hne := str_ne (show ¬ S = s from hS ▸ he)
            have hne2 := str_ne2 (show ¬ S = s from hS ▸ he)
            have HS := Lib.hid hS
            clear he hS
            go_wp2_with fail
            (with_reducible refine (implFI_is (-(n : Int)) S HS.out _ (by omega) (by omega) HTI.out).mono ?_)
            rintro e w' ⟨rfl, hb⟩
            go_wp2
            go_ret2
            exact ⟨0, false, PI_no HP.out HEN.out, rfl, hbi.trans (hb.mono hbi.size)⟩
        · have hlt2 : ¬ (T.size : Int) < (s.size : Int) := by have := (@tail_parse s.data.toList).2.2.2 hh; have := HTS.out; omega
          have HH := Lib.hid hh
          clear hh hlen
          have hpar : parse s.data.toList = (n : Int) := by unfold parse; rw [if_neg HH.out, ← HN2.out]
          have HP := Lib.hid hpar
          clear hpar
          by_cases he : (⟨(Lib.itoa ((n : Int))).toArray⟩ : ByteArray) = s
          · have HEQ := Lib.hid he
            clear he
            go_wp2_with fail
            (with_reducible refine (implFI_is ((n : Int)) s HEQ.out _ (by omega) (by omega) HTI.out).mono ?_)
            rintro e w' ⟨rfl, hb⟩
            go_wp2
            go_ret2
            exact ⟨_, true, PI_yes HP.out HK9.out HEQ.out, rfl, hbi.trans (hb.mono hbi.size)⟩
          · obtain ⟨S, hS⟩ : ∃ S, (⟨(Lib.itoa ((n : Int))).toArray⟩ : ByteArray) = S := ⟨_, rfl⟩
            have HEN := Lib.hid he
            have hne := str_ne (show ¬ S = s from hS ▸ he)
            have hne2 := str_ne2 (show ¬ S = s from hS ▸ he)
            have HS := Lib.hid hS
            clear he hS
            go_wp2_with fail
            (with_reducible refine (implFI_is ((n : Int)) S HS.out _ (by omega) (by omega) HTI.out).mono ?_)
            rintro e w' ⟨rfl, hb⟩
            go_wp2
            go_ret2
            exact ⟨0, false, PI_no HP.out HEN.out, rfl, hbi.trans (hb.mono hbi.size)⟩

end Go.Proofs.YtamdmflofbpjkaaDoor
