/- The program's Avoiders. -/
import Derived.Test.YtamepojgpeblpaaScG31
import Derived.Test.YtamepojgpeblpaaImpl31A
import Derived.Test.YtamepojgpeblpaaCopy31
namespace Go.Proofs.Ytamepojgpeblpaa
open Go.ChangeShapes Go.WideShapes Go.ChangeAt Go.RowKit
set_option linter.unusedVariables false

theorem ownI_at {w : World} {lo hi g n c : Nat} {xs : List Int} (h : OwnI w lo hi (.slice (some ⟨g, 0, none⟩) n c) xs) : OwnI w g (g + 1) (.slice (some ⟨g, 0, none⟩) n c) xs := by
  obtain ⟨A, cap, e, h⟩ := h
  refine ⟨A, cap, e, ?_⟩
  rcases h with h | ⟨g', C, h1, h2, h3, h4⟩
  · exact .inl h
  · subst h3
    simp only [Value.slice.injEq, Option.some.injEq, Addr.mk.injEq] at e
    obtain ⟨⟨rfl, -⟩, -⟩ := e
    exact .inr ⟨g, C, Nat.le_refl _, Nat.lt_succ_self _, rfl, h4⟩
set_option maxRecDepth 100000 in
set_option maxHeartbeats 1600000 in
theorem ascendingL (n : Nat) (w : World) (hn : n ≤ 1048576) :
    Calls Try.prog 61 #[.int .i64 (n : Int)] w fun e w' => ∃ g, w.heap.size ≤ g ∧ e = .returned (.slice (some ⟨g, 0, none⟩) n n) ∧ g < w'.heap.size ∧ OwnI w' w.heap.size w'.heap.size (.slice (some ⟨g, 0, none⟩) n n) (asL n) ∧ Below w.heap.size w w' := by
  obtain ⟨i0, hi0, hz0, hz1, hz2⟩ := info_parts info3
  go_enter Try.func61, Try.ntmps61
  go_wp2_with (at_make; go_must (refine wpList_make_full _ rfl _ _ 22 rfl w.heap.size 3 i0 (.int .i64 0) 1 Try.underlying22 hi0 hz0 hz1 .i64 .i64 (n : Int) (n : Int) n rfl rfl rfl rfl (by rw [hz2]; omega) (by unfold maxLen; omega) (Nat.le_refl _) ?_); intro w2 hown1 hgrow1)
  have HTB := Lib.hid (TbR.made hown1)
  have HB2 := Lib.hid ((Below.refl w.heap.size w).grown hgrow1 (Nat.le_refl _) (fun k hk => by cases hk))
  clear hown1 hgrow1
  go_loopw [9] (fun y wr => ∃ i : Nat, i ≤ n ∧ y = .int .i64 i ∧ TbR wr w.heap.size (asP n i) ∧ Below w.heap.size w wr) (fun y _ => n - (intOf y).toNat)
  case atStart => exact ⟨0, Nat.zero_le _, rfl, by rw [asP_zero]; exact HTB.out, HB2.out⟩
  case round =>
    obtain ⟨i, hi1, rfl, htb, hb⟩ := hrel
    have HT := Lib.hid htb
    have HB := Lib.hid hb
    clear htb hb
    by_cases hlt : i < n
    · have hii : (i : Int) < (n : Int) := by omega
      have HSU := Lib.hid (asP_step hlt)
      obtain ⟨hc2, hf2⟩ := HT.out.cell (j := i) (by rw [asP_len]; exact hlt)
      generalize (asP n i).getD i 0 = z0 at hc2
      go_wp2
      go_roundw
      case rel => exact ⟨i + 1, by omega, by simp, by rw [HSU.out]; exact HT.out.set _ _, HB.out.setCell (p := ⟨w.heap.size, i, none⟩) (Nat.le_refl _) _⟩
      case measure => simp [intOf]; omega
    · obtain rfl : i = n := by omega
      have HR := Lib.hid (HT.out.own (Nat.le_refl _) i)
      rw [asP_len, asP_all] at HR
      go_wp2
      go_ret
      exact ⟨_, Nat.le_refl _, rfl, HT.out.lt, HR.out, HB.out⟩

set_option maxRecDepth 100000 in
set_option maxHeartbeats 3200000 in
theorem avoidersI231 (a : Nat) (s : ByteArray) (w : World) (ha5 : a ≤ 5) (b1 : (s.toList == [50, 51, 49]) = true) : Calls Try.prog 39 #[.int .i64 (a : Int), .string s] w fun e w' => ∃ v vs, e = .returned (.tuple #[v, .bool true]) ∧ Tb w' w.heap.size v vs (avS (pmLs a) (conB r231) (pmLs a).length) ∧ Below w.heap.size w w' := by
  have b2 : (s.toList = [50, 51, 49]) = True := eq_true (by simpa using b1)
  have g1 : ¬ ((a : Int) < 0) := by omega
  have g2 : ¬ ((5 : Int) < (a : Int)) := by omega
  have d1 : decide ((a : Int) < 0) = false := decide_eq_false g1
  have d2 : decide ((5 : Int) < (a : Int)) = false := decide_eq_false g2
  obtain ⟨f1, f2, f3⟩ := al_first a (by omega)
  have HF := Lib.hid f1
  have HNX := Lib.hid (al_next a (by omega))
  have HLA := Lib.hid (al_last a (by omega))
  have HLE := Lib.hid (al_len a (by omega))
  have HSM := Lib.hid (fun k => avS_len (pmLs a) (conB r231) k)
  have HCS := Lib.hid (fun k => show avS (pmLs a) (conB r231) (k + 1) = avS (pmLs a) (conB r231) k ++ if conB r231 ((pmLs a).getD k []) = true then [] else [(pmLs a).getD k []] from rfl)
  clear f1
  generalize pmLs a = L at *
  go_enter Try.func39, Try.ntmps39
  go_wp2
  refine scope_ghost 0 (fun n a' w' => ∃ (g k : Nat) (v8 : Value) (vs : List Value) (u22 u23 u24 u25 u26 u27 u28 u29 u30 u31 u32 : Value), a' = { tmps := #[.int .i64 (a : Int), .string s, undef, undef, .slice none 0 0, .bool false, .func (.func 57) #[] #[], .slice (some ⟨g, 0, none⟩) a a, v8, .int .i64 (a : Int), .bool false, .bool false, .int .i64 (a : Int), .bool false, .bool false, .string s, .bool true, .bool true, undef, undef, .int .i64 (a : Int), .slice (some ⟨g, 0, none⟩) a a, u22, u23, u24, u25, u26, u27, u28, u29, u30, u31, u32, undef], defers := [] } ∧ n + k = L.length ∧ k < L.length ∧ w.heap.size ≤ g ∧ g < w'.heap.size ∧ OwnI w' g (g + 1) (.slice (some ⟨g, 0, none⟩) a a) (L.getD k []) ∧ Tb w' (g + 1) v8 vs (avS L (conB r231) k) ∧ Below w.heap.size w w') rfl ?_ ?_
  · go_wp2_with fail
    (with_reducible refine (ascendingL a _ (by omega)).mono ?_)
    rintro e w1 ⟨g, hg1, rfl, hg2, ho, hb⟩
    rw [← HF.out] at ho
    obtain ⟨k, hk0⟩ : ∃ k : Nat, k = 0 := ⟨0, rfl⟩
    obtain ⟨vs, hvs⟩ : ∃ vs : List Value, vs = [] := ⟨[], rfl⟩
    have hk : k < L.length := by omega
    have HO := Lib.hid (show OwnI w1 g (g + 1) (.slice (some ⟨g, 0, none⟩) a a) (L.getD k []) by rw [hk0]; exact ownI_at ho)
    have HT := Lib.hid (show Tb w1 (g + 1) (.slice none 0 0) vs (avS L (conB r231) k) by rw [hk0, hvs]; exact Tb.nil _ _)
    have HB := Lib.hid hb
    have HK0 := Lib.hid hk0
    clear ho hb hk0 hvs
    go_wp2
    go_step3
    have hl := HLE.out k hk
    have HCT := Lib.hid (fun (h : OwnI w1 g (g + 1) (.slice (some ⟨g, 0, none⟩) a a) (L.getD k [])) => show Calls Try.prog 63 #[.slice (some ⟨g, 0, none⟩) a a, .func (.func 57) #[] #[]] w1 fun e w' => e = .returned (.bool (conB r231 (L.getD k []))) ∧ Below w1.heap.size w1 w' by
      have h3 := holds231I (some ⟨g, 0, none⟩) (L.getD k []) a g (g + 1) w1 (by rw [hl]; exact h) (by omega)
      rw [hl] at h3
      exact h3)
    have HTN := Lib.hid (fun W (hW : OwnI W g (g + 1) (.slice (some ⟨g, 0, none⟩) a a) (L.getD k [])) (hz : g < W.heap.size) => show Calls Try.prog 62 #[.slice (some ⟨g, 0, none⟩) a a] W fun e w' => e = .returned (.bool (nextL (L.getD k [])).isSome) ∧ OwnI w' g (g + 1) (.slice (some ⟨g, 0, none⟩) a a) ((nextL (L.getD k [])).getD (L.getD k [])) ∧ W.heap.size = w'.heap.size ∧ Onl g W w' by
      have h3 := toNextO g a (L.getD k []) g (g + 1) W (by rw [hl]; exact hW) (by rw [hl]; exact Nat.le_refl _) (by omega) (Nat.le_refl _) hz
      rw [hl] at h3
      exact h3)
    have HCL := Lib.hid (fun W (hW : OwnI W g (g + 1) (.slice (some ⟨g, 0, none⟩) a a) (L.getD k [])) (hz : g < W.heap.size) => show Calls Try.prog 58 #[.slice (some ⟨g, 0, none⟩) a a] W fun e w' => ∃ v, e = .returned v ∧ RowN w' W.heap.size v (L.getD k []) ∧ Below W.heap.size W w' by
      have h3 := cloneI (some ⟨g, 0, none⟩) (L.getD k []) a g (g + 1) W (by rw [hl]; exact hW) hz (by omega)
      rw [hl] at h3
      exact h3)
    have HS := Lib.hid (HCS.out k)
    have HNK := Lib.hid (HNX.out k)
    have HLK := Lib.hid (fun (h : k + 1 = L.length) => show nextL (L.getD k []) = none by rw [show k = L.length - 1 by omega]; exact HLA.out)
    have hsm := HSM.out k
    have HL := Lib.hid hl
    clear hl
    have HCC := Lib.hid (HCT.out HO.out)
    clear HCT
    generalize hz : conB r231 (L.getD k []) = z at *
    clear hz
    rcases z with _ | _
    · have HS1 := Lib.hid (show avS L (conB r231) (k + 1) = avS L (conB r231) k ++ [L.getD k []] from HS.out)
      go_wp2_with fail
      (with_reducible refine HCC.out.mono ?_)
      rintro e w2 ⟨rfl, hb2⟩
      have hz2 := hb2.size
      have HO2 := Lib.hid (HO.out.keep hb2 (by omega))
      have HT2 := Lib.hid (HT.out.bel hb2)
      have HB2 := Lib.hid (HB.out.trans (hb2.mono (by omega)))
      clear hb2
      go_wp2_with fail
      (with_reducible refine (HCL.out w2 HO2.out (by omega)).mono ?_)
      rintro e w3 ⟨v3, rfl, hr3, hb3⟩
      have hz3 := hb3.size
      obtain ⟨A3, c3, rfl, -⟩ := hr3.form
      have HO3 := Lib.hid (HO2.out.keep hb3 (by omega))
      have HT3 := Lib.hid (HT2.out.bel hb3)
      have HB3 := Lib.hid (HB2.out.trans (hb3.mono (by omega)))
      have HR3 := Lib.hid (show w3.ownsRow (g + 1) 3 1 (.slice A3 (L.getD k []).length c3) (L.getD k []).length ((L.getD k []).map (Value.int .i64)) from own_lower hr3 (by omega))
      have HAP := Lib.hid (show ∀ j, j < (avS L (conB r231) k).length → (Value.slice A3 (L.getD k []).length c3).ownBlock = none ∨ (Value.slice A3 (L.getD k []).length c3).ownBlock ≠ (vs.getD j nilV).ownBlock from fun j hj => by
        rcases e1 : (Value.slice A3 (L.getD k []).length c3).ownBlock with _ | o
        · exact .inl rfl
        · refine .inr fun e2 => ?_
          have h1 := (World.ownsRow.lt hr3 o e1).1
          have h2 := (HT2.out.lt hj e2.symm).2
          omega)
      clear hr3 hb3
      generalize L.getD k [] = P at *
      go_wp2_with (at_builtin; go_must (refine wpAppTbR rfl _ _ rfl (g + 1) _ vs _ rfl (HT3.out.alloc _) _ _ (.slice A3 P.length c3) rfl (cell_one w3 _ _) rfl (HR3.out.alloc _) HAP.out (by omega) (base_up (by omega)) ?_); intro v4 w4 ht4 hg4)
      have hz4 := hg4.size
      simp only [World.size_alloc] at hz4
      have hbw := show Below (g + 1) w3 w4 from ((Below.refl (g + 1) w3).alloc (by omega) (.cells #[.slice A3 P.length c3] 22)).grown hg4 (by simp; omega) (fun q hq => (World.ownsRow.lt HT3.out.own q hq).1)
      have HT4 := Lib.hid ht4
      have HO4 := Lib.hid (HO3.out.keep hbw (Nat.le_refl _))
      have HB4 := Lib.hid (HB3.out.trans (hbw.mono (by omega)))
      clear ht4 hg4 hbw
      by_cases hlast : k + 1 = L.length
      · have hlk := HLK.out hlast
        have HT5 := Lib.hid (HTN.out w4 HO4.out (by omega))
        rw [hlk] at HT5
        have HLL := Lib.hid hlast
        clear hlast hlk
        go_wp2_with fail
        (with_reducible refine HT5.out.mono ?_)
        rintro e w5 ⟨rfl, ho5, hz5, hon5⟩
        have HTF := Lib.hid ((HT4.out.onl hon5 (Nat.lt_succ_self g)).lower (show w.heap.size ≤ g + 1 by omega))
        have HBF := Lib.hid (HB4.out.trans (hon5.low.mono hg1))
        clear ho5 hz5 hon5
        go_wp2
        simp only [Exit.jump]
        go_ret2
        exact ⟨_, _, rfl, by rw [← HLL.out, HS1.out]; exact HTF.out, HBF.out⟩
      · have hnk := HNK.out (by omega)
        have HT5 := Lib.hid (HTN.out w4 HO4.out (by omega))
        rw [hnk] at HT5
        clear hnk
        go_wp2_with fail
        (with_reducible refine HT5.out.mono ?_)
        rintro e w5 ⟨rfl, ho5, hz5, hon5⟩
        have HTF := Lib.hid (HT4.out.onl hon5 (Nat.lt_succ_self g))
        have HBF := Lib.hid (HB4.out.trans (hon5.low.mono hg1))
        have HO5 := Lib.hid ho5
        have HZ5 := Lib.hid (show g < w5.heap.size by omega)
        clear ho5 hz5 hon5
        go_wp2
        go_step3
        exact ⟨rfl, L.length - 1, g, k + 1, v4, _, _, _, _, _, _, _, _, _, _, _, _, rfl, by have := HK0.out; omega, by omega, hg1, HZ5.out, HO5.out, by rw [HS1.out]; exact HTF.out, HBF.out⟩
    · have HS1 := Lib.hid (show avS L (conB r231) (k + 1) = avS L (conB r231) k by rw [HS.out]; exact List.append_nil _)
      go_wp2_with fail
      (with_reducible refine HCC.out.mono ?_)
      rintro e w2 ⟨rfl, hb2⟩
      have hz2 := hb2.size
      have HO2 := Lib.hid (HO.out.keep hb2 (by omega))
      have HT2 := Lib.hid (HT.out.bel hb2)
      have HB2 := Lib.hid (HB.out.trans (hb2.mono (by omega)))
      clear hb2
      by_cases hlast : k + 1 = L.length
      · have hlk := HLK.out hlast
        have HT5 := Lib.hid (HTN.out w2 HO2.out (by omega))
        rw [hlk] at HT5
        have HLL := Lib.hid hlast
        clear hlast hlk
        go_wp2_with fail
        (with_reducible refine HT5.out.mono ?_)
        rintro e w5 ⟨rfl, ho5, hz5, hon5⟩
        have HTF := Lib.hid ((HT2.out.onl hon5 (Nat.lt_succ_self g)).lower (show w.heap.size ≤ g + 1 by omega))
        have HBF := Lib.hid (HB2.out.trans (hon5.low.mono hg1))
        clear ho5 hz5 hon5
        go_wp2
        simp only [Exit.jump]
        go_ret2
        exact ⟨_, _, rfl, by rw [← HLL.out, HS1.out]; exact HTF.out, HBF.out⟩
      · have hnk := HNK.out (by omega)
        have HT5 := Lib.hid (HTN.out w2 HO2.out (by omega))
        rw [hnk] at HT5
        clear hnk
        go_wp2_with fail
        (with_reducible refine HT5.out.mono ?_)
        rintro e w5 ⟨rfl, ho5, hz5, hon5⟩
        have HTF := Lib.hid (HT2.out.onl hon5 (Nat.lt_succ_self g))
        have HBF := Lib.hid (HB2.out.trans (hon5.low.mono hg1))
        have HO5 := Lib.hid ho5
        have HZ5 := Lib.hid (show g < w5.heap.size by omega)
        clear ho5 hz5 hon5
        go_wp2
        go_step3
        exact ⟨rfl, L.length - 1, g, k + 1, (.slice none 0 0), vs, _, _, _, _, _, _, _, _, _, _, _, rfl, by have := HK0.out; omega, by omega, hg1, HZ5.out, HO5.out, by rw [HS1.out]; exact HTF.out, HBF.out⟩
  · rintro n a' wr ⟨g, k, v8, vs, u22, u23, u24, u25, u26, u27, u28, u29, u30, u31, u32, rfl, hnk, hk, hg1, hg2, ho, ht, hb⟩
    have HO := Lib.hid ho
    have HT := Lib.hid ht
    have HB := Lib.hid hb
    have HNN := Lib.hid hnk
    clear ho ht hb hnk
    have hl := HLE.out k hk
    have HCT := Lib.hid (fun (h : OwnI wr g (g + 1) (.slice (some ⟨g, 0, none⟩) a a) (L.getD k [])) => show Calls Try.prog 63 #[.slice (some ⟨g, 0, none⟩) a a, .func (.func 57) #[] #[]] wr fun e w' => e = .returned (.bool (conB r231 (L.getD k []))) ∧ Below wr.heap.size wr w' by
      have h3 := holds231I (some ⟨g, 0, none⟩) (L.getD k []) a g (g + 1) wr (by rw [hl]; exact h) (by omega)
      rw [hl] at h3
      exact h3)
    have HTN := Lib.hid (fun W (hW : OwnI W g (g + 1) (.slice (some ⟨g, 0, none⟩) a a) (L.getD k [])) (hz : g < W.heap.size) => show Calls Try.prog 62 #[.slice (some ⟨g, 0, none⟩) a a] W fun e w' => e = .returned (.bool (nextL (L.getD k [])).isSome) ∧ OwnI w' g (g + 1) (.slice (some ⟨g, 0, none⟩) a a) ((nextL (L.getD k [])).getD (L.getD k [])) ∧ W.heap.size = w'.heap.size ∧ Onl g W w' by
      have h3 := toNextO g a (L.getD k []) g (g + 1) W (by rw [hl]; exact hW) (by rw [hl]; exact Nat.le_refl _) (by omega) (Nat.le_refl _) hz
      rw [hl] at h3
      exact h3)
    have HCL := Lib.hid (fun W (hW : OwnI W g (g + 1) (.slice (some ⟨g, 0, none⟩) a a) (L.getD k [])) (hz : g < W.heap.size) => show Calls Try.prog 58 #[.slice (some ⟨g, 0, none⟩) a a] W fun e w' => ∃ v, e = .returned v ∧ RowN w' W.heap.size v (L.getD k []) ∧ Below W.heap.size W w' by
      have h3 := cloneI (some ⟨g, 0, none⟩) (L.getD k []) a g (g + 1) W (by rw [hl]; exact hW) hz (by omega)
      rw [hl] at h3
      exact h3)
    have HS := Lib.hid (HCS.out k)
    have HNK := Lib.hid (HNX.out k)
    have HLK := Lib.hid (fun (h : k + 1 = L.length) => show nextL (L.getD k []) = none by rw [show k = L.length - 1 by omega]; exact HLA.out)
    have hsm := HSM.out k
    have HL := Lib.hid hl
    clear hl
    have HCC := Lib.hid (HCT.out HO.out)
    clear HCT
    generalize hz : conB r231 (L.getD k []) = z at *
    clear hz
    rcases z with _ | _
    · have HS1 := Lib.hid (show avS L (conB r231) (k + 1) = avS L (conB r231) k ++ [L.getD k []] from HS.out)
      go_wp2_with fail
      (with_reducible refine HCC.out.mono ?_)
      rintro e w2 ⟨rfl, hb2⟩
      have hz2 := hb2.size
      have HO2 := Lib.hid (HO.out.keep hb2 (by omega))
      have HT2 := Lib.hid (HT.out.bel hb2)
      have HB2 := Lib.hid (HB.out.trans (hb2.mono (by omega)))
      clear hb2
      go_wp2_with fail
      (with_reducible refine (HCL.out w2 HO2.out (by omega)).mono ?_)
      rintro e w3 ⟨v3, rfl, hr3, hb3⟩
      have hz3 := hb3.size
      obtain ⟨A3, c3, rfl, -⟩ := hr3.form
      have HO3 := Lib.hid (HO2.out.keep hb3 (by omega))
      have HT3 := Lib.hid (HT2.out.bel hb3)
      have HB3 := Lib.hid (HB2.out.trans (hb3.mono (by omega)))
      have HR3 := Lib.hid (show w3.ownsRow (g + 1) 3 1 (.slice A3 (L.getD k []).length c3) (L.getD k []).length ((L.getD k []).map (Value.int .i64)) from own_lower hr3 (by omega))
      have HAP := Lib.hid (show ∀ j, j < (avS L (conB r231) k).length → (Value.slice A3 (L.getD k []).length c3).ownBlock = none ∨ (Value.slice A3 (L.getD k []).length c3).ownBlock ≠ (vs.getD j nilV).ownBlock from fun j hj => by
        rcases e1 : (Value.slice A3 (L.getD k []).length c3).ownBlock with _ | o
        · exact .inl rfl
        · refine .inr fun e2 => ?_
          have h1 := (World.ownsRow.lt hr3 o e1).1
          have h2 := (HT2.out.lt hj e2.symm).2
          omega)
      clear hr3 hb3
      generalize L.getD k [] = P at *
      go_wp2_with (at_builtin; go_must (refine wpAppTbR rfl _ _ rfl (g + 1) _ vs _ rfl (HT3.out.alloc _) _ _ (.slice A3 P.length c3) rfl (cell_one w3 _ _) rfl (HR3.out.alloc _) HAP.out (by omega) (base_up (by omega)) ?_); intro v4 w4 ht4 hg4)
      have hz4 := hg4.size
      simp only [World.size_alloc] at hz4
      have hbw := show Below (g + 1) w3 w4 from ((Below.refl (g + 1) w3).alloc (by omega) (.cells #[.slice A3 P.length c3] 22)).grown hg4 (by simp; omega) (fun q hq => (World.ownsRow.lt HT3.out.own q hq).1)
      have HT4 := Lib.hid ht4
      have HO4 := Lib.hid (HO3.out.keep hbw (Nat.le_refl _))
      have HB4 := Lib.hid (HB3.out.trans (hbw.mono (by omega)))
      clear ht4 hg4 hbw
      by_cases hlast : k + 1 = L.length
      · have hlk := HLK.out hlast
        have HT5 := Lib.hid (HTN.out w4 HO4.out (by omega))
        rw [hlk] at HT5
        have HLL := Lib.hid hlast
        clear hlast hlk
        go_wp2_with fail
        (with_reducible refine HT5.out.mono ?_)
        rintro e w5 ⟨rfl, ho5, hz5, hon5⟩
        have HTF := Lib.hid ((HT4.out.onl hon5 (Nat.lt_succ_self g)).lower (show w.heap.size ≤ g + 1 by omega))
        have HBF := Lib.hid (HB4.out.trans (hon5.low.mono hg1))
        clear ho5 hz5 hon5
        go_wp2
        simp only [Exit.jump]
        go_ret2
        exact ⟨_, _, rfl, by rw [← HLL.out, HS1.out]; exact HTF.out, HBF.out⟩
      · have hnk := HNK.out (by omega)
        have HT5 := Lib.hid (HTN.out w4 HO4.out (by omega))
        rw [hnk] at HT5
        clear hnk
        go_wp2_with fail
        (with_reducible refine HT5.out.mono ?_)
        rintro e w5 ⟨rfl, ho5, hz5, hon5⟩
        have HTF := Lib.hid (HT4.out.onl hon5 (Nat.lt_succ_self g))
        have HBF := Lib.hid (HB4.out.trans (hon5.low.mono hg1))
        have HO5 := Lib.hid ho5
        have HZ5 := Lib.hid (show g < w5.heap.size by omega)
        clear ho5 hz5 hon5
        go_wp2
        go_step3
        exact ⟨rfl, n - 1, by have := HNN.out; omega, g, k + 1, v4, _, _, _, _, _, _, _, _, _, _, _, _, rfl, by have := HNN.out; omega, by omega, hg1, HZ5.out, HO5.out, by rw [HS1.out]; exact HTF.out, HBF.out⟩
    · have HS1 := Lib.hid (show avS L (conB r231) (k + 1) = avS L (conB r231) k by rw [HS.out]; exact List.append_nil _)
      go_wp2_with fail
      (with_reducible refine HCC.out.mono ?_)
      rintro e w2 ⟨rfl, hb2⟩
      have hz2 := hb2.size
      have HO2 := Lib.hid (HO.out.keep hb2 (by omega))
      have HT2 := Lib.hid (HT.out.bel hb2)
      have HB2 := Lib.hid (HB.out.trans (hb2.mono (by omega)))
      clear hb2
      by_cases hlast : k + 1 = L.length
      · have hlk := HLK.out hlast
        have HT5 := Lib.hid (HTN.out w2 HO2.out (by omega))
        rw [hlk] at HT5
        have HLL := Lib.hid hlast
        clear hlast hlk
        go_wp2_with fail
        (with_reducible refine HT5.out.mono ?_)
        rintro e w5 ⟨rfl, ho5, hz5, hon5⟩
        have HTF := Lib.hid ((HT2.out.onl hon5 (Nat.lt_succ_self g)).lower (show w.heap.size ≤ g + 1 by omega))
        have HBF := Lib.hid (HB2.out.trans (hon5.low.mono hg1))
        clear ho5 hz5 hon5
        go_wp2
        simp only [Exit.jump]
        go_ret2
        exact ⟨_, _, rfl, by rw [← HLL.out, HS1.out]; exact HTF.out, HBF.out⟩
      · have hnk := HNK.out (by omega)
        have HT5 := Lib.hid (HTN.out w2 HO2.out (by omega))
        rw [hnk] at HT5
        clear hnk
        go_wp2_with fail
        (with_reducible refine HT5.out.mono ?_)
        rintro e w5 ⟨rfl, ho5, hz5, hon5⟩
        have HTF := Lib.hid (HT2.out.onl hon5 (Nat.lt_succ_self g))
        have HBF := Lib.hid (HB2.out.trans (hon5.low.mono hg1))
        have HO5 := Lib.hid ho5
        have HZ5 := Lib.hid (show g < w5.heap.size by omega)
        clear ho5 hz5 hon5
        go_wp2
        go_step3
        exact ⟨rfl, n - 1, by have := HNN.out; omega, g, k + 1, v8, vs, _, _, _, _, _, _, _, _, _, _, _, rfl, by have := HNN.out; omega, by omega, hg1, HZ5.out, HO5.out, by rw [HS1.out]; exact HTF.out, HBF.out⟩

set_option maxRecDepth 100000 in
set_option maxHeartbeats 3200000 in
theorem avoidersI321 (a : Nat) (s : ByteArray) (w : World) (ha5 : a ≤ 5) (b1 : (s.toList == [51, 50, 49]) = true) : Calls Try.prog 39 #[.int .i64 (a : Int), .string s] w fun e w' => ∃ v vs, e = .returned (.tuple #[v, .bool true]) ∧ Tb w' w.heap.size v vs (avS (pmLs a) (conB r321) (pmLs a).length) ∧ Below w.heap.size w w' := by
  have b2 : (s.toList = [51, 50, 49]) = True := eq_true (by simpa using b1)
  have b3 : ¬ s.toList = [50, 51, 49] := fun h => by rw [of_eq_true b2] at h; simp at h
  have b4 : (s.toList == [50, 51, 49]) = false := beq_eq_false_iff_ne.2 b3
  have g1 : ¬ ((a : Int) < 0) := by omega
  have g2 : ¬ ((5 : Int) < (a : Int)) := by omega
  have d1 : decide ((a : Int) < 0) = false := decide_eq_false g1
  have d2 : decide ((5 : Int) < (a : Int)) = false := decide_eq_false g2
  obtain ⟨f1, f2, f3⟩ := al_first a (by omega)
  have HF := Lib.hid f1
  have HNX := Lib.hid (al_next a (by omega))
  have HLA := Lib.hid (al_last a (by omega))
  have HLE := Lib.hid (al_len a (by omega))
  have HSM := Lib.hid (fun k => avS_len (pmLs a) (conB r321) k)
  have HCS := Lib.hid (fun k => show avS (pmLs a) (conB r321) (k + 1) = avS (pmLs a) (conB r321) k ++ if conB r321 ((pmLs a).getD k []) = true then [] else [(pmLs a).getD k []] from rfl)
  clear f1
  generalize pmLs a = L at *
  go_enter Try.func39, Try.ntmps39
  go_wp2
  refine scope_ghost 0 (fun n a' w' => ∃ (g k : Nat) (v8 : Value) (vs : List Value) (u22 u23 u24 u25 u26 u27 u28 u29 u30 u31 u32 : Value), a' = { tmps := #[.int .i64 (a : Int), .string s, undef, undef, .slice none 0 0, .bool false, .func (.func 64) #[] #[], .slice (some ⟨g, 0, none⟩) a a, v8, .int .i64 (a : Int), .bool false, .bool false, .int .i64 (a : Int), .bool false, .bool false, .string s, .bool false, .bool false, .bool true, .bool true, .int .i64 (a : Int), .slice (some ⟨g, 0, none⟩) a a, u22, u23, u24, u25, u26, u27, u28, u29, u30, u31, u32, undef], defers := [] } ∧ n + k = L.length ∧ k < L.length ∧ w.heap.size ≤ g ∧ g < w'.heap.size ∧ OwnI w' g (g + 1) (.slice (some ⟨g, 0, none⟩) a a) (L.getD k []) ∧ Tb w' (g + 1) v8 vs (avS L (conB r321) k) ∧ Below w.heap.size w w') rfl ?_ ?_
  · go_wp2_with fail
    (with_reducible refine (ascendingL a _ (by omega)).mono ?_)
    rintro e w1 ⟨g, hg1, rfl, hg2, ho, hb⟩
    rw [← HF.out] at ho
    obtain ⟨k, hk0⟩ : ∃ k : Nat, k = 0 := ⟨0, rfl⟩
    obtain ⟨vs, hvs⟩ : ∃ vs : List Value, vs = [] := ⟨[], rfl⟩
    have hk : k < L.length := by omega
    have HO := Lib.hid (show OwnI w1 g (g + 1) (.slice (some ⟨g, 0, none⟩) a a) (L.getD k []) by rw [hk0]; exact ownI_at ho)
    have HT := Lib.hid (show Tb w1 (g + 1) (.slice none 0 0) vs (avS L (conB r321) k) by rw [hk0, hvs]; exact Tb.nil _ _)
    have HB := Lib.hid hb
    have HK0 := Lib.hid hk0
    clear ho hb hk0 hvs
    go_wp2
    go_step3
    have hl := HLE.out k hk
    have HCT := Lib.hid (fun (h : OwnI w1 g (g + 1) (.slice (some ⟨g, 0, none⟩) a a) (L.getD k [])) => show Calls Try.prog 63 #[.slice (some ⟨g, 0, none⟩) a a, .func (.func 64) #[] #[]] w1 fun e w' => e = .returned (.bool (conB r321 (L.getD k []))) ∧ Below w1.heap.size w1 w' by
      have h3 := holds321I (some ⟨g, 0, none⟩) (L.getD k []) a g (g + 1) w1 (by rw [hl]; exact h) (by omega)
      rw [hl] at h3
      exact h3)
    have HTN := Lib.hid (fun W (hW : OwnI W g (g + 1) (.slice (some ⟨g, 0, none⟩) a a) (L.getD k [])) (hz : g < W.heap.size) => show Calls Try.prog 62 #[.slice (some ⟨g, 0, none⟩) a a] W fun e w' => e = .returned (.bool (nextL (L.getD k [])).isSome) ∧ OwnI w' g (g + 1) (.slice (some ⟨g, 0, none⟩) a a) ((nextL (L.getD k [])).getD (L.getD k [])) ∧ W.heap.size = w'.heap.size ∧ Onl g W w' by
      have h3 := toNextO g a (L.getD k []) g (g + 1) W (by rw [hl]; exact hW) (by rw [hl]; exact Nat.le_refl _) (by omega) (Nat.le_refl _) hz
      rw [hl] at h3
      exact h3)
    have HCL := Lib.hid (fun W (hW : OwnI W g (g + 1) (.slice (some ⟨g, 0, none⟩) a a) (L.getD k [])) (hz : g < W.heap.size) => show Calls Try.prog 58 #[.slice (some ⟨g, 0, none⟩) a a] W fun e w' => ∃ v, e = .returned v ∧ RowN w' W.heap.size v (L.getD k []) ∧ Below W.heap.size W w' by
      have h3 := cloneI (some ⟨g, 0, none⟩) (L.getD k []) a g (g + 1) W (by rw [hl]; exact hW) hz (by omega)
      rw [hl] at h3
      exact h3)
    have HS := Lib.hid (HCS.out k)
    have HNK := Lib.hid (HNX.out k)
    have HLK := Lib.hid (fun (h : k + 1 = L.length) => show nextL (L.getD k []) = none by rw [show k = L.length - 1 by omega]; exact HLA.out)
    have hsm := HSM.out k
    have HL := Lib.hid hl
    clear hl
    have HCC := Lib.hid (HCT.out HO.out)
    clear HCT
    generalize hz : conB r321 (L.getD k []) = z at *
    clear hz
    rcases z with _ | _
    · have HS1 := Lib.hid (show avS L (conB r321) (k + 1) = avS L (conB r321) k ++ [L.getD k []] from HS.out)
      go_wp2_with fail
      (with_reducible refine HCC.out.mono ?_)
      rintro e w2 ⟨rfl, hb2⟩
      have hz2 := hb2.size
      have HO2 := Lib.hid (HO.out.keep hb2 (by omega))
      have HT2 := Lib.hid (HT.out.bel hb2)
      have HB2 := Lib.hid (HB.out.trans (hb2.mono (by omega)))
      clear hb2
      go_wp2_with fail
      (with_reducible refine (HCL.out w2 HO2.out (by omega)).mono ?_)
      rintro e w3 ⟨v3, rfl, hr3, hb3⟩
      have hz3 := hb3.size
      obtain ⟨A3, c3, rfl, -⟩ := hr3.form
      have HO3 := Lib.hid (HO2.out.keep hb3 (by omega))
      have HT3 := Lib.hid (HT2.out.bel hb3)
      have HB3 := Lib.hid (HB2.out.trans (hb3.mono (by omega)))
      have HR3 := Lib.hid (show w3.ownsRow (g + 1) 3 1 (.slice A3 (L.getD k []).length c3) (L.getD k []).length ((L.getD k []).map (Value.int .i64)) from own_lower hr3 (by omega))
      have HAP := Lib.hid (show ∀ j, j < (avS L (conB r321) k).length → (Value.slice A3 (L.getD k []).length c3).ownBlock = none ∨ (Value.slice A3 (L.getD k []).length c3).ownBlock ≠ (vs.getD j nilV).ownBlock from fun j hj => by
        rcases e1 : (Value.slice A3 (L.getD k []).length c3).ownBlock with _ | o
        · exact .inl rfl
        · refine .inr fun e2 => ?_
          have h1 := (World.ownsRow.lt hr3 o e1).1
          have h2 := (HT2.out.lt hj e2.symm).2
          omega)
      clear hr3 hb3
      generalize L.getD k [] = P at *
      go_wp2_with (at_builtin; go_must (refine wpAppTbR rfl _ _ rfl (g + 1) _ vs _ rfl (HT3.out.alloc _) _ _ (.slice A3 P.length c3) rfl (cell_one w3 _ _) rfl (HR3.out.alloc _) HAP.out (by omega) (base_up (by omega)) ?_); intro v4 w4 ht4 hg4)
      have hz4 := hg4.size
      simp only [World.size_alloc] at hz4
      have hbw := show Below (g + 1) w3 w4 from ((Below.refl (g + 1) w3).alloc (by omega) (.cells #[.slice A3 P.length c3] 22)).grown hg4 (by simp; omega) (fun q hq => (World.ownsRow.lt HT3.out.own q hq).1)
      have HT4 := Lib.hid ht4
      have HO4 := Lib.hid (HO3.out.keep hbw (Nat.le_refl _))
      have HB4 := Lib.hid (HB3.out.trans (hbw.mono (by omega)))
      clear ht4 hg4 hbw
      by_cases hlast : k + 1 = L.length
      · have hlk := HLK.out hlast
        have HT5 := Lib.hid (HTN.out w4 HO4.out (by omega))
        rw [hlk] at HT5
        have HLL := Lib.hid hlast
        clear hlast hlk
        go_wp2_with fail
        (with_reducible refine HT5.out.mono ?_)
        rintro e w5 ⟨rfl, ho5, hz5, hon5⟩
        have HTF := Lib.hid ((HT4.out.onl hon5 (Nat.lt_succ_self g)).lower (show w.heap.size ≤ g + 1 by omega))
        have HBF := Lib.hid (HB4.out.trans (hon5.low.mono hg1))
        clear ho5 hz5 hon5
        go_wp2
        simp only [Exit.jump]
        go_ret2
        exact ⟨_, _, rfl, by rw [← HLL.out, HS1.out]; exact HTF.out, HBF.out⟩
      · have hnk := HNK.out (by omega)
        have HT5 := Lib.hid (HTN.out w4 HO4.out (by omega))
        rw [hnk] at HT5
        clear hnk
        go_wp2_with fail
        (with_reducible refine HT5.out.mono ?_)
        rintro e w5 ⟨rfl, ho5, hz5, hon5⟩
        have HTF := Lib.hid (HT4.out.onl hon5 (Nat.lt_succ_self g))
        have HBF := Lib.hid (HB4.out.trans (hon5.low.mono hg1))
        have HO5 := Lib.hid ho5
        have HZ5 := Lib.hid (show g < w5.heap.size by omega)
        clear ho5 hz5 hon5
        go_wp2
        go_step3
        exact ⟨rfl, L.length - 1, g, k + 1, v4, _, _, _, _, _, _, _, _, _, _, _, _, rfl, by have := HK0.out; omega, by omega, hg1, HZ5.out, HO5.out, by rw [HS1.out]; exact HTF.out, HBF.out⟩
    · have HS1 := Lib.hid (show avS L (conB r321) (k + 1) = avS L (conB r321) k by rw [HS.out]; exact List.append_nil _)
      go_wp2_with fail
      (with_reducible refine HCC.out.mono ?_)
      rintro e w2 ⟨rfl, hb2⟩
      have hz2 := hb2.size
      have HO2 := Lib.hid (HO.out.keep hb2 (by omega))
      have HT2 := Lib.hid (HT.out.bel hb2)
      have HB2 := Lib.hid (HB.out.trans (hb2.mono (by omega)))
      clear hb2
      by_cases hlast : k + 1 = L.length
      · have hlk := HLK.out hlast
        have HT5 := Lib.hid (HTN.out w2 HO2.out (by omega))
        rw [hlk] at HT5
        have HLL := Lib.hid hlast
        clear hlast hlk
        go_wp2_with fail
        (with_reducible refine HT5.out.mono ?_)
        rintro e w5 ⟨rfl, ho5, hz5, hon5⟩
        have HTF := Lib.hid ((HT2.out.onl hon5 (Nat.lt_succ_self g)).lower (show w.heap.size ≤ g + 1 by omega))
        have HBF := Lib.hid (HB2.out.trans (hon5.low.mono hg1))
        clear ho5 hz5 hon5
        go_wp2
        simp only [Exit.jump]
        go_ret2
        exact ⟨_, _, rfl, by rw [← HLL.out, HS1.out]; exact HTF.out, HBF.out⟩
      · have hnk := HNK.out (by omega)
        have HT5 := Lib.hid (HTN.out w2 HO2.out (by omega))
        rw [hnk] at HT5
        clear hnk
        go_wp2_with fail
        (with_reducible refine HT5.out.mono ?_)
        rintro e w5 ⟨rfl, ho5, hz5, hon5⟩
        have HTF := Lib.hid (HT2.out.onl hon5 (Nat.lt_succ_self g))
        have HBF := Lib.hid (HB2.out.trans (hon5.low.mono hg1))
        have HO5 := Lib.hid ho5
        have HZ5 := Lib.hid (show g < w5.heap.size by omega)
        clear ho5 hz5 hon5
        go_wp2
        go_step3
        exact ⟨rfl, L.length - 1, g, k + 1, (.slice none 0 0), vs, _, _, _, _, _, _, _, _, _, _, _, rfl, by have := HK0.out; omega, by omega, hg1, HZ5.out, HO5.out, by rw [HS1.out]; exact HTF.out, HBF.out⟩
  · rintro n a' wr ⟨g, k, v8, vs, u22, u23, u24, u25, u26, u27, u28, u29, u30, u31, u32, rfl, hnk, hk, hg1, hg2, ho, ht, hb⟩
    have HO := Lib.hid ho
    have HT := Lib.hid ht
    have HB := Lib.hid hb
    have HNN := Lib.hid hnk
    clear ho ht hb hnk
    have hl := HLE.out k hk
    have HCT := Lib.hid (fun (h : OwnI wr g (g + 1) (.slice (some ⟨g, 0, none⟩) a a) (L.getD k [])) => show Calls Try.prog 63 #[.slice (some ⟨g, 0, none⟩) a a, .func (.func 64) #[] #[]] wr fun e w' => e = .returned (.bool (conB r321 (L.getD k []))) ∧ Below wr.heap.size wr w' by
      have h3 := holds321I (some ⟨g, 0, none⟩) (L.getD k []) a g (g + 1) wr (by rw [hl]; exact h) (by omega)
      rw [hl] at h3
      exact h3)
    have HTN := Lib.hid (fun W (hW : OwnI W g (g + 1) (.slice (some ⟨g, 0, none⟩) a a) (L.getD k [])) (hz : g < W.heap.size) => show Calls Try.prog 62 #[.slice (some ⟨g, 0, none⟩) a a] W fun e w' => e = .returned (.bool (nextL (L.getD k [])).isSome) ∧ OwnI w' g (g + 1) (.slice (some ⟨g, 0, none⟩) a a) ((nextL (L.getD k [])).getD (L.getD k [])) ∧ W.heap.size = w'.heap.size ∧ Onl g W w' by
      have h3 := toNextO g a (L.getD k []) g (g + 1) W (by rw [hl]; exact hW) (by rw [hl]; exact Nat.le_refl _) (by omega) (Nat.le_refl _) hz
      rw [hl] at h3
      exact h3)
    have HCL := Lib.hid (fun W (hW : OwnI W g (g + 1) (.slice (some ⟨g, 0, none⟩) a a) (L.getD k [])) (hz : g < W.heap.size) => show Calls Try.prog 58 #[.slice (some ⟨g, 0, none⟩) a a] W fun e w' => ∃ v, e = .returned v ∧ RowN w' W.heap.size v (L.getD k []) ∧ Below W.heap.size W w' by
      have h3 := cloneI (some ⟨g, 0, none⟩) (L.getD k []) a g (g + 1) W (by rw [hl]; exact hW) hz (by omega)
      rw [hl] at h3
      exact h3)
    have HS := Lib.hid (HCS.out k)
    have HNK := Lib.hid (HNX.out k)
    have HLK := Lib.hid (fun (h : k + 1 = L.length) => show nextL (L.getD k []) = none by rw [show k = L.length - 1 by omega]; exact HLA.out)
    have hsm := HSM.out k
    have HL := Lib.hid hl
    clear hl
    have HCC := Lib.hid (HCT.out HO.out)
    clear HCT
    generalize hz : conB r321 (L.getD k []) = z at *
    clear hz
    rcases z with _ | _
    · have HS1 := Lib.hid (show avS L (conB r321) (k + 1) = avS L (conB r321) k ++ [L.getD k []] from HS.out)
      go_wp2_with fail
      (with_reducible refine HCC.out.mono ?_)
      rintro e w2 ⟨rfl, hb2⟩
      have hz2 := hb2.size
      have HO2 := Lib.hid (HO.out.keep hb2 (by omega))
      have HT2 := Lib.hid (HT.out.bel hb2)
      have HB2 := Lib.hid (HB.out.trans (hb2.mono (by omega)))
      clear hb2
      go_wp2_with fail
      (with_reducible refine (HCL.out w2 HO2.out (by omega)).mono ?_)
      rintro e w3 ⟨v3, rfl, hr3, hb3⟩
      have hz3 := hb3.size
      obtain ⟨A3, c3, rfl, -⟩ := hr3.form
      have HO3 := Lib.hid (HO2.out.keep hb3 (by omega))
      have HT3 := Lib.hid (HT2.out.bel hb3)
      have HB3 := Lib.hid (HB2.out.trans (hb3.mono (by omega)))
      have HR3 := Lib.hid (show w3.ownsRow (g + 1) 3 1 (.slice A3 (L.getD k []).length c3) (L.getD k []).length ((L.getD k []).map (Value.int .i64)) from own_lower hr3 (by omega))
      have HAP := Lib.hid (show ∀ j, j < (avS L (conB r321) k).length → (Value.slice A3 (L.getD k []).length c3).ownBlock = none ∨ (Value.slice A3 (L.getD k []).length c3).ownBlock ≠ (vs.getD j nilV).ownBlock from fun j hj => by
        rcases e1 : (Value.slice A3 (L.getD k []).length c3).ownBlock with _ | o
        · exact .inl rfl
        · refine .inr fun e2 => ?_
          have h1 := (World.ownsRow.lt hr3 o e1).1
          have h2 := (HT2.out.lt hj e2.symm).2
          omega)
      clear hr3 hb3
      generalize L.getD k [] = P at *
      go_wp2_with (at_builtin; go_must (refine wpAppTbR rfl _ _ rfl (g + 1) _ vs _ rfl (HT3.out.alloc _) _ _ (.slice A3 P.length c3) rfl (cell_one w3 _ _) rfl (HR3.out.alloc _) HAP.out (by omega) (base_up (by omega)) ?_); intro v4 w4 ht4 hg4)
      have hz4 := hg4.size
      simp only [World.size_alloc] at hz4
      have hbw := show Below (g + 1) w3 w4 from ((Below.refl (g + 1) w3).alloc (by omega) (.cells #[.slice A3 P.length c3] 22)).grown hg4 (by simp; omega) (fun q hq => (World.ownsRow.lt HT3.out.own q hq).1)
      have HT4 := Lib.hid ht4
      have HO4 := Lib.hid (HO3.out.keep hbw (Nat.le_refl _))
      have HB4 := Lib.hid (HB3.out.trans (hbw.mono (by omega)))
      clear ht4 hg4 hbw
      by_cases hlast : k + 1 = L.length
      · have hlk := HLK.out hlast
        have HT5 := Lib.hid (HTN.out w4 HO4.out (by omega))
        rw [hlk] at HT5
        have HLL := Lib.hid hlast
        clear hlast hlk
        go_wp2_with fail
        (with_reducible refine HT5.out.mono ?_)
        rintro e w5 ⟨rfl, ho5, hz5, hon5⟩
        have HTF := Lib.hid ((HT4.out.onl hon5 (Nat.lt_succ_self g)).lower (show w.heap.size ≤ g + 1 by omega))
        have HBF := Lib.hid (HB4.out.trans (hon5.low.mono hg1))
        clear ho5 hz5 hon5
        go_wp2
        simp only [Exit.jump]
        go_ret2
        exact ⟨_, _, rfl, by rw [← HLL.out, HS1.out]; exact HTF.out, HBF.out⟩
      · have hnk := HNK.out (by omega)
        have HT5 := Lib.hid (HTN.out w4 HO4.out (by omega))
        rw [hnk] at HT5
        clear hnk
        go_wp2_with fail
        (with_reducible refine HT5.out.mono ?_)
        rintro e w5 ⟨rfl, ho5, hz5, hon5⟩
        have HTF := Lib.hid (HT4.out.onl hon5 (Nat.lt_succ_self g))
        have HBF := Lib.hid (HB4.out.trans (hon5.low.mono hg1))
        have HO5 := Lib.hid ho5
        have HZ5 := Lib.hid (show g < w5.heap.size by omega)
        clear ho5 hz5 hon5
        go_wp2
        go_step3
        exact ⟨rfl, n - 1, by have := HNN.out; omega, g, k + 1, v4, _, _, _, _, _, _, _, _, _, _, _, _, rfl, by have := HNN.out; omega, by omega, hg1, HZ5.out, HO5.out, by rw [HS1.out]; exact HTF.out, HBF.out⟩
    · have HS1 := Lib.hid (show avS L (conB r321) (k + 1) = avS L (conB r321) k by rw [HS.out]; exact List.append_nil _)
      go_wp2_with fail
      (with_reducible refine HCC.out.mono ?_)
      rintro e w2 ⟨rfl, hb2⟩
      have hz2 := hb2.size
      have HO2 := Lib.hid (HO.out.keep hb2 (by omega))
      have HT2 := Lib.hid (HT.out.bel hb2)
      have HB2 := Lib.hid (HB.out.trans (hb2.mono (by omega)))
      clear hb2
      by_cases hlast : k + 1 = L.length
      · have hlk := HLK.out hlast
        have HT5 := Lib.hid (HTN.out w2 HO2.out (by omega))
        rw [hlk] at HT5
        have HLL := Lib.hid hlast
        clear hlast hlk
        go_wp2_with fail
        (with_reducible refine HT5.out.mono ?_)
        rintro e w5 ⟨rfl, ho5, hz5, hon5⟩
        have HTF := Lib.hid ((HT2.out.onl hon5 (Nat.lt_succ_self g)).lower (show w.heap.size ≤ g + 1 by omega))
        have HBF := Lib.hid (HB2.out.trans (hon5.low.mono hg1))
        clear ho5 hz5 hon5
        go_wp2
        simp only [Exit.jump]
        go_ret2
        exact ⟨_, _, rfl, by rw [← HLL.out, HS1.out]; exact HTF.out, HBF.out⟩
      · have hnk := HNK.out (by omega)
        have HT5 := Lib.hid (HTN.out w2 HO2.out (by omega))
        rw [hnk] at HT5
        clear hnk
        go_wp2_with fail
        (with_reducible refine HT5.out.mono ?_)
        rintro e w5 ⟨rfl, ho5, hz5, hon5⟩
        have HTF := Lib.hid (HT2.out.onl hon5 (Nat.lt_succ_self g))
        have HBF := Lib.hid (HB2.out.trans (hon5.low.mono hg1))
        have HO5 := Lib.hid ho5
        have HZ5 := Lib.hid (show g < w5.heap.size by omega)
        clear ho5 hz5 hon5
        go_wp2
        go_step3
        exact ⟨rfl, n - 1, by have := HNN.out; omega, g, k + 1, v8, vs, _, _, _, _, _, _, _, _, _, _, _, rfl, by have := HNN.out; omega, by omega, hg1, HZ5.out, HO5.out, by rw [HS1.out]; exact HTF.out, HBF.out⟩


set_option maxRecDepth 100000 in
set_option maxHeartbeats 1600000 in
theorem avoidersIOut (n : Int) (s : ByteArray) (w : World) (h : ¬ (0 ≤ n ∧ n ≤ 5)) : Calls Try.prog 39 #[.int .i64 n, .string s] w fun e w' => ∃ v vs, e = .returned (.tuple #[v, .bool false]) ∧ Tb w' w.heap.size v vs [] ∧ Below w.heap.size w w' := by
  by_cases h1 : n < 0
  · clear h
    go_enter Try.func39, Try.ntmps39
    go_wp2
    refine scope_ghost 0 (fun _ _ _ => False) rfl ?_ (fun _ _ _ h => h.elim)
    go_wp2
    simp only [Exit.jump]
    go_ret2
    exact ⟨_, _, rfl, Tb.nil _ _, Below.refl _ _⟩
  · have h2 : 5 < n := by omega
    clear h
    go_enter Try.func39, Try.ntmps39
    go_wp2
    refine scope_ghost 0 (fun _ _ _ => False) rfl ?_ (fun _ _ _ h => h.elim)
    go_wp2
    simp only [Exit.jump]
    go_ret2
    exact ⟨_, _, rfl, Tb.nil _ _, Below.refl _ _⟩

set_option maxRecDepth 100000 in
set_option maxHeartbeats 1600000 in
theorem avoidersIOther (n : Int) (s : ByteArray) (w : World) (h1 : 0 ≤ n) (h2 : n ≤ 5) (b1 : (s.toList == [50, 51, 49]) = false) (b2 : (s.toList == [51, 50, 49]) = false) : Calls Try.prog 39 #[.int .i64 n, .string s] w fun e w' => ∃ v vs, e = .returned (.tuple #[v, .bool false]) ∧ Tb w' w.heap.size v vs [] ∧ Below w.heap.size w w' := by
  have b3 : ¬ s.toList = [50, 51, 49] := beq_eq_false_iff_ne.1 b1
  have b4 : ¬ s.toList = [51, 50, 49] := beq_eq_false_iff_ne.1 b2
  have g1 : ¬ (n < 0) := by omega
  have g2 : ¬ (5 < n) := by omega
  go_enter Try.func39, Try.ntmps39
  go_wp2
  refine scope_ghost 0 (fun _ _ _ => False) rfl ?_ (fun _ _ _ h => h.elim)
  go_wp2
  simp only [Exit.jump]
  go_ret2
  exact ⟨_, _, rfl, Tb.nil _ _, Below.refl _ _⟩

theorem avoidersI (n : Int) (s : ByteArray) (w : World) : Calls Try.prog 39 #[.int .i64 n, .string s] w fun e w' => ∃ v vs, e = .returned (.tuple #[v, .bool (avOk n s)]) ∧ Tb w' w.heap.size v vs (avP n s) ∧ Below w.heap.size w w' := by
  by_cases h : 0 ≤ n ∧ n ≤ 5
  · obtain ⟨a, rfl⟩ : ∃ a : Nat, n = (a : Int) := ⟨n.toNat, by omega⟩
    have ha : a ≤ 5 := by omega
    rcases b1 : (s.toList == [50, 51, 49]) with _ | _
    · rcases b2 : (s.toList == [51, 50, 49]) with _ | _
      · have e1 : avP (a : Int) s = [] := by unfold avP; rw [if_pos h, b1, b2]; rfl
        have e2 : avOk (a : Int) s = false := by unfold avOk; rw [b1, b2]; simp
        rw [e1, e2]
        exact avoidersIOther _ s w h.1 h.2 b1 b2
      · have e1 : avP (a : Int) s = avS (pmLs a) (conB r321) (pmLs a).length := by unfold avP; rw [if_pos h, b1, b2]; rfl
        have e2 : avOk (a : Int) s = true := by unfold avOk; rw [b1, b2, decide_eq_true h]; rfl
        rw [e1, e2]
        exact avoidersI321 a s w ha b2
    · have e1 : avP (a : Int) s = avS (pmLs a) (conB r231) (pmLs a).length := by unfold avP; rw [if_pos h, b1]; rfl
      have e2 : avOk (a : Int) s = true := by unfold avOk; rw [b1, decide_eq_true h]; rfl
      rw [e1, e2]
      exact avoidersI231 a s w ha b1
  · have e1 : avP n s = [] := if_neg h
    have e2 : avOk n s = false := by unfold avOk; rw [decide_eq_false h]; rfl
    rw [e1, e2]
    exact avoidersIOut n s w h

end Go.Proofs.Ytamepojgpeblpaa
