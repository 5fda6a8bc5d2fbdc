/- The program's DividePolynomials where it divides: what room its quotient has (written by tools/mk14y.py out of Impl14E). -/
import Derived.Test.YtpelicepgeoopaaImpl14E
namespace Go.Proofs.Ytpelicepgeoopaa
open Go.ChangeShapes Go.WideShapes Go.ChangeAt Go.RowKit
set_option linter.unusedVariables false

set_option maxRecDepth 100000 in
set_option maxHeartbeats 6400000 in
theorem dividePolynomialsI_cap (A A' : Option Addr) (xs ys : List Int) (cap cap' lo hi lo' hi' : Nat) (w : World) (hv : OwnI w lo hi (.slice A xs.length cap) xs) (hu : OwnI w lo' hi' (.slice A' ys.length cap') ys) (hhi : hi ≤ w.heap.size) (hhu : hi' ≤ w.heap.size) (hcap : xs.length ≤ cap) (hok : dvOk xs ys = true) (h0 : 0 < xs.length) :
    Calls Try.prog 28 #[.slice A xs.length cap, .slice A' ys.length cap'] w fun e w' => ∃ g u, e = .returned (.tuple #[.slice (some ⟨g, 0, none⟩) (dvX xs ys).length (dvX xs ys).length, u, .bool true]) ∧ (∃ A c, u = .slice A (dvY xs ys).length c ∧ (dvY xs ys).length ≤ c) ∧ OwnI w' w.heap.size w'.heap.size u (dvY xs ys) ∧ OwnI w' w.heap.size w'.heap.size (.slice (some ⟨g, 0, none⟩) (dvX xs ys).length (dvX xs ys).length) (dvX xs ys) ∧ Below w.heap.size w w' := by
  have hfa : facB xs = true := (of_decide_eq_true hok : dvGood xs ys).1
  have hd : disB ys = true := (of_decide_eq_true hok : dvGood xs ys).2.1
  have HOKK := Lib.hid hok
  clear hok
  obtain ⟨f1, f2, f3⟩ := fac_parts hfa
  obtain ⟨⟨d1, d13⟩, din, dlast⟩ := dis_parts hd
  obtain ⟨ga, pa, ea, -, hga, -, -⟩ := hv.cell (j := 0) h0
  simp only [Value.slice.injEq] at ea
  obtain ⟨rfl, -, rfl⟩ := ea
  obtain ⟨gb, pb, eb, -, hgb, -, -⟩ := hu.cell (j := 0) (by omega)
  simp only [Value.slice.injEq] at eb
  obtain ⟨rfl, -, rfl⟩ := eb
  have HM := Lib.hid (isFactorI (some ⟨ga, 0, none⟩) xs cap lo hi w hv hhi hcap (by omega))
  have HD := Lib.hid (fun W (h : Below w.heap.size w W) => isDivisorI (some ⟨gb, 0, none⟩) ys cap' lo' hi' W (hu.keep h hhu) (Nat.le_trans hhu h.size) (by omega))
  have HCL := Lib.hid (fun W (h : Below w.heap.size w W) => cloneI ga xs cap lo hi W (hv.keep h hhi) (Nat.le_trans hhi h.size) h0 (by omega))
  rw [hfa] at HM
  rw [hd] at HD
  have HGF := Lib.hid hfa
  have HGD := Lib.hid hd
  have HBA := Lib.hid (fun q => inB_at f1 (by omega) q)
  have HBB := Lib.hid (fun q => inB_at din (by omega) q)
  have HU := Lib.hid hu
  obtain ⟨Q, hQ⟩ : ∃ Q, Hid (Q = dQ xs ys) := ⟨_, Lib.hid rfl⟩
  have hQd : Hid (Q = xs.length + 1 - ys.length) := Lib.hid (by rw [hQ.out]; rfl)
  have hQ61 : Q ≤ 61 := by have := hQd.out; omega
  have hmax1 : max ((xs.length : Int) - (ys.length : Int) + 1) (0 : Int) = (Q : Int) := by have := hQd.out; omega
  have hw1 : IntKind.i64.wrap ((xs.length : Int) - (ys.length : Int)) = (xs.length : Int) - (ys.length : Int) := IntWalk.i64_in _ (by omega)
  have hw2 : IntKind.i64.wrap ((xs.length : Int) - (ys.length : Int) + 1) = (xs.length : Int) - (ys.length : Int) + 1 := IntWalk.i64_in _ (by omega)
  have hw3 : IntKind.i64.wrap ((Q : Int) - 1) = (Q : Int) - 1 := IntWalk.i64_in _ (by omega)
  have hmax2 : (if (xs.length : Int) - (ys.length : Int) + 1 < (0 : Int) then (0 : Int) else (xs.length : Int) - (ys.length : Int) + 1) = (Q : Int) := by have := hQd.out; split <;> omega
  have hmax3 : (if (0 : Int) < (xs.length : Int) - (ys.length : Int) + 1 then (xs.length : Int) - (ys.length : Int) + 1 else 0) = (Q : Int) := by have := hQd.out; split <;> omega
  obtain ⟨i0, hi0, hz0, hz1, hzb⟩ := info_parts info3
  clear hu hv hfa hd dlast f3 din f1
  go_enter Try.func28, Try.ntmps28
  go_wp2_with fail
  (with_reducible refine HM.out.mono ?_)
  rintro e w1 ⟨rfl, hb⟩
  have HB1 := Lib.hid hb
  clear hb
  go_wp2_with fail
  (with_reducible refine (HD.out _ ?h).mono ?_)
  case h => exact HB1.out
  rintro e w2 ⟨rfl, hb⟩
  have HB2 := Lib.hid (HB1.out.trans (hb.mono HB1.out.size))
  have hB2 := HB2.out.size
  clear hb
  go_wp2_with fail
  (with_reducible refine (HCL.out _ ?h).mono ?_)
  case h => exact HB2.out
  rintro e w3 ⟨g2, c2, rfl, hnc2, hg2', hg2w, ho3, hb3⟩
  have hg2 : w.heap.size ≤ g2 := by omega
  have HO3 := Lib.hid (ho3.wide hB2 (Nat.le_refl _))
  have HB3 := Lib.hid (HB2.out.trans (hb3.mono hB2))
  have hB3 := HB3.out.size
  clear ho3 hb3
  go_wp2_with (at_make; go_must (refine wpList_make_full _ rfl _ _ 22 rfl w3.heap.size 3 i0 (.int .i64 0) 1 Try.underlying22 hi0 hz0 hz1 .i64 .i64 (Q : Int) (Q : Int) Q rfl rfl rfl rfl (by rw [hzb]; omega) (by unfold maxLen; omega) (Nat.le_refl _) ?_); intro w4 hown4 hgrow4)
  have HT0 := Lib.hid (show TabI w4 w3.heap.size Q (dvQ xs ys 0) from by rw [dvQ_zero]; exact TabI.made hown4)
  have HB4 := Lib.hid (HB3.out.grown hgrow4 hB3 (fun k hk => nomatch hk))
  have HO4 := Lib.hid (HO3.out.keep ((Below.refl w3.heap.size w3).grown hgrow4 (Nat.le_refl _) (fun k hk => nomatch hk)) (Nat.le_refl _))
  clear hown4 hgrow4 HO3 HB3
  go_loopw [9] (fun y wr => ∃ k : Nat, k ≤ Q ∧ y = .int .i64 ((Q : Int) - 1 - (k : Int)) ∧ Hid (dvC xs ys k) ∧ OwnI wr w.heap.size w3.heap.size (.slice (some ⟨g2, 0, none⟩) xs.length c2) ((List.range xs.length).map (dvR xs ys k)) ∧ TabI wr w3.heap.size Q (dvQ xs ys k) ∧ Below w.heap.size w wr) (fun y _ => (intOf y + 1).toNat)
  case atStart => exact ⟨0, Nat.zero_le _, by simp, Lib.hid fun i h => absurd h (Nat.not_lt_zero _), by rw [mapR_zero]; exact HO4.out, HT0.out, HB4.out⟩
  case round =>
    obtain ⟨k, hk, rfl, HC, ho, ht, hb⟩ := hrel
    have HO := Lib.hid ho
    have HT := Lib.hid ht
    have HB := Lib.hid hb
    have hBz := hb.size
    have hTz := ht.lt
    clear HO4 HT0 HB4 hb
    by_cases hlt : k < Q
    · obtain ⟨p, hp⟩ : ∃ p, p = Q - 1 - k := ⟨_, rfl⟩
      have hpi : (Q : Int) - 1 - (k : Int) = (p : Int) := by omega
      have hpQ : (p : Int) < (Q : Int) := by omega
      have hpQn : p < Q := by omega
      obtain ⟨t0, ht0⟩ : ∃ t0, t0 = p + ys.length - 1 := ⟨_, rfl⟩
      have ht0i : (p : Int) + (ys.length : Int) - 1 = (t0 : Int) := by omega
      have hwa : IntKind.i64.wrap ((p : Int) + (ys.length : Int)) = (p : Int) + (ys.length : Int) := IntWalk.i64_in _ (by omega)
      have hwb : IntKind.i64.wrap (t0 : Int) = (t0 : Int) := IntWalk.i64_in _ (by omega)
      have ht0n : t0 < xs.length := by have := hQd.out; omega
      have ht0l : (t0 : Int) < (xs.length : Int) := by omega
      have hp0 : (0 : Int) ≤ (p : Int) := by omega
      have HPQ := Lib.hid (show dQ xs ys - 1 - k = p by rw [← hQ.out]; exact hp.symm)
      have hTT := Lib.hid (show dvR xs ys k t0 = dvT xs ys k by unfold dvT; rw [HPQ.out, ht0])
      obtain ⟨g5, c5, e5, -, -, hcr, hfr⟩ := ho.cell (j := t0) (by rw [mapR_len]; exact ht0n)
      simp only [Value.slice.injEq, Option.some.injEq, Addr.mk.injEq] at e5
      obtain ⟨⟨rfl, -⟩, -⟩ := e5
      rw [mapR_at _ ht0n, hTT.out] at hcr
      have HQS := Lib.hid (dvQ_succ xs ys (k := k) (by rw [← hQ.out]; exact hlt))
      rw [HPQ.out] at HQS
      have HRB := Lib.hid (fun q => dvR_bd HBA.out HBB.out k HC.out q)
      have HNX := Lib.hid (fun j => dvI_succ xs ys k j)
      have HHE := Lib.hid (fun j => dvI_here xs ys k j)
      rw [HPQ.out] at HNX HHE
      have HN3 := Lib.hid (fun (h : ¬ (-1000000000 ≤ dvT xs ys k ∧ dvT xs ys k ≤ 1000000000)) => dv_no3 (a := xs) (b := ys) (k := k) (by rw [← hQ.out]; exact hlt) h)
      have HCS := Lib.hid (fun (h : -1000000000 ≤ dvT xs ys k ∧ dvT xs ys k ≤ 1000000000) => show dvC xs ys (k + 1) from fun i hi => by
        by_cases e : i = k
        · subst e; exact h
        · exact HC.out i (by omega))
      rw [hpi]
      generalize dvT xs ys k = f at *
      clear hp ht0 ho
      by_cases hf : -1000000000 ≤ f ∧ f ≤ 1000000000
      · have HI3 := Lib.hid (fun W => (show Calls Try.prog 44 #[.int .i64 f, .int .i64 1000000000] W (fun e w' => e = .returned (.bool true) ∧ W = w') from by have h2 := isWithin f 1000000000 W (by omega) (by omega); rw [decide_eq_true hf.1, decide_eq_true hf.2] at h2; exact h2))
        have HC2 := Lib.hid (HCS.out hf)
        obtain ⟨hc3, hf3⟩ := ht.cell (j := p) hpQn
        have HTq := Lib.hid (show TabI (wr.setCell ⟨w3.heap.size, p, none⟩ (.int .i64 f)) w3.heap.size Q (dvQ xs ys (k + 1)) from by rw [HQS.out]; exact HT.out.set (k := p) hpQn f)
        have HOr := Lib.hid (show OwnI (wr.setCell ⟨w3.heap.size, p, none⟩ (.int .i64 f)) w.heap.size w3.heap.size (.slice (some ⟨g2, 0, none⟩) xs.length c2) ((List.range xs.length).map (dvI xs ys k 0)) from by rw [dvI_zero]; exact HO.out.farHi (Nat.le_refl _))
        have HBr := Lib.hid (HB.out.setCell (p := ⟨w3.heap.size, p, none⟩) hB3 (.int .i64 f))
        clear ht hTT
        go_wp2_with fail
        (with_reducible refine (HI3.out _).mono ?_)
        rintro e w' ⟨rfl, rfl⟩
        go_wp2
        go_loopw [55] (fun y wr => ∃ j : Nat, j ≤ ys.length ∧ y = .int .i64 j ∧ OwnI wr w.heap.size w3.heap.size (.slice (some ⟨g2, 0, none⟩) xs.length c2) ((List.range xs.length).map (dvI xs ys k j)) ∧ TabI wr w3.heap.size Q (dvQ xs ys (k + 1)) ∧ Below w.heap.size w wr) (fun y _ => ys.length - (intOf y).toNat)
        case atStart => exact ⟨0, Nat.zero_le _, rfl, HOr.out, HTq.out, HBr.out⟩
        case round =>
          obtain ⟨j, hj, rfl, ho, ht, hb⟩ := hrel
          have HO2 := Lib.hid ho
          have HT2 := Lib.hid ht
          have HB2 := Lib.hid hb
          clear hc3 hf3 hcr hfr
          by_cases hltj : j < ys.length
          · have hji : (j : Int) < (ys.length : Int) := by omega
            obtain ⟨t, htt⟩ : ∃ t, t = p + j := ⟨_, rfl⟩
            have hti : (p : Int) + (j : Int) = (t : Int) := by omega
            have htn : t < xs.length := by have := hQd.out; omega
            have htl : (t : Int) < (xs.length : Int) := by omega
            obtain ⟨g5, c5, e5, -, -, hcr, hfr⟩ := ho.cell (j := t) (by rw [mapR_len]; exact htn)
            simp only [Value.slice.injEq, Option.some.injEq, Addr.mk.injEq] at e5
            obtain ⟨⟨rfl, -⟩, -⟩ := e5
            have HHT := Lib.hid (HHE.out j)
            have HNT := Lib.hid (HNX.out j)
            rw [← htt] at HHT HNT
            rw [mapR_at _ htn, HHT.out] at hcr
            obtain ⟨g6, c6, e6, -, -, hcb, -⟩ := (HU.out.keep hb hhu).cell (j := j) hltj
            simp only [Value.slice.injEq, Option.some.injEq, Addr.mk.injEq] at e6
            obtain ⟨⟨rfl, -⟩, -⟩ := e6
            have b1 := HRB.out t
            have b2 := HBB.out j
            clear ho ht hb htt
            generalize dvR xs ys k t = c at *
            generalize ys.getD j 0 = z at *
            have b3 := one_mul_in hf b2
            generalize hpp : f * z = pz at *
            have v1 : IntKind.i64.wrap pz = pz := IntWalk.i64_in _ (by omega)
            have v2 : IntKind.i64.wrap (c - pz) = c - pz := IntWalk.i64_in _ (by omega)
            go_wp2
            go_roundw
            case rel => exact ⟨j + 1, by omega, by simp, by rw [HNT.out]; exact (HO2.out.upd htn), (HT2.out.keep (Below.heap_setCell _ ⟨g2, t, none⟩ _ _ (by show w3.heap.size ≠ g2; omega))), (HB2.out.setCell (p := ⟨g2, t, none⟩) (by show w.heap.size ≤ g2; exact hg2) _)⟩
            case measure => simp [intOf]; omega
          · obtain rfl : j = ys.length := by omega
            have hwc : IntKind.i64.wrap ((p : Int) - 1) = (p : Int) - 1 := IntWalk.i64_in _ (by omega)
            clear ho ht hb
            go_wp2
            exact ⟨⟨k + 1, by omega, by congr 1; omega, HC2, by rw [← dvI_full]; exact HO2.out, HT2.out, HB2.out⟩, by simp [intOf]⟩
      · have HI3 := Lib.hid (fun W => (show Calls Try.prog 44 #[.int .i64 f, .int .i64 1000000000] W (fun e w' => e = .returned (.bool false) ∧ W = w') from by have h2 := isWithin f 1000000000 W (by omega) (by omega); rw [show (decide (-1000000000 ≤ f) && decide (f ≤ 1000000000)) = false by rw [← Bool.decide_and]; exact decide_eq_false hf] at h2; exact h2))
        have HON := Lib.hid (HN3.out hf)
        clear ht hTT hf
        go_wp2_with fail
        (with_reducible refine (HI3.out _).mono ?_)
        rintro e w' ⟨rfl, rfl⟩
        go_wp2
        go_ret3
        exact absurd (HOKK.out.symm.trans HON.out) (by simp)
    · obtain rfl : k = Q := by omega
      have hm1 : (k : Int) - 1 - (k : Int) = -1 := by omega
      rw [hm1]
      clear ho ht
      have hql : (quL xs ys).length = k := by rw [quL_len, hQ.out]
      have HQq := Lib.hid (show OwnI wr w3.heap.size (w3.heap.size + 1) (.slice (some ⟨w3.heap.size, 0, none⟩) k k) (quL xs ys) from OwnI.of_tab HT.out hql (Nat.le_refl _) (fun j hj => by rw [quL_at xs ys (by rw [← hQ.out]; exact hj), ← hQ.out]) (Nat.le_refl _) (Nat.lt_succ_self _))
      have HPL := Lib.hid (quL_ply HGF.out HGD.out (by rw [← hQ.out]; exact HC.out))
      have HTR := Lib.hid (trL_ply HPL.out)
      have HRL := Lib.hid (show reL xs ys = (List.range xs.length).map (dvR xs ys k) by unfold reL; rw [← hQ.out])
      have hrl : (reL xs ys).length = xs.length := reL_len xs ys
      have HSB := Lib.hid (show SubI wr (some ⟨g2, 0, none⟩) c2 (reL xs ys) from ⟨by rw [hrl]; exact hnc2, fun j hj => by
        obtain ⟨g5, c5, e5, -, -, hc5, -⟩ := HO.out.cell (j := j) (by rw [mapR_len]; rw [hrl] at hj; exact hj)
        simp only [Value.slice.injEq, Option.some.injEq, Addr.mk.injEq] at e5
        obtain ⟨⟨rfl, -⟩, -⟩ := e5
        exact ⟨g2, 0, rfl, by rw [HRL.out, Nat.zero_add]; exact hc5⟩⟩)
      have HT1 := Lib.hid (trimmed (some ⟨g2, 0, none⟩) (reL xs ys) c2 wr HSB.out (by omega))
      rw [hrl] at HT1
      have hyl : (trL (reL xs ys)).length ≤ xs.length := by have := trL_le (reL xs ys); omega
      have hyn : (trL (reL xs ys)).length = trN (reL xs ys) xs.length := by rw [trL_len, hrl]
      have HOT := Lib.hid (show OwnI wr w.heap.size w3.heap.size (.slice (some ⟨g2, 0, none⟩) (trN (reL xs ys) xs.length) c2) (trL (reL xs ys)) from by
        have h2 : OwnI wr w.heap.size w3.heap.size (.slice (some ⟨g2, 0, none⟩) xs.length c2) (reL xs ys) := by rw [HRL.out]; exact HO.out
        obtain ⟨A5, c5, e5, h5⟩ := h2
        refine ⟨some ⟨g2, 0, none⟩, c2, by rw [hyn], ?_⟩
        rcases h5 with h5 | ⟨b5, C5, a1, a2, a3, a4, a5⟩
        · have : (reL xs ys).length = 0 := by rw [h5]; rfl
          omega
        · simp only [Value.slice.injEq] at e5
          obtain ⟨rfl, -, rfl⟩ := e5
          simp only [Option.some.injEq, Addr.mk.injEq] at a3
          obtain ⟨rfl, -⟩ := a3
          refine .inr ⟨g2, C5, a1, a2, rfl, a4, fun j hj => ?_⟩
          have hj2 : j < (reL xs ys).length := by omega
          rw [a5 j hj2]
          have hjn : j < trN (reL xs ys) (reL xs ys).length := by rw [hrl, ← hyn]; exact hj
          unfold trL
          simp [List.getD, hjn])
      have HP6 := Lib.hid (show Calls Try.prog 46 #[.slice (some ⟨g2, 0, none⟩) (trN (reL xs ys) xs.length) c2] wr (fun e w' => e = .returned (.bool (plyB (trL (reL xs ys)))) ∧ Below wr.heap.size wr w') from by
        have h2 := isPolynomialI (some ⟨g2, 0, none⟩) (trL (reL xs ys)) c2 w.heap.size w3.heap.size wr (by rw [hyn]; exact HOT.out) (Nat.le_of_lt hTz) (by omega) (by omega)
        rw [hyn] at h2
        exact h2)
      have HGC := Lib.hid (show ∀ i, i < dQ xs ys → -1000000000 ≤ dvT xs ys i ∧ dvT xs ys i ≤ 1000000000 from by rw [← hQ.out]; exact HC.out)
      generalize trN (reL xs ys) xs.length = T at *
      rcases hpl : plyB (trL (reL xs ys)) with _ | _
      · have HON := Lib.hid (dv_no4 hpl)
        rw [hpl] at HP6
        clear hpl
        go_wp2_with fail
        (with_reducible refine HT1.out.mono ?_)
        rintro e w' ⟨rfl, rfl⟩
        go_wp2_with fail
        (with_reducible refine HP6.out.mono ?_)
        rintro e w6 ⟨rfl, hb6⟩
        go_wp2
        go_ret3
        exact absurd (HOKK.out.symm.trans HON.out) (by simp)
      · have HOK := Lib.hid (show dvOk xs ys = true from decide_eq_true ⟨HGF.out, HGD.out, HGC.out, hpl⟩)
        have HX := Lib.hid (show dvX xs ys = quL xs ys from if_pos HOK.out)
        have HY := Lib.hid (show dvY xs ys = trL (reL xs ys) from if_pos HOK.out)
        rw [hpl] at HP6
        clear hpl
        go_wp2_with fail
        (with_reducible refine HT1.out.mono ?_)
        rintro e w' ⟨rfl, rfl⟩
        go_wp2_with fail
        (with_reducible refine HP6.out.mono ?_)
        rintro e w6 ⟨rfl, hb6⟩
        have hb6z := hb6.size
        go_wp2
        go_ret3
        have hxl : (dvX xs ys).length = k := by rw [HX.out]; exact hql
        have hyl2 : (dvY xs ys).length = T := by rw [HY.out]; exact hyn
        rw [hxl, hyl2]
        exact ⟨w3.heap.size, _, rfl, ⟨_, _, rfl, by omega⟩, by rw [HY.out]; exact (HOT.out.keep hb6 (Nat.le_of_lt hTz)).wide (Nat.le_refl _) (by omega), by rw [HX.out]; exact (HQq.out.keep hb6 hTz).wide hB3 (by omega), HB.out.trans (hb6.mono hBz)⟩

end Go.Proofs.Ytpelicepgeoopaa
