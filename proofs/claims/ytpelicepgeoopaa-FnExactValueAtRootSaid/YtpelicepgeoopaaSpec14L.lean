/- The model's l14Divide, where what is divided is as DividePolynomials wants it (written by tools/mk14l.py out of Spec14E). -/
import Derived.Test.YtpelicepgeoopaaSpec14E
namespace Go.Proofs.Ytpelicepgeoopaa
open Go.ChangeShapes Go.WideShapes Go.ChangeAt Go.RowKit
set_option linter.unusedVariables false

set_option maxRecDepth 100000 in
set_option maxHeartbeats 6400000 in
theorem l14Divide (A A' : Option Addr) (xs ys : List Int) (cap cap' lo hi lo' hi' : Nat) (w : World) (hv : OwnI w lo hi (.slice A xs.length cap) xs) (hu : OwnI w lo' hi' (.slice A' ys.length cap') ys) (hhi : hi ≤ w.heap.size) (hhu : hi' ≤ w.heap.size) (hok : dvOk xs ys = true) (h0 : 0 < xs.length) :
    Calls Try.prog 25 #[.slice A xs.length cap, .slice A' ys.length cap'] w fun e w' => ∃ v u, e = .returned (.tuple #[v, u]) ∧ OwnI w' w.heap.size w'.heap.size v (dvX xs ys) ∧ OwnI w' w.heap.size w'.heap.size u (dvY xs ys) ∧ Below w.heap.size w w' := by
  have hfa : facB xs = true := (of_decide_eq_true hok : dvGood xs ys).1
  have hd : disB ys = true := (of_decide_eq_true hok : dvGood xs ys).2.1
  have HGOOD := Lib.hid (of_decide_eq_true hok : dvGood xs ys).2.2.1
  have HX := Lib.hid (show dvX xs ys = quL xs ys from if_pos hok)
  have HY := Lib.hid (show dvY xs ys = trL (reL xs ys) from if_pos hok)
  obtain ⟨f1, f2, f3⟩ := fac_parts hfa
  obtain ⟨⟨d1, d13⟩, din, dlast⟩ := dis_parts hd
  have HGF := Lib.hid hfa
  have HGD := Lib.hid hd
  have HBA := Lib.hid (fun q => inB_at f1 (by omega) q)
  have HBB := Lib.hid (fun q => inB_at din (by omega) q)
  have HV := Lib.hid hv
  have HU := Lib.hid hu
  have HF3 := Lib.hid f3
  obtain ⟨q, hq⟩ : ∃ q, q = ys.length - 1 := ⟨_, rfl⟩
  have hqi : (ys.length : Int) - 1 = (q : Int) := by omega
  have hqw : IntKind.i64.wrap (q : Int) = (q : Int) := IntWalk.i64_in _ (by omega)
  have hql : (q : Int) < (ys.length : Int) := by omega
  have hqq : q + 1 = ys.length := by omega
  obtain ⟨g1, p1, e1, -, -, hc1, -⟩ := hu.cell (j := q) (by omega)
  simp only [Value.slice.injEq] at e1
  obtain ⟨rfl, -, rfl⟩ := e1
  rw [show ys.getD q 0 = 1 by rw [hq]; exact dlast] at hc1
  obtain ⟨ga, pa, ea, -, hga, -, -⟩ := hv.cell (j := 0) h0
  simp only [Value.slice.injEq] at ea
  obtain ⟨rfl, -, rfl⟩ := ea
  have HXC := Lib.hid (fun j (hj : j < xs.length) => show w.cell? ⟨ga, 0 + j, none⟩ = some (.int .i64 (xs.getD j 0)) by
    obtain ⟨g5, p5, e5, -, -, hc5, -⟩ := HV.out.cell (j := j) hj
    simp only [Value.slice.injEq, Option.some.injEq, Addr.mk.injEq] at e5
    obtain ⟨⟨rfl, -⟩, -⟩ := e5
    rw [Nat.zero_add]; exact hc5)
  obtain ⟨Q, hQ⟩ : ∃ Q, Hid (Q = dQ xs ys) := ⟨_, Lib.hid rfl⟩
  have hQd : Hid (Q = xs.length + 1 - ys.length) := Lib.hid (by rw [hQ.out]; rfl)
  have hQ61 : Q ≤ 61 := by have := hQd.out; omega
  have hmax1 : max (0 : Int) ((xs.length : Int) - (ys.length : Int) + 1) = (Q : Int) := by have := hQd.out; omega
  have hw1 : IntKind.i64.wrap ((xs.length : Int) - (ys.length : Int)) = (xs.length : Int) - (ys.length : Int) := IntWalk.i64_in _ (by omega)
  have hw2 : IntKind.i64.wrap ((xs.length : Int) - (ys.length : Int) + 1) = (xs.length : Int) - (ys.length : Int) + 1 := IntWalk.i64_in _ (by omega)
  have hw3 : IntKind.i64.wrap ((Q : Int) - 1) = (Q : Int) - 1 := IntWalk.i64_in _ (by omega)
  have hmax2 : (if (0 : Int) < (xs.length : Int) - (ys.length : Int) + 1 then (xs.length : Int) - (ys.length : Int) + 1 else 0) = (Q : Int) := by have := hQd.out; split <;> omega
  have hmax3 : (if (xs.length : Int) - (ys.length : Int) + 1 < (0 : Int) then (0 : Int) else (xs.length : Int) - (ys.length : Int) + 1) = (Q : Int) := by have := hQd.out; split <;> omega
  have HROW0 := Lib.hid (World.ownsRow_made (base := w.heap.size) (e := 3) (size := 1) w #[] 0 (Nat.le_refl _) (Nat.zero_le _) (by simp))
  have hgaw : ga < w.heap.size := by omega
  obtain ⟨i0, hi0, hz0, hz1, hzb⟩ := info_parts info3
  clear hq hu hv hfa hd dlast f3 din f1 hok hc1
  go_enter Try.func25, Try.ntmps25
  go_wp2_with (first
    | (at_builtin; go_must (refine wpAppA rfl _ _ rfl w.heap.size _ 0 [] xs rfl HROW0.out ga 0 xs.length _ rfl rfl (fun j hj => (World.cell?_alloc_lt w _ ⟨ga, 0 + j, none⟩ hgaw).trans (HXC.out j hj)) (by omega) (by omega) (by simp) ?_); intro v3 w3 hown3 hg3)
    | (at_make; go_must (refine wpList_make_full _ rfl _ _ 22 rfl w3.heap.size 3 i0 (.int .i64 0) 1 Try.underlying22 hi0 hz0 hz1 .i64 .i64 (Q : Int) (Q : Int) Q rfl rfl rfl rfl (by rw [hzb]; omega) (by unfold maxLen; omega) (Nat.le_refl _) ?_); intro w4 hown4 hgrow4))
  rw [List.nil_append, Nat.zero_add] at hown3
  have HO3 := OwnI.of_row hown3
  rcases hown3.2 with ⟨rfl, hz⟩ | ⟨g2, c2, cur2, rfl, hg2, hh2, hnc2, -⟩
  · omega
  have hg2w : g2 < w3.heap.size := (Array.getElem?_eq_some_iff.1 hh2).1
  have HB3 : Below w.heap.size w w3 := ((Below.refl _ w).alloc (Nat.le_refl _) _).grown hg3 (by simp) (fun k hk => (World.ownsRow.lt HROW0.out k hk).1)
  have hB3 := HB3.size
  have HT0 := Lib.hid (show TabI w4 w3.heap.size Q (dvQ xs ys 0) from by rw [dvQ_zero]; exact TabI.made hown4)
  have HB4 := Lib.hid (HB3.grown hgrow4 HB3.size (fun k hk => nomatch hk))
  have HO4 := Lib.hid (HO3.keep ((Below.refl w3.heap.size w3).grown hgrow4 (Nat.le_refl _) (fun k hk => nomatch hk)) (Nat.le_refl _))
  clear hown3 hown4 hgrow4 hg3 hh2 HO3 HB3
  go_loopw [8] (fun y wr => ∃ k : Nat, k ≤ Q ∧ y = .int .i64 ((Q : Int) - 1 - (k : Int)) ∧ Hid (dvC xs ys k) ∧ OwnI wr w.heap.size w3.heap.size (.slice (some ⟨g2, 0, none⟩) xs.length c2) ((List.range xs.length).map (dvR xs ys k)) ∧ TabI wr w3.heap.size Q (dvQ xs ys k) ∧ Below w.heap.size w wr) (fun y _ => (intOf y + 1).toNat)
  case atStart => exact ⟨0, Nat.zero_le _, by simp, Lib.hid fun i h => absurd h (Nat.not_lt_zero _), by rw [mapR_zero]; exact HO4.out, HT0.out, HB4.out⟩
  case round =>
    obtain ⟨k, hk, rfl, HC, ho, ht, hb⟩ := hrel
    have HO := Lib.hid ho
    have HT := Lib.hid ht
    have HB := Lib.hid hb
    have hBz := hb.size
    have hTz := ht.lt
    clear HO4 HT0 HB4 hb
    by_cases hlt : k < Q
    · obtain ⟨p, hp⟩ : ∃ p, p = Q - 1 - k := ⟨_, rfl⟩
      have hpi : (Q : Int) - 1 - (k : Int) = (p : Int) := by omega
      have hpQ : (p : Int) < (Q : Int) := by omega
      have hpQn : p < Q := by omega
      obtain ⟨t0, ht0⟩ : ∃ t0, t0 = p + ys.length - 1 := ⟨_, rfl⟩
      have ht0i : (p : Int) + (ys.length : Int) - 1 = (t0 : Int) := by omega
      have hwa : IntKind.i64.wrap ((p : Int) + (ys.length : Int)) = (p : Int) + (ys.length : Int) := IntWalk.i64_in _ (by omega)
      have hwb : IntKind.i64.wrap (t0 : Int) = (t0 : Int) := IntWalk.i64_in _ (by omega)
      have ht0n : t0 < xs.length := by have := hQd.out; omega
      have ht0l : (t0 : Int) < (xs.length : Int) := by omega
      have hp0 : (0 : Int) ≤ (p : Int) := by omega
      have HPQ := Lib.hid (show dQ xs ys - 1 - k = p by rw [← hQ.out]; exact hp.symm)
      have hTT := Lib.hid (show dvR xs ys k t0 = dvT xs ys k by unfold dvT; rw [HPQ.out, ht0])
      obtain ⟨g5, c5, e5, -, -, hcr, hfr⟩ := ho.cell (j := t0) (by rw [mapR_len]; exact ht0n)
      simp only [Value.slice.injEq, Option.some.injEq, Addr.mk.injEq] at e5
      obtain ⟨⟨rfl, -⟩, -⟩ := e5
      rw [mapR_at _ ht0n, hTT.out] at hcr
      have HQS := Lib.hid (dvQ_succ xs ys (k := k) (by rw [← hQ.out]; exact hlt))
      rw [HPQ.out] at HQS
      have HRB := Lib.hid (fun q => dvR_bd HBA.out HBB.out k HC.out q)
      have hf := HGOOD.out k (by rw [← hQ.out]; exact hlt)
      have HNX := Lib.hid (fun j => dvI_succ xs ys k j)
      have HHE := Lib.hid (fun j => dvI_here xs ys k j)
      rw [HPQ.out] at HNX HHE
      have HN3 := Lib.hid (fun (h : ¬ (-1000000000 ≤ dvT xs ys k ∧ dvT xs ys k ≤ 1000000000)) => dv_no3 (a := xs) (b := ys) (k := k) (by rw [← hQ.out]; exact hlt) h)
      have HCS := Lib.hid (fun (h : -1000000000 ≤ dvT xs ys k ∧ dvT xs ys k ≤ 1000000000) => show dvC xs ys (k + 1) from fun i hi => by
        by_cases e : i = k
        · subst e; exact h
        · exact HC.out i (by omega))
      rw [hpi]
      generalize dvT xs ys k = f at *
      clear hp ht0 ho
      have HC2 := Lib.hid (HCS.out hf)
      obtain ⟨hc3, hf3⟩ := ht.cell (j := p) hpQn
      have HTq := Lib.hid (show TabI (wr.setCell ⟨w3.heap.size, p, none⟩ (.int .i64 f)) w3.heap.size Q (dvQ xs ys (k + 1)) from by rw [HQS.out]; exact HT.out.set (k := p) hpQn f)
      have HOr := Lib.hid (show OwnI (wr.setCell ⟨w3.heap.size, p, none⟩ (.int .i64 f)) w.heap.size w3.heap.size (.slice (some ⟨g2, 0, none⟩) xs.length c2) ((List.range xs.length).map (dvI xs ys k 0)) from by rw [dvI_zero]; exact HO.out.farHi (Nat.le_refl _))
      have HBr := Lib.hid (HB.out.setCell (p := ⟨w3.heap.size, p, none⟩) hB3 (.int .i64 f))
      clear ht hTT
      go_wp2
      go_loopw [10] (fun y wr => ∃ j : Nat, j ≤ ys.length ∧ y = .int .i64 j ∧ OwnI wr w.heap.size w3.heap.size (.slice (some ⟨g2, 0, none⟩) xs.length c2) ((List.range xs.length).map (dvI xs ys k j)) ∧ TabI wr w3.heap.size Q (dvQ xs ys (k + 1)) ∧ Below w.heap.size w wr) (fun y _ => ys.length - (intOf y).toNat)
      case atStart => exact ⟨0, Nat.zero_le _, rfl, HOr.out, HTq.out, HBr.out⟩
      case round =>
        obtain ⟨j, hj, rfl, ho, ht, hb⟩ := hrel
        have HO2 := Lib.hid ho
        have HT2 := Lib.hid ht
        have HB2 := Lib.hid hb
        clear hc3 hf3 hcr hfr
        by_cases hltj : j < ys.length
        · have hji : (j : Int) < (ys.length : Int) := by omega
          obtain ⟨t, htt⟩ : ∃ t, t = p + j := ⟨_, rfl⟩
          have hti : (p : Int) + (j : Int) = (t : Int) := by omega
          have htn : t < xs.length := by have := hQd.out; omega
          have htl : (t : Int) < (xs.length : Int) := by omega
          obtain ⟨g5, c5, e5, -, -, hcr, hfr⟩ := ho.cell (j := t) (by rw [mapR_len]; exact htn)
          simp only [Value.slice.injEq, Option.some.injEq, Addr.mk.injEq] at e5
          obtain ⟨⟨rfl, -⟩, -⟩ := e5
          have HHT := Lib.hid (HHE.out j)
          have HNT := Lib.hid (HNX.out j)
          rw [← htt] at HHT HNT
          rw [mapR_at _ htn, HHT.out] at hcr
          obtain ⟨g6, c6, e6, -, -, hcb, -⟩ := (HU.out.keep hb hhu).cell (j := j) hltj
          simp only [Value.slice.injEq, Option.some.injEq, Addr.mk.injEq] at e6
          obtain ⟨⟨rfl, -⟩, -⟩ := e6
          have b1 := HRB.out t
          have b2 := HBB.out j
          clear ho ht hb htt
          generalize dvR xs ys k t = c at *
          generalize ys.getD j 0 = z at *
          have b3 := one_mul_in hf b2
          generalize hpp : f * z = pz at *
          have v1 : IntKind.i64.wrap pz = pz := IntWalk.i64_in _ (by omega)
          have v2 : IntKind.i64.wrap (c - pz) = c - pz := IntWalk.i64_in _ (by omega)
          go_wp2
          go_region
          all_goals go_wp2
          all_goals go_roundw
          case rel => exact ⟨j + 1, by omega, by simp, by rw [HNT.out]; exact (HO2.out.upd htn).keep ((Below.refl w3.heap.size _).drew) (Nat.le_refl _), (HT2.out.keep (Below.heap_setCell _ ⟨g2, t, none⟩ _ _ (by show w3.heap.size ≠ g2; omega))).keep rfl, (HB2.out.setCell (p := ⟨g2, t, none⟩) (by show w.heap.size ≤ g2; exact hg2) _).drew⟩
          case measure => simp [intOf]; omega
        · obtain rfl : j = ys.length := by omega
          have hwc : IntKind.i64.wrap ((p : Int) - 1) = (p : Int) - 1 := IntWalk.i64_in _ (by omega)
          clear ho ht hb
          go_wp2
          exact ⟨⟨k + 1, by omega, by congr 1; omega, HC2, by rw [← dvI_full]; exact HO2.out, HT2.out, HB2.out⟩, by simp [intOf]⟩
    · obtain rfl : k = Q := by omega
      have hm1 : (k : Int) - 1 - (k : Int) = -1 := by omega
      rw [hm1]
      clear ho ht
      have hql : (quL xs ys).length = k := by rw [quL_len, hQ.out]
      have HQq := Lib.hid (show OwnI wr w3.heap.size (w3.heap.size + 1) (.slice (some ⟨w3.heap.size, 0, none⟩) k k) (quL xs ys) from OwnI.of_tab HT.out hql (Nat.le_refl _) (fun j hj => by rw [quL_at xs ys (by rw [← hQ.out]; exact hj), ← hQ.out]) (Nat.le_refl _) (Nat.lt_succ_self _))
      have HPL := Lib.hid (quL_ply HGF.out HGD.out (by rw [← hQ.out]; exact HC.out))
      have HTR := Lib.hid (trL_ply HPL.out)
      have HRL := Lib.hid (show reL xs ys = (List.range xs.length).map (dvR xs ys k) by unfold reL; rw [← hQ.out])
      have hrl : (reL xs ys).length = xs.length := reL_len xs ys
      have HT1 := Lib.hid (l14Trim w3.heap.size (quL xs ys) k w3.heap.size (w3.heap.size + 1) wr (by rw [hql]; exact HQq.out) hTz hTz (by omega) (by omega))
      rw [hql, HTR.out] at HT1
      have HT2 := Lib.hid (fun W (h : Below wr.heap.size wr W) => l14Trim g2 (reL xs ys) c2 w.heap.size w3.heap.size W (by rw [hrl, HRL.out]; exact HO.out.keep h (Nat.le_of_lt hTz)) (Nat.le_trans (Nat.le_of_lt hTz) h.size) (Nat.lt_of_lt_of_le hg2w (Nat.le_trans (Nat.le_of_lt hTz) h.size)) (by rw [hrl]; exact hnc2) (by omega))
      rw [hrl] at HT2
      go_wp2_with fail
      (with_reducible refine HT1.out.mono ?_)
      rintro e w5 ⟨v5, rfl, ho5, hb5⟩
      have HO5 := Lib.hid ho5
      have HB5 := Lib.hid (HB.out.trans (hb5.mono hBz))
      have HBS := Lib.hid hb5
      clear ho5 hb5
      go_wp2_with fail
      (with_reducible refine (HT2.out _ ?h).mono ?_)
      case h => exact HBS.out
      rintro e w6 ⟨v6, rfl, ho6, hb6⟩
      have HO56 := Lib.hid (HO5.out.keep hb6 (Nat.le_refl _))
      have HB6 := Lib.hid (HB5.out.trans (hb6.mono HB5.out.size))
      have hz6 := hb6.size
      have HO6 := Lib.hid (ho6.wide HB5.out.size (Nat.le_refl _))
      clear ho6 hb6
      go_wp2
      go_ret2
      exact ⟨_, _, rfl, by rw [HX.out]; exact HO56.out.wide hBz hz6, by rw [HY.out]; exact HO6.out, HB6.out⟩

end Go.Proofs.Ytpelicepgeoopaa
