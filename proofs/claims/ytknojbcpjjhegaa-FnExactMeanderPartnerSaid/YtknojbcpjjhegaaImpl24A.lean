/- The program's countLoops, TraceLoops, LoopsOf, IsMeander. -/
import Derived.Test.YtknojbcpjjhegaaImpl23A
import Derived.Test.YtknojbcpjjhegaaLoop23
namespace Go.Proofs.Ytknojbcpjjhegaa
open Go.ChangeShapes Go.WideShapes Go.ChangeAt Go.RowKit
set_option linter.unusedVariables false

set_option maxRecDepth 100000 in
set_option maxHeartbeats 3200000 in
theorem countLoopsI (A A' : Option Addr) (xs ys : List Int) (n cap cap' lo hi lo' hi' : Nat) (w : World) (g : Nat) (s0 : Nat → Bool) (hv : OwnI w lo hi (.slice A n cap) xs) (hu : OwnI w lo' hi' (.slice A' n cap') ys) (hhi : hi ≤ g) (hhu : hi' ≤ g)
    (hx : xs.length = n) (hy : ys.length = n) (hrx : InR xs n) (hry : InR ys n) (ht : TkB w g n s0) (h16 : n ≤ 16) :
    Calls Try.prog 58 #[.slice A n cap, .slice A' n cap', .slice (some ⟨g, 0, none⟩) n n] w fun e w' => e = .returned (.int .i64 ((ccO xs ys n s0 n).2 : Nat)) ∧ Below g w w' := by
  have HV := Lib.hid hv
  have HU := Lib.hid hu
  have HRX := Lib.hid hrx
  have HRY := Lib.hid hry
  have HT0 := Lib.hid ht
  have HX := Lib.hid hx
  have HY := Lib.hid hy
  have HCL := Lib.hid (fun i => ccO_le xs ys n s0 i)
  have HB0 := Lib.hid (Below.refl g w)
  clear hv hu hrx hry ht hx hy
  go_enter Try.func58, Try.ntmps58
  go_wp2
  go_loopw [7, 12] (fun x y wr => ∃ i : Nat, i ≤ n ∧ y = .int .i64 i ∧ x = .int .i64 ((ccO xs ys n s0 i).2 : Nat) ∧ TkB wr g n (ccO xs ys n s0 i).1 ∧ Below g w wr) (fun _ y _ => n - (intOf y).toNat)
  case atStart => exact ⟨0, Nat.zero_le _, rfl, rfl, HT0.out, HB0.out⟩
  case round =>
    obtain ⟨i, hi, rfl, rfl, htk, hb⟩ := hrel
    have HT := Lib.hid htk
    have HB4 := Lib.hid hb
    have hcl := HCL.out i
    clear htk hb HT0 HB0
    have HHIT := Lib.hid (fun h => ccO_hit (a := xs) (b := ys) (n := n) (s0 := s0) (i := i) h)
    have HGO := Lib.hid (fun h => ccO_go (a := xs) (b := ys) (n := n) (s0 := s0) (i := i) h)
    obtain ⟨S, hS⟩ : ∃ S, S = (ccO xs ys n s0 i).1 := ⟨_, rfl⟩
    obtain ⟨c, hc⟩ : ∃ c, c = (ccO xs ys n s0 i).2 := ⟨_, rfl⟩
    have HSC := Lib.hid (show ccO xs ys n s0 i = (S, c) by rw [hS, hc])
    rw [← hS] at HT HHIT HGO
    rw [← hc] at hcl HGO ⊢
    clear hS hc
    by_cases hlt : i < n
    · have hii : (i : Int) < (n : Int) := by omega
      obtain ⟨hc1, hf1⟩ := HT.out.cell (q := i) hlt
      rcases hs : S i with _ | _
      · have HG := Lib.hid (HGO.out hs)
        have HSI := Lib.hid hs
        rw [hs] at hc1
        clear hs
        go_wp2
        go_loopw [9] (fun y wr => ∃ (p k : Nat) (S' : Nat → Bool), p < n ∧ y = .int .i64 p ∧ TkB wr g n S' ∧ uns S' n < k ∧ ccW xs ys k S' p = ccW xs ys (n + 1) S i ∧ Below g w wr) (fun _ wr => unsM wr g n)
        case atStart => exact ⟨i, n + 1, S, hlt, rfl, HT.out, by have := uns_le S n; omega, rfl, HB4.out⟩
        case round =>
          obtain ⟨p, k, S', hp, rfl, htk, hk, hw, hb⟩ := hrel
          have HT2 := Lib.hid htk
          have HB5 := Lib.hid hb
          have HK := Lib.hid hk
          have HW := Lib.hid hw
          clear htk hb hk hw
          have hpi : (p : Int) < (n : Int) := by omega
          obtain ⟨hc2, hf2⟩ := HT2.out.cell (q := p) hp
          rcases hs2 : S' p with _ | _
          · rw [hs2] at hc2
            obtain ⟨hq1, hq2⟩ := HRX.out p hp
            obtain ⟨hr1, hr2⟩ := HRY.out (nx xs p) hq1
            have HB6 := Lib.hid (HB5.out.setCell (p := ⟨g, p, none⟩) (Nat.le_refl _) (.bool true))
            have HT3 := Lib.hid (HT2.out.upb hp)
            have HB7 := Lib.hid (HB6.out.setCell (p := ⟨g, nx xs p, none⟩) (Nat.le_refl _) (.bool true))
            have HT4 := Lib.hid (HT3.out.upb hq1)
            obtain ⟨g1, p1, e1, -, -, hcx1, -⟩ := (HV.out.keep HB5.out hhi).cell (j := p) (by rw [HX.out]; exact hp)
            obtain ⟨g1', p1', e1', -, -, hcx2, -⟩ := (HV.out.keep HB7.out hhi).cell (j := p) (by rw [HX.out]; exact hp)
            obtain ⟨g2, p2, e2, -, -, hcy, -⟩ := (HU.out.keep HB7.out hhu).cell (j := nx xs p) (by rw [HY.out]; exact hq1)
            simp only [Value.slice.injEq] at e1 e1' e2
            obtain ⟨rfl, -, -⟩ := e1
            obtain ⟨e3, -, -⟩ := e1'
            obtain rfl : g1 = g1' := by simpa using e3
            obtain ⟨rfl, -, -⟩ := e2
            rw [hq2] at hcx1 hcx2
            rw [hr2] at hcy
            obtain ⟨hc3, hf3⟩ := HT3.out.cell (q := nx xs p) hq1
            have HUW := Lib.hid (show unsM ((wr.setCell ⟨g, p, none⟩ (.bool true)).setCell ⟨g, nx xs p, none⟩ (.bool true)) g n < unsM wr g n by
              rw [unsM_eq HT2.out n (Nat.le_refl _), unsM_eq HT4.out n (Nat.le_refl _)]
              have := uns_upb hs2 n hp
              have := uns_mono (upb S' p) (nx xs p) n
              omega)
            have HUK := Lib.hid (show uns (upb (upb S' p) (nx xs p)) n < k - 1 by
              have := uns_upb hs2 n hp
              have := uns_mono (upb S' p) (nx xs p) n
              have := HK.out
              omega)
            have HW3 := Lib.hid (show ccW xs ys (k - 1) (upb (upb S' p) (nx xs p)) (nx ys (nx xs p)) = ccW xs ys (n + 1) S i by
              rw [← HW.out]
              have := HK.out
              obtain ⟨k', rfl⟩ : ∃ k', k = k' + 1 := ⟨k - 1, by omega⟩
              rw [ccW_go hs2]; rfl)
            clear hs2 e3
            generalize nx ys (nx xs p) = q3 at *
            generalize nx xs p = q2 at *
            generalize upb S' p q2 = bb at hc3
            have hq2i : (q2 : Int) < (n : Int) := by omega
            have hq3i : (q3 : Int) < (n : Int) := by omega
            go_wp2
            refine ⟨⟨q3, k - 1, _, hr1, rfl, HT4.out, HUK.out, HW3.out, HB7.out⟩, HUW.out⟩
          · rw [hs2] at hc2
            have HW2 := Lib.hid (HW.out.symm.trans (ccW_hit hs2))
            clear hs2
            go_wp2
            refine ⟨⟨i + 1, by omega, by simp, by rw [HG.out]; simp, by rw [HG.out]; show TkB _ _ _ (ccW xs ys (n + 1) S i); rw [HW2.out]; exact HT2.out, HB5.out⟩, by simp [intOf]; omega⟩
      · have HG := Lib.hid (HHIT.out hs)
        rw [hs] at hc1
        clear hs
        go_wp2
        refine ⟨⟨i + 1, by omega, by simp, by rw [HG.out, HSC.out], by rw [HG.out, HSC.out]; exact HT.out, HB4.out⟩, by simp [intOf]; omega⟩
    · obtain rfl : i = n := by omega
      go_wp2
      go_ret
      exact ⟨ret_int (by rw [HSC.out]), HB4.out⟩

set_option maxRecDepth 100000 in
set_option maxHeartbeats 3200000 in
theorem loopsOfI (A A' : Option Addr) (xs ys : List Int) (cap cap' lo hi lo' hi' : Nat) (w : World) (hv : OwnI w lo hi (.slice A xs.length cap) xs) (hu : OwnI w lo' hi' (.slice A' ys.length cap') ys) (hhi : hi ≤ w.heap.size) (hhu : hi' ≤ w.heap.size) (hl : xs.length ≤ 1099511627776) (hl' : ys.length ≤ 1099511627776) :
    Calls Try.prog 21 #[.slice A xs.length cap, .slice A' ys.length cap'] w fun e w' => e = .returned (.int .i64 (lpP xs ys)) ∧ Below w.heap.size w w' := by
  have HN := Lib.hid (noncrossingI A xs cap lo hi w hv hhi hl)
  have HN2 := Lib.hid (fun W (h : OwnI W lo' hi' (.slice A' ys.length cap') ys) (hh : hi' ≤ W.heap.size) => noncrossingI A' ys cap' lo' hi' W h hh hl')
  have HV := Lib.hid hv
  have HU := Lib.hid hu
  clear hv hu
  rcases hx : (crossP xs == 0) with _ | _
  · have HP := Lib.hid (show lpP xs ys = -1 from if_neg (by unfold lpOk; rw [hx]; simp))
    rw [hx] at HN
    clear hx
    go_enter Try.func21, Try.ntmps21
    go_wp2_with fail
    (with_reducible refine HN.out.mono ?_)
    rintro e w' ⟨rfl, hb⟩
    go_wp2
    go_ret
    exact ⟨ret_int HP.out.symm, hb⟩
  rcases hy : (crossP ys == 0) with _ | _
  · have HP := Lib.hid (show lpP xs ys = -1 from if_neg (by unfold lpOk; rw [hy]; simp))
    rw [hx] at HN
    rw [hy] at HN2
    clear hx hy
    go_enter Try.func21, Try.ntmps21
    go_wp2_with fail
    (with_reducible refine HN.out.mono ?_)
    rintro e w1 ⟨rfl, hb⟩
    have HB := Lib.hid hb
    have HU1 := Lib.hid (HU.out.keep hb hhu)
    have z1 := hb.size
    clear hb
    go_wp2_with fail
    (with_reducible refine (HN2.out _ HU1.out (by omega)).mono ?_)
    rintro e w2 ⟨rfl, hb⟩
    have HB2 := Lib.hid (HB.out.trans (hb.mono HB.out.size))
    clear hb
    go_wp2
    go_ret
    exact ⟨ret_int HP.out.symm, HB2.out⟩
  by_cases hlen : xs.length = ys.length
  · have HP := Lib.hid (show lpP xs ys = (lpN xs ys : Int) from if_pos (by unfold lpOk; rw [hx, hy, decide_eq_true hlen]; rfl))
    have hmx := match_cross hx
    have hmy := match_cross hy
    have h16 := (match_yes hmx).1
    have HRX := Lib.hid (inR_match hmx)
    have HRY := Lib.hid (inR_match hmy)
    rw [hx] at HN
    rw [hy] at HN2
    clear hx hy hmx hmy
    obtain ⟨n, hn⟩ : ∃ n, n = xs.length := ⟨_, rfl⟩
    have HE := Lib.hid hn
    have HE2 := Lib.hid (hn.trans hlen)
    have hne : ((n : Int) != (n : Int)) = false := by simp
    have HPN := Lib.hid (show lpN xs ys = (ccO xs ys n (fun _ => false) n).2 by unfold lpN; rw [← hn])
    rw [← HE.out, ← HE2.out]
    rw [← HE.out] at HN HV HRX h16
    rw [← HE2.out] at HN2 HU HRY
    clear hn hlen hl hl'
    obtain ⟨i0, hi0, hz0, hz1, hz2⟩ := info_parts infoB
    go_enter Try.func21, Try.ntmps21
    go_wp2_with fail
    (with_reducible refine HN.out.mono ?_)
    rintro e w1 ⟨rfl, hb⟩
    have HB := Lib.hid hb
    have HU1 := Lib.hid (HU.out.keep hb hhu)
    have HV1 := Lib.hid (HV.out.keep hb hhi)
    have z1 := hb.size
    clear hb
    go_wp2_with fail
    (with_reducible refine (HN2.out _ HU1.out (by omega)).mono ?_)
    rintro e w2 ⟨rfl, hb⟩
    have HB2 := Lib.hid (HB.out.trans (hb.mono HB.out.size))
    have HU2 := Lib.hid (HU1.out.keep hb (by omega))
    have HV2 := Lib.hid (HV1.out.keep hb (by omega))
    have z2 := hb.size
    clear hb
    go_wp2_with (at_make; go_must (refine wpList_make_full _ rfl _ _ 61 rfl w2.heap.size 4 i0 (.bool false) 1 Try.underlying61 hi0 hz0 hz1 .i64 .i64 (n : Int) (n : Int) n rfl rfl (by omega) (by omega) (by rw [hz2]; omega) (by unfold maxLen; omega) (Nat.le_refl _) ?_); intro w3 hown1 hgrow1)
    have HT0 := Lib.hid (TkB.made hown1)
    have HB3 := Lib.hid ((Below.refl w2.heap.size w2).grown hgrow1 (Nat.le_refl _) (fun k hk => by cases hk))
    have HU3 := Lib.hid (HU2.out.keep HB3.out (by omega))
    have HV3 := Lib.hid (HV2.out.keep HB3.out (by omega))
    clear hown1 hgrow1
    go_wp2_with fail
    (with_reducible refine (countLoopsI A A' xs ys n cap cap' lo hi lo' hi' _ w2.heap.size (fun _ => false) HV3.out HU3.out (by omega) (by omega) HE.out.symm HE2.out.symm HRX.out HRY.out HT0.out h16).mono ?_)
    rintro e w4 ⟨rfl, hb⟩
    have HB4 := Lib.hid (HB2.out.trans ((HB3.out.trans hb).mono (by omega)))
    clear hb
    go_wp2
    go_ret
    exact ⟨ret_int (by rw [HP.out, HPN.out]), HB4.out⟩
  · have HP := Lib.hid (show lpP xs ys = -1 from if_neg (by unfold lpOk; rw [decide_eq_false hlen]; simp))
    have hne : ((xs.length : Int) != (ys.length : Int)) = true := by simp; omega
    rw [hx] at HN
    rw [hy] at HN2
    clear hx hy
    go_enter Try.func21, Try.ntmps21
    go_wp2_with fail
    (with_reducible refine HN.out.mono ?_)
    rintro e w1 ⟨rfl, hb⟩
    have HB := Lib.hid hb
    have HU1 := Lib.hid (HU.out.keep hb hhu)
    have z1 := hb.size
    clear hb
    go_wp2_with fail
    (with_reducible refine (HN2.out _ HU1.out (by omega)).mono ?_)
    rintro e w2 ⟨rfl, hb⟩
    have HB2 := Lib.hid (HB.out.trans (hb.mono HB.out.size))
    clear hb
    go_wp2
    go_ret
    exact ⟨ret_int HP.out.symm, HB2.out⟩

theorem isMeanderI (A A' : Option Addr) (xs ys : List Int) (cap cap' lo hi lo' hi' : Nat) (w : World) (hv : OwnI w lo hi (.slice A xs.length cap) xs) (hu : OwnI w lo' hi' (.slice A' ys.length cap') ys) (hhi : hi ≤ w.heap.size) (hhu : hi' ≤ w.heap.size) (hl : xs.length ≤ 1099511627776) (hl' : ys.length ≤ 1099511627776) :
    Calls Try.prog 74 #[.slice A xs.length cap, .slice A' ys.length cap'] w fun e w' => e = .returned (.bool (lpP xs ys == 1)) ∧ Below w.heap.size w w' := by
  have H := Lib.hid (loopsOfI A A' xs ys cap cap' lo hi lo' hi' w hv hu hhi hhu hl hl')
  obtain ⟨z, hz⟩ : ∃ z, z = lpP xs ys := ⟨_, rfl⟩
  rw [← hz] at H ⊢
  clear hz hv hu
  go_enter Try.func74, Try.ntmps74
  go_wp2_with fail
  (with_reducible refine H.out.mono ?_)
  rintro e w' ⟨rfl, hb⟩
  go_wp2
  go_ret
  exact ⟨rfl, hb⟩

set_option maxRecDepth 100000 in
set_option maxHeartbeats 3200000 in
theorem traceLoopsI (A : Option Addr) (xs : List Int) (cap lo hi : Nat) (w : World) (hv : OwnI w lo hi (.slice A xs.length cap) xs) (hhi : hi ≤ w.heap.size) (hl : xs.length ≤ 1099511627776) :
    Calls Try.prog 19 #[.slice A xs.length cap] w fun e w' => e = .returned (.int .i64 (trP xs)) ∧ Below w.heap.size w w' := by
  have HM := Lib.hid (isDiagramI A xs cap lo hi w hv hhi hl)
  have HV := Lib.hid hv
  clear hv
  rcases hm : diaB xs with _ | _
  · have HP := Lib.hid (show trP xs = -1 from if_neg (by simp [hm]))
    rw [hm] at HM
    clear hm
    go_enter Try.func19, Try.ntmps19
    go_wp2_with fail
    (with_reducible refine HM.out.mono ?_)
    rintro e w' ⟨rfl, hb⟩
    go_wp2
    go_ret
    exact ⟨ret_int HP.out.symm, hb⟩
  · obtain ⟨H, hH⟩ : ∃ H, H = xs.length / 2 := ⟨_, rfl⟩
    have HP := Lib.hid (show trP xs = (lpN xs (idL H) : Int) by unfold trP; rw [if_pos hm, hH])
    obtain ⟨hmt, h2, h16⟩ := dia_match hm
    have hev := match_even hmt
    rw [← hH] at hev
    have HRX := Lib.hid (inR_match hmt)
    have hry := inR_id H
    rw [hm] at HM
    clear hm hmt hH
    obtain ⟨n, hn⟩ : ∃ n, n = xs.length := ⟨_, rfl⟩
    have HE := Lib.hid hn
    have HH := Lib.hid (show n = 2 * H by rw [hn]; exact hev)
    have HRY := Lib.hid (show InR (idL H) n by rw [HH.out]; exact hry)
    have HIL := Lib.hid (show (idL H).length = n by rw [idL_len, HH.out])
    have HPN := Lib.hid (show lpN xs (idL H) = (ccO xs (idL H) n (fun _ => false) n).2 by unfold lpN; rw [← hn])
    rw [← HE.out]
    rw [← HE.out] at HM HV HRX h16
    have q0 : n = 2 * H := HH.out
    have q1 : ((n : Int)).tdiv 2 = (H : Int) := by rw [Int.tdiv_eq_ediv_of_nonneg (by omega)]; omega
    have q2 : (n : Int) / 2 = (H : Int) := by omega
    have q3 : IntKind.i64.wrap (H : Int) = (H : Int) := IntWalk.i64_in _ (by omega)
    have HID := Lib.hid (fun W => identityDiagramI_yes (N := H) (by rw [hn] at *; omega) (by omega) W)
    clear hn hev hry h2 hl q0
    obtain ⟨i0, hi0, hz0, hz1, hz2⟩ := info_parts infoB
    go_enter Try.func19, Try.ntmps19
    go_wp2_with fail
    (with_reducible refine HM.out.mono ?_)
    rintro e w1 ⟨rfl, hb⟩
    have HB := Lib.hid hb
    have HV1 := Lib.hid (HV.out.keep hb hhi)
    have z1 := hb.size
    clear hb
    go_wp2_with fail
    (with_reducible refine (HID.out _).mono ?_)
    rintro e w2 ⟨v, rfl, ho, hb⟩
    obtain ⟨A2, c2, rfl, k2⟩ := id ho
    clear k2
    rw [show (idL H).length = n from HIL.out] at ho ⊢
    have HB2 := Lib.hid (HB.out.trans (hb.mono z1))
    have HV2 := Lib.hid (HV1.out.keep hb (by omega))
    have HO := Lib.hid ho
    have z2 := hb.size
    clear hb ho
    go_wp2_with (at_make; go_must (refine wpList_make_full _ rfl _ _ 61 rfl w2.heap.size 4 i0 (.bool false) 1 Try.underlying61 hi0 hz0 hz1 .i64 .i64 (n : Int) (n : Int) n rfl rfl (by omega) (by omega) (by rw [hz2]; omega) (by unfold maxLen; omega) (Nat.le_refl _) ?_); intro w3 hown1 hgrow1)
    have HT0 := Lib.hid (TkB.made hown1)
    have HB3 := Lib.hid ((Below.refl w2.heap.size w2).grown hgrow1 (Nat.le_refl _) (fun k hk => by cases hk))
    have HU3 := Lib.hid (HO.out.keep HB3.out (Nat.le_refl _))
    have HV3 := Lib.hid (HV2.out.keep HB3.out (by omega))
    clear hown1 hgrow1
    go_wp2_with fail
    (with_reducible refine (countLoopsI A A2 xs (idL H) n cap c2 lo hi _ _ _ w2.heap.size (fun _ => false) HV3.out HU3.out (by omega) (Nat.le_refl _) HE.out.symm HIL.out HRX.out HRY.out HT0.out h16).mono ?_)
    rintro e w4 ⟨rfl, hb⟩
    have HB4 := Lib.hid (HB2.out.trans ((HB3.out.trans hb).mono (by omega)))
    clear hb
    go_wp2
    go_ret
    exact ⟨ret_int (by rw [HP.out, HPN.out]), HB4.out⟩

end Go.Proofs.Ytknojbcpjjhegaa
