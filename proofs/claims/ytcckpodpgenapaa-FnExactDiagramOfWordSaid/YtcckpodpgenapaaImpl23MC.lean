/- The program's countLoops, where strands have passed points. -/
import Derived.Test.YtcckpodpgenapaaImpl23M
import Derived.Test.YtcckpodpgenapaaFact23M
import Derived.Test.YtcckpodpgenapaaLoop23
namespace Go.Proofs.Ytcckpodpgenapaa
open Go.ChangeShapes Go.WideShapes Go.ChangeAt Go.RowKit
set_option linter.unusedVariables false

set_option maxRecDepth 100000 in
set_option maxHeartbeats 3200000 in
theorem countLoopsD (A A' : Option Addr) (xs ys : List Int) (N n cap cap' lo hi lo' hi' : Nat) (w : World) (g : Nat) (s0 : Nat → Bool) (hv : OwnI w lo hi (.slice A N cap) xs) (hu : OwnI w lo' hi' (.slice A' N cap') ys) (hhi : g < lo ∨ hi ≤ g) (hhu : g < lo' ∨ hi' ≤ g)
    (hx : xs.length = N) (hy : ys.length = N) (hrx : InD xs n s0) (hry : InD ys n s0) (ht : TkB w g n s0) (hnN : n ≤ N) (hN16 : N ≤ 16) :
    Calls Try.prog 48 #[.slice A N cap, .slice A' N cap', .slice (some ⟨g, 0, none⟩) n n] w fun e w' => e = .returned (.int .i64 ((ccO xs ys n s0 n).2 : Nat)) ∧ w.grownBy w' (some g) := by
  have HV := Lib.hid hv
  have HU := Lib.hid hu
  have HRX := Lib.hid hrx
  have HRY := Lib.hid hry
  have HT0 := Lib.hid ht
  have HX := Lib.hid hx
  have HY := Lib.hid hy
  have HCL := Lib.hid (fun i => ccO_le xs ys n s0 i)
  have HB0 := Lib.hid (World.grownBy.refl w (some g))
  clear hv hu hrx hry ht hx hy
  go_enter Try.func48, Try.ntmps48
  go_wp2
  go_loopw [7, 12] (fun x y wr => ∃ i : Nat, i ≤ n ∧ y = .int .i64 i ∧ x = .int .i64 ((ccO xs ys n s0 i).2 : Nat) ∧ TkB wr g n (ccO xs ys n s0 i).1 ∧ w.grownBy wr (some g)) (fun _ y _ => n - (intOf y).toNat)
  case atStart => exact ⟨0, Nat.zero_le _, rfl, rfl, HT0.out, HB0.out⟩
  case round =>
    obtain ⟨i, hi, rfl, rfl, htk, hb⟩ := hrel
    have HT := Lib.hid htk
    have HB4 := Lib.hid hb
    have hcl := HCL.out i
    clear htk hb HT0 HB0
    have HHIT := Lib.hid (fun h => ccO_hit (a := xs) (b := ys) (n := n) (s0 := s0) (i := i) h)
    have HGO := Lib.hid (fun h => ccO_go (a := xs) (b := ys) (n := n) (s0 := s0) (i := i) h)
    have HST := Lib.hid (fun h => ccO_start (a := xs) (b := ys) (n := n) (i := i) (e := i) (s0 := s0) h)
    obtain ⟨S, hS⟩ : ∃ S, S = (ccO xs ys n s0 i).1 := ⟨_, rfl⟩
    obtain ⟨c, hc⟩ : ∃ c, c = (ccO xs ys n s0 i).2 := ⟨_, rfl⟩
    have HSC := Lib.hid (show ccO xs ys n s0 i = (S, c) by rw [hS, hc])
    rw [← hS] at HT HHIT HGO HST
    rw [← hc] at hcl HGO ⊢
    clear hS hc
    by_cases hlt : i < n
    · have hii : (i : Int) < (n : Int) := by omega
      obtain ⟨hc1, hf1⟩ := HT.out.cell (q := i) hlt
      rcases hs : S i with _ | _
      · have HG := Lib.hid (HGO.out hs)
        have HS0I := Lib.hid (HST.out hs)
        rw [hs] at hc1
        clear hs
        go_wp2
        go_loopw [9] (fun y wr => ∃ (p k : Nat) (S' : Nat → Bool), p < n ∧ s0 p = false ∧ y = .int .i64 p ∧ TkB wr g n S' ∧ uns S' n < k ∧ ccW xs ys k S' p = ccW xs ys (n + 1) S i ∧ w.grownBy wr (some g)) (fun _ wr => unsM wr g n)
        case atStart => exact ⟨i, n + 1, S, hlt, HS0I.out, rfl, HT.out, by have := uns_le S n; omega, rfl, HB4.out⟩
        case round =>
          obtain ⟨p, k, S', hp, hp0, rfl, htk, hk, hw, hb⟩ := hrel
          have HT2 := Lib.hid htk
          have HB5 := Lib.hid hb
          have HK := Lib.hid hk
          have HW := Lib.hid hw
          clear htk hb hk hw
          have hpi : (p : Int) < (n : Int) := by omega
          have hpN : (p : Int) < (N : Int) := by omega
          obtain ⟨hc2, hf2⟩ := HT2.out.cell (q := p) hp
          rcases hs2 : S' p with _ | _
          · rw [hs2] at hc2
            obtain ⟨hq1, hq0, hq2⟩ := HRX.out p hp hp0
            obtain ⟨hr1, hr0, hr2⟩ := HRY.out (nx xs p) hq1 hq0
            have HB6 := Lib.hid (grown_tr HB5.out (grown_set wr g p (.bool true)))
            have HT3 := Lib.hid (HT2.out.upb hp)
            have HB7 := Lib.hid (grown_tr HB6.out (grown_set _ g (nx xs p) (.bool true)))
            have HT4 := Lib.hid (HT3.out.upb hq1)
            obtain ⟨g1, p1, e1, -, -, hcx1, -⟩ := (HV.out.far HB5.out hhi).cell (j := p) (by rw [HX.out]; omega)
            obtain ⟨g1', p1', e1', -, -, hcx2, -⟩ := (HV.out.far HB7.out hhi).cell (j := p) (by rw [HX.out]; omega)
            obtain ⟨g2, p2, e2, -, -, hcy, -⟩ := (HU.out.far HB7.out hhu).cell (j := nx xs p) (by rw [HY.out]; omega)
            simp only [Value.slice.injEq] at e1 e1' e2
            obtain ⟨rfl, -, -⟩ := e1
            obtain ⟨e3, -, -⟩ := e1'
            obtain rfl : g1 = g1' := by simpa using e3
            obtain ⟨rfl, -, -⟩ := e2
            rw [hq2] at hcx1 hcx2
            rw [hr2] at hcy
            obtain ⟨hc3, hf3⟩ := HT3.out.cell (q := nx xs p) hq1
            have HUW := Lib.hid (show unsM ((wr.setCell ⟨g, p, none⟩ (.bool true)).setCell ⟨g, nx xs p, none⟩ (.bool true)) g n < unsM wr g n by
              rw [unsM_eq HT2.out n (Nat.le_refl _), unsM_eq HT4.out n (Nat.le_refl _)]
              have := uns_upb hs2 n hp
              have := uns_mono (upb S' p) (nx xs p) n
              omega)
            have HUK := Lib.hid (show uns (upb (upb S' p) (nx xs p)) n < k - 1 by
              have := uns_upb hs2 n hp
              have := uns_mono (upb S' p) (nx xs p) n
              have := HK.out
              omega)
            have HW3 := Lib.hid (show ccW xs ys (k - 1) (upb (upb S' p) (nx xs p)) (nx ys (nx xs p)) = ccW xs ys (n + 1) S i by
              rw [← HW.out]
              have := HK.out
              obtain ⟨k', rfl⟩ : ∃ k', k = k' + 1 := ⟨k - 1, by omega⟩
              rw [ccW_go hs2]; rfl)
            clear hs2 e3 hp0
            have HR0 := Lib.hid hr0
            clear hr0 hq0
            generalize nx ys (nx xs p) = q3 at *
            generalize nx xs p = q2 at *
            generalize upb S' p q2 = bb at hc3
            have hq2i : (q2 : Int) < (n : Int) := by omega
            have hq2N : (q2 : Int) < (N : Int) := by omega
            have hq3i : (q3 : Int) < (n : Int) := by omega
            go_wp2
            refine ⟨⟨q3, k - 1, _, hr1, HR0.out, rfl, HT4.out, HUK.out, HW3.out, HB7.out⟩, HUW.out⟩
          · rw [hs2] at hc2
            have HW2 := Lib.hid (HW.out.symm.trans (ccW_hit hs2))
            clear hs2
            go_wp2
            refine ⟨⟨i + 1, by omega, by simp, by rw [HG.out]; simp, by rw [HG.out]; show TkB _ _ _ (ccW xs ys (n + 1) S i); rw [HW2.out]; exact HT2.out, HB5.out⟩, by simp [intOf]; omega⟩
      · have HG := Lib.hid (HHIT.out hs)
        rw [hs] at hc1
        clear hs
        go_wp2
        refine ⟨⟨i + 1, by omega, by simp, by rw [HG.out, HSC.out], by rw [HG.out, HSC.out]; exact HT.out, HB4.out⟩, by simp [intOf]; omega⟩
    · obtain rfl : i = n := by omega
      go_wp2
      go_ret
      exact ⟨ret_int (by rw [HSC.out]), HB4.out⟩


end Go.Proofs.Ytcckpodpgenapaa
