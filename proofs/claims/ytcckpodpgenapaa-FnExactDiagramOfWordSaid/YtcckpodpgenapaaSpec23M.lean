/- The model's MultiplyDiagrams. -/
import Derived.Test.YtcckpodpgenapaaFact23M
import Derived.Test.YtcckpodpgenapaaSpec23A
import Derived.Test.YtcckpodpgenapaaLoop23
import Derived.OwnWalk
namespace Go.Proofs.Ytcckpodpgenapaa
open Go.ChangeShapes Go.WideShapes Go.ChangeAt Go.RowKit
set_option linter.unusedVariables false

def bOf : Value → Bool
  | .bool b => b
  | _ => false
/-- A diagram, a number of loops, and whether. -/
def AnsInB (xs : List Int) (z : Int) (b : Bool) (w : World) (e : Ending) (w' : World) : Prop := ∃ v, e = .returned (.tuple #[v, .int .i64 z, .bool b]) ∧ OwnI w' w.heap.size w'.heap.size v xs ∧ Below w.heap.size w w'
theorem ret_inb {A A' : Value} {z z' : Int} {x y : Bool} (h : A = A') (h2 : z = z') (h' : x = y) : Ending.returned (.tuple #[A, .int .i64 z, .bool x]) = .returned (.tuple #[A', .int .i64 z', .bool y]) := by rw [h, h2, h']
theorem TabI.off {w : World} {g m : Nat} {f : Nat → Int} (h : TabI w g m f) {g2 j : Nat} (hne : g ≠ g2) (v : Value) : TabI (w.setCell ⟨g2, j, none⟩ v) g m f := h.keep (Below.heap_setCell w ⟨g2, j, none⟩ v g hne)
theorem TkB.off {w : World} {g m : Nat} {f : Nat → Bool} (h : TkB w g m f) {g2 j : Nat} (hne : g ≠ g2) (v : Value) : TkB (w.setCell ⟨g2, j, none⟩ v) g m f := h.keep (Below.heap_setCell w ⟨g2, j, none⟩ v g hne)

set_option maxRecDepth 100000 in
set_option maxHeartbeats 6400000 in
theorem multiplyDiagrams_yes (A A' : Option Addr) (xs ys : List Int) (cap cap' lo hi lo' hi' : Nat) (w : World) (hv : OwnI w lo hi (.slice A xs.length cap) xs) (hu : OwnI w lo' hi' (.slice A' ys.length cap') ys) (hhi : hi ≤ w.heap.size) (hhu : hi' ≤ w.heap.size) (hok : mdOk xs ys = true) :
    Calls Try.prog 25 #[.slice A xs.length cap, .slice A' ys.length cap'] w (AnsInB (mdP xs ys) (mdN xs ys) true w) := by
  obtain ⟨hmx, hmy, hlen, h2, h16, hdx, hdy⟩ := mdOk_yes hok
  obtain ⟨H, hH⟩ : ∃ H, H = xs.length / 2 := ⟨_, rfl⟩
  have hev := match_even hmx
  rw [← hH] at hev
  obtain ⟨N, hN⟩ : ∃ N, N = xs.length := ⟨_, rfl⟩
  have hN2 : N = 2 * H := by omega
  have HP := Lib.hid (show mdP xs ys = mdL (nx (flL xs)) (nx ys) H N by unfold mdP; rw [if_pos hok, ← hH, hN2])
  have HZ := Lib.hid (show mdN xs ys = ((ccO (flL xs) ys H (wkS (nx (flL xs)) (nx ys) H N) H).2 : Int) by unfold mdN; rw [if_pos hok, ← hH, hN2])
  have HIN := Lib.hid (show InD (flL xs) H (wkS (nx (flL xs)) (nx ys) H N) ∧ InD ys H (wkS (nx (flL xs)) (nx ys) H N) by rw [hN2]; exact inD_fl (by omega) (by omega) hmx hmy)
  have HCL := Lib.hid (fun i => ccO_le (flL xs) ys H (wkS (nx (flL xs)) (nx ys) H N) i)
  have hiu : Inv (2 * H) (nx (flL xs)) := by rw [← hev]; exact inv_fl hmx
  have hib : Inv (2 * H) (nx ys) := by rw [← hev, hlen]; exact inv_match hmy
  have HIU := Lib.hid hiu
  have HIB := Lib.hid hib
  have HXA := Lib.hid (fun q (h : q < N) => show xs.getD q 0 = ((N - 1 - nx (flL xs) (N - 1 - q) : Nat) : Int) by
    have e := (nx_fl hmx (q := N - 1 - q) (by omega)).1
    have h1 := nx_match hmx (q := q) (by omega)
    rw [e, h1.2.2.2, ← hN, show N - 1 - (N - 1 - q) = q by omega]
    omega)
  have HYA := Lib.hid (fun q (h : q < N) => show ys.getD q 0 = (nx ys q : Int) from (nx_match hmy (q := q) (by omega)).2.2.2)
  have HMX := Lib.hid (isDiagram A xs cap lo hi w hv hhi (by omega))
  have HMY := Lib.hid (fun W (h : OwnI W lo' hi' (.slice A' ys.length cap') ys) (hh : hi' ≤ W.heap.size) => isDiagram A' ys cap' lo' hi' W h hh (by omega))
  rw [hdx] at HMX
  rw [hdy] at HMY
  have HV := Lib.hid hv
  have HU := Lib.hid hu
  have HE := Lib.hid hN
  have HE2 := Lib.hid (hN.trans hlen)
  have hN16 : N ≤ 16 := by omega
  have hH1 : 1 ≤ H := by omega
  rw [← HE.out, ← HE2.out]
  rw [← HE.out] at HMX HV
  rw [← HE2.out] at HMY HU
  have q1 : ((N : Int)).tdiv 2 = (H : Int) := by rw [Int.tdiv_eq_ediv_of_nonneg (by omega)]; omega
  have q2 : (N : Int) / 2 = (H : Int) := by omega
  have q3 : IntKind.i64.wrap (H : Int) = (H : Int) := IntWalk.i64_in _ (by omega)
  have q4 : (2 : Int) * (H : Int) = (N : Int) := by omega
  have q5 : IntKind.i64.wrap (N : Int) = (N : Int) := IntWalk.i64_in _ (by omega)
  have q6 : IntKind.i64.wrap ((N : Int) - 1) = (N : Int) - 1 := IntWalk.i64_in _ (by omega)
  have hne : ((N : Int) != (N : Int)) = false := by simp
  have HN2 := Lib.hid hN2
  clear hv hu hmx hmy hdx hdy hok hN hlen hH hev hiu hib h2 h16
  generalize hgu : nx (flL xs) = u at *
  generalize hgb : nx ys = b at *
  have HGU := Lib.hid hgu
  have HGB := Lib.hid hgb
  clear hgu hgb hN2
  obtain ⟨i0, hi0, hz0, hz1, hz2⟩ := info_parts info3
  obtain ⟨j0, hj0, hy0, hy1, hy2⟩ := info_parts infoB
  go_enter Try.func25, Try.ntmps25
  go_wp2_with fail
  (with_reducible refine HMX.out.mono ?_)
  rintro e w1 ⟨rfl, hb⟩
  have HB := Lib.hid hb
  have HU1 := Lib.hid (HU.out.keep hb hhu)
  have HV1 := Lib.hid (HV.out.keep hb hhi)
  have z1 := hb.size
  clear hb
  go_wp2_with fail
  (with_reducible refine (HMY.out _ HU1.out (by omega)).mono ?_)
  rintro e w2 ⟨rfl, hb⟩
  have HB2 := Lib.hid (HB.out.trans (hb.mono z1))
  have HU2 := Lib.hid (HU1.out.keep hb (by omega))
  have HV2 := Lib.hid (HV1.out.keep hb (by omega))
  have z2 := hb.size
  clear hb
  go_wp2_with (first | (at_make; refine wpList_make_full _ rfl _ _ 22 rfl w2.heap.size 3 i0 (.int .i64 0) 1 Try.underlying22 hi0 hz0 hz1 .i64 .i64 (N : Int) (N : Int) N rfl rfl (by omega) (by omega) (by rw [hz2]; omega) (by unfold maxLen; omega) (Nat.le_refl _) ?_; intro w3 hown1 hgrow1; have HT0 := Lib.hid (TabI.made hown1); have HB3 := Lib.hid ((Below.refl w2.heap.size w2).grown hgrow1 (Nat.le_refl _) (fun k hk => by cases hk)); clear hown1 hgrow1) | (at_make; refine wpList_make_full _ rfl _ _ 44 rfl w3.heap.size 4 j0 (.bool false) 1 Try.underlying44 hj0 hy0 hy1 .i64 .i64 (H : Int) (H : Int) H rfl rfl (by omega) (by omega) (by rw [hy2]; omega) (by unfold maxLen; omega) (Nat.le_refl _) ?_; intro w4 hown1 hgrow1; have HS0 := Lib.hid (TkB.made hown1); have HB4 := Lib.hid ((Below.refl w3.heap.size w3).grown hgrow1 (Nat.le_refl _) (fun k hk => by cases hk)); clear hown1 hgrow1))
  have z3 := HT0.out.lt
  have z4 := HB4.out.size
  have HT1 := Lib.hid (show TabI w4 w2.heap.size N (mdF u b H 0) by rw [mdF_zero]; exact HT0.out.keep (HB4.out.block _ z3))
  have HB5 := Lib.hid (HB3.out.trans (HB4.out.mono HB3.out.size))
  have z5 := HB3.out.size
  go_wp2
  go_loopw [10] (fun y wr => ∃ i : Nat, i ≤ N ∧ y = .int .i64 i ∧ TabI wr w2.heap.size N (mdF u b H i) ∧ TkB wr w3.heap.size H (wkS u b H i) ∧ Below w2.heap.size w2 wr) (fun y _ => N - (intOf y).toNat)
  case atStart => exact ⟨0, Nat.zero_le _, rfl, HT1.out, HS0.out, HB5.out⟩
  case round =>
    obtain ⟨i, hi1, rfl, ht, hs, hb⟩ := hrel
    have HT := Lib.hid ht
    have HS := Lib.hid hs
    have HBW := Lib.hid hb
    clear ht hs hb HT1 HS0 HB5 HT0 HB3 HB4
    by_cases hlt : i < N
    · have hii : (i : Int) < (N : Int) := by omega
      obtain ⟨hst1, hst2⟩ := stP_lt (n := H) (i := i) (by have := HN2.out; omega)
      have HEN := Lib.hid (en_all HIU.out HIB.out (stT H i) hst1 hst2)
      have HNX := Lib.hid (mdF_succ u b H i)
      have HNS := Lib.hid (show wkS u b H (i + 1) = (wk u b (2 * H) H (2 * H + 1) (stT H i) (stP H i) (wkS u b H i)).2 from rfl)
      have HNO := Lib.hid (show wkO u b H i = (wk u b (2 * H) H (2 * H + 1) (stT H i) (stP H i) (wkS u b H i)).1 from rfl)
      have HDT := Lib.hid (show decide ((i : Int) < (H : Int)) = stT H i by unfold stT; rw [decide_eq_decide]; omega)
      have HDT2 := Lib.hid (show decide (i < H) = stT H i from rfl)
      have HAT := Lib.hid (show (i : Int) = ((if stT H i = true then N - 1 - stP H i else stP H i : Nat) : Int) by
        have := HN2.out
        unfold stT stP
        by_cases h : i < H
        · rw [decide_eq_true h, if_pos rfl, if_pos h]; omega
        · rw [decide_eq_false h, if_neg (by simp), if_neg h])
      generalize hst : stT H i = t0 at *
      generalize hsp : stP H i = p0 at *
      generalize hws : wkS u b H i = s0 at *
      have HN3 := Lib.hid (HN2.out)
      clear hst hsp hws
      go_wp2
      go_loopw [11, 12] (fun x y wr => ∃ (t : Bool) (p k : Nat) (s : Nat → Bool), p < N ∧ x = .bool t ∧ y = .int .i64 ((if t = true then N - 1 - p else p : Nat) : Int) ∧ TabI wr w2.heap.size N (mdF u b H i) ∧ TkB wr w3.heap.size H s ∧ en u b H k t p ∧ k ≤ 2 * H + 1 ∧ wk u b (2 * H) H k t p s = wk u b (2 * H) H (2 * H + 1) t0 p0 s0 ∧ Below w2.heap.size w2 wr)
        (fun x y _ => sl u b H (2 * H + 1) (bOf x) (if bOf x = true then N - 1 - (intOf y).toNat else (intOf y).toNat))
      case atStart => exact ⟨t0, p0, 2 * H + 1, s0, by have := HN3.out; omega, by first | rfl | rw [HDT2.out] | rw [HDT.out], by rw [← HAT.out], HT.out, HS.out, HEN.out, Nat.le_refl _, rfl, HBW.out⟩
      case round =>
        obtain ⟨t, p, k, s, hp, rfl, rfl, ht, hs, hen, hk, hw, hb⟩ := hrel
        have HTT := Lib.hid ht
        have HSS := Lib.hid hs
        have HW := Lib.hid hw
        have HBB := Lib.hid hb
        obtain ⟨k', rfl⟩ : ∃ k', k = k' + 1 := by
          cases k with
          | zero => exact absurd hen id
          | succ k => exact ⟨k, rfl⟩
        have HEN2 := Lib.hid hen
        have HK := Lib.hid hk
        clear ht hs hw hb hen hk
        rcases t with _ | _
        · have HE0 := Lib.hid (show fT u b false p = b p from rfl)
          have hel := (fT_inv HIU.out HIB.out false (p := p) (by have := HN3.out; omega)).1
          have hek := fun h2 => en_in (u := u) (b := b) (n := H) (k := k') (t := false) (p := p) HEN2.out h2
          have hsk := fun h2 => sl_lt (u := u) (b := b) (n := H) (k := k') (K := 2 * H + 1) (t := false) (p := p) HEN2.out h2 HK.out
          have hwo := fun (h2 : H ≤ fT u b false p) => wk_out (N := 2 * H) (k := k') (s := s) h2
          have hwi := fun (h2 : fT u b false p < H) => wk_in (N := 2 * H) (k := k') (s := s) h2
          have hya := HYA.out p hp
          obtain ⟨g5, p5, e5, -, -, hc5, -⟩ := (HU2.out.keep HBB.out (by omega)).cell (j := p) (by rw [← HE2.out]; exact hp)
          simp only [Value.slice.injEq] at e5
          obtain ⟨rfl, -, -⟩ := e5
          rw [hya] at hc5
          obtain ⟨e, he⟩ : ∃ e, e = b p := ⟨_, rfl⟩
          rw [HE0.out, ← he] at hel hek hsk hwo hwi
          rw [← he] at hc5
          have hNN : N = 2 * H := HN3.out
          have hpN : (p : Int) < (N : Int) := by omega
          obtain ⟨c, hc⟩ : ∃ c, c = N - 1 - e := ⟨_, rfl⟩
          have r1 : (N : Int) - 1 - (e : Int) = (c : Int) := by omega
          have v1 : IntKind.i64.wrap (c : Int) = (c : Int) := IntWalk.i64_in _ (by omega)
          have hif : (if (false : Bool) = true then N - 1 - p else p) = p := if_neg (by simp)
          have hmes : N - 1 - c = e := by omega
          rw [hif]
          have HC := Lib.hid hc
          clear he hif
          by_cases h2 : H ≤ e
          · have hcH : (H : Int) ≤ (e : Int) := by omega
            have HWO := Lib.hid (show wk u b (2 * H) H (2 * H + 1) t0 p0 s0 = (e, s) by rw [← HW.out, hwo h2]; rfl)
            obtain ⟨hc6, hf6⟩ := HTT.out.cell (j := i) hlt
            generalize mdF u b H i i = y0 at hc6
            clear hc hNN hmes hek hsk hwo hwi
            go_wp2
            refine ⟨⟨i + 1, by omega, by simp, ?_, ?_, HBB.out.setCell (p := ⟨w2.heap.size, i, none⟩) (Nat.le_refl _) _⟩, by simp [intOf]; omega⟩
            · rw [HNX.out, HNO.out, HWO.out]; exact HTT.out.set hlt _
            · rw [HNS.out, HWO.out]; exact HSS.out.off (by omega) _
          · have hcH : ¬ (H : Int) ≤ (e : Int) := by omega
            have hcD : decide ((H : Int) ≤ (e : Int)) = false := decide_eq_false hcH
            have heH : e < H := by omega
            have heHi : (e : Int) < (H : Int) := by omega
            obtain ⟨hc6, hf6⟩ := HSS.out.cell (q := e) heH
            have HEK := Lib.hid (hek heH)
            have HSK := Lib.hid (hsk heH)
            have HWI := Lib.hid ((hwi heH).symm.trans HW.out)
            generalize s e = y0 at hc6
            clear hc hNN hek hsk hwo hwi
            go_wp2
            refine ⟨⟨true, e, k', upb s e, by omega, rfl, by rw [if_pos rfl, HC.out], HTT.out.off (by omega) _, HSS.out.upb heH, HEK.out, by have := HK.out; omega, HWI.out, HBB.out.setCell (p := ⟨w3.heap.size, e, none⟩) z5 _⟩, ?_⟩
            have := HSK.out
            simpa [bOf, intOf, hmes] using this
        · have HE0 := Lib.hid (show fT u b true p = u p from rfl)
          have hel := (fT_inv HIU.out HIB.out true (p := p) (by have := HN3.out; omega)).1
          have hek := fun h2 => en_in (u := u) (b := b) (n := H) (k := k') (t := true) (p := p) HEN2.out h2
          have hsk := fun h2 => sl_lt (u := u) (b := b) (n := H) (k := k') (K := 2 * H + 1) (t := true) (p := p) HEN2.out h2 HK.out
          have hwo := fun (h2 : H ≤ fT u b true p) => wk_out (N := 2 * H) (k := k') (s := s) h2
          have hwi := fun (h2 : fT u b true p < H) => wk_in (N := 2 * H) (k := k') (s := s) h2
          have hxa := HXA.out (N - 1 - p) (by omega)
          rw [show N - 1 - (N - 1 - p) = p by omega] at hxa
          obtain ⟨g5, p5, e5, -, -, hc5, -⟩ := (HV2.out.keep HBB.out (by omega)).cell (j := N - 1 - p) (by rw [← HE.out]; omega)
          simp only [Value.slice.injEq] at e5
          obtain ⟨rfl, -, -⟩ := e5
          rw [hxa] at hc5
          obtain ⟨q, hq⟩ : ∃ q, q = N - 1 - p := ⟨_, rfl⟩
          rw [← hq] at hc5
          obtain ⟨e, he⟩ : ∃ e, e = u p := ⟨_, rfl⟩
          rw [HE0.out, ← he] at hel hek hsk hwo hwi
          rw [← he] at hc5
          obtain ⟨c, hc⟩ : ∃ c, c = N - 1 - e := ⟨_, rfl⟩
          rw [← hc] at hc5
          have HC := Lib.hid hc
          have HQ := Lib.hid hq
          have hNN : N = 2 * H := HN3.out
          have hqN : (q : Int) < (N : Int) := by omega
          have r1 : (N : Int) - 1 - (c : Int) = (e : Int) := by omega
          have v1 : IntKind.i64.wrap (e : Int) = (e : Int) := IntWalk.i64_in _ (by omega)
          have hif : (if (true : Bool) = true then N - 1 - p else p) = q := by rw [if_pos rfl, hq]
          have hmes : N - 1 - q = p := by omega
          rw [hif]
          clear he hif
          by_cases h2 : H ≤ e
          · have hcH : (c : Int) < (H : Int) := by omega
            have HWO := Lib.hid (show wk u b (2 * H) H (2 * H + 1) t0 p0 s0 = (c, s) by rw [← HW.out, hwo h2]; rw [hc, hNN]; rfl)
            obtain ⟨hc6, hf6⟩ := HTT.out.cell (j := i) hlt
            generalize mdF u b H i i = y0 at hc6
            clear hc hq hNN hmes hek hsk hwo hwi
            go_wp2
            refine ⟨⟨i + 1, by omega, by simp, ?_, ?_, HBB.out.setCell (p := ⟨w2.heap.size, i, none⟩) (Nat.le_refl _) _⟩, by simp [intOf]; omega⟩
            · rw [HNX.out, HNO.out, HWO.out]; exact HTT.out.set hlt _
            · rw [HNS.out, HWO.out]; exact HSS.out.off (by omega) _
          · have hcH : ¬ (c : Int) < (H : Int) := by omega
            have heH : e < H := by omega
            have heHi : (e : Int) < (H : Int) := by omega
            obtain ⟨hc6, hf6⟩ := HSS.out.cell (q := e) heH
            have HEK := Lib.hid (hek heH)
            have HSK := Lib.hid (hsk heH)
            have HWI := Lib.hid ((hwi heH).symm.trans HW.out)
            generalize s e = y0 at hc6
            clear hc hq hNN hek hsk hwo hwi
            go_wp2
            refine ⟨⟨false, e, k', upb s e, by omega, rfl, by simp, HTT.out.off (by omega) _, HSS.out.upb heH, HEK.out, by have := HK.out; omega, HWI.out, HBB.out.setCell (p := ⟨w3.heap.size, e, none⟩) z5 _⟩, ?_⟩
            have := HSK.out
            simpa [bOf, intOf, hmes] using this
    · obtain rfl : i = N := by omega
      obtain ⟨S0, hS0⟩ : ∃ S0, S0 = wkS u b H i := ⟨_, rfl⟩
      rw [← hS0] at HS HIN HCL HZ
      have HRX := Lib.hid HIN.out.1
      have HRY := Lib.hid HIN.out.2
      have HNN := Lib.hid HN2.out
      clear hS0 HIN
      go_wp2
      go_loopw [13, 14] (fun x y wr => ∃ j : Nat, j ≤ H ∧ y = .int .i64 j ∧ x = .int .i64 ((ccO (flL xs) ys H S0 j).2 : Nat) ∧ TabI wr w2.heap.size i (mdF u b H i) ∧ TkB wr w3.heap.size H (ccO (flL xs) ys H S0 j).1 ∧ Below w2.heap.size w2 wr) (fun _ y _ => H - (intOf y).toNat)
      case atStart => exact ⟨0, Nat.zero_le _, rfl, rfl, HT.out, HS.out, HBW.out⟩
      case round =>
        obtain ⟨j, hj1, rfl, rfl, htt, htk, hb⟩ := hrel
        have HTT := Lib.hid htt
        have HK := Lib.hid htk
        have HB6 := Lib.hid hb
        have hcl := HCL.out j
        clear htt htk hb HT HS HBW
        have HHIT := Lib.hid (fun h => ccO_hit (a := flL xs) (b := ys) (n := H) (s0 := S0) (i := j) h)
        have HGO := Lib.hid (fun h => ccO_go (a := flL xs) (b := ys) (n := H) (s0 := S0) (i := j) h)
        have HST := Lib.hid (fun h => ccO_start (a := flL xs) (b := ys) (n := H) (i := j) (e := j) (s0 := S0) h)
        obtain ⟨S, hS⟩ : ∃ S, S = (ccO (flL xs) ys H S0 j).1 := ⟨_, rfl⟩
        obtain ⟨c, hc⟩ : ∃ c, c = (ccO (flL xs) ys H S0 j).2 := ⟨_, rfl⟩
        have HSC := Lib.hid (show ccO (flL xs) ys H S0 j = (S, c) by rw [hS, hc])
        rw [← hS] at HK HHIT HGO HST
        rw [← hc] at hcl HGO ⊢
        clear hS hc
        by_cases hlt2 : j < H
        · have hji : (j : Int) < (H : Int) := by omega
          obtain ⟨hc1, hf1⟩ := HK.out.cell (q := j) hlt2
          rcases hs : S j with _ | _
          · have HG := Lib.hid (HGO.out hs)
            have HS0J := Lib.hid (HST.out hs)
            rw [hs] at hc1
            clear hs
            go_wp2
            go_loopw [15] (fun y wr => ∃ (p k : Nat) (S' : Nat → Bool), p < H ∧ S0 p = false ∧ y = .int .i64 p ∧ TabI wr w2.heap.size i (mdF u b H i) ∧ TkB wr w3.heap.size H S' ∧ uns S' H < k ∧ ccW (flL xs) ys k S' p = ccW (flL xs) ys (H + 1) S j ∧ Below w2.heap.size w2 wr) (fun _ wr => unsM wr w3.heap.size H)
            case atStart => exact ⟨j, H + 1, S, hlt2, HS0J.out, rfl, HTT.out, HK.out, by have := uns_le S H; omega, rfl, HB6.out⟩
            case round =>
              obtain ⟨p, k, S', hp, hp0, rfl, htt, htk, hk, hw, hb⟩ := hrel
              have HT2 := Lib.hid htk
              have HTT2 := Lib.hid htt
              have HB7 := Lib.hid hb
              have HKK := Lib.hid hk
              have HW := Lib.hid hw
              clear htk htt hb hk hw
              have hpi : (p : Int) < (H : Int) := by omega
              obtain ⟨hc2, hf2⟩ := HT2.out.cell (q := p) hp
              rcases hs2 : S' p with _ | _
              · rw [hs2] at hc2
                obtain ⟨hq1, hq0, hq2⟩ := HRX.out p hp hp0
                obtain ⟨hr1, hr0, hr2⟩ := HRY.out (nx (flL xs) p) hq1 hq0
                have hNN : i = 2 * H := HNN.out
                have HB8 := Lib.hid (HB7.out.setCell (p := ⟨w3.heap.size, p, none⟩) z5 (.bool true))
                have HT3 := Lib.hid (HT2.out.upb hp)
                have HB9 := Lib.hid (HB8.out.setCell (p := ⟨w3.heap.size, nx (flL xs) p, none⟩) z5 (.bool true))
                have HT4 := Lib.hid (HT3.out.upb hq1)
                have hxa := HXA.out (i - 1 - p) (by omega)
                rw [show i - 1 - (i - 1 - p) = p by omega, ← HGU.out] at hxa
                obtain ⟨g1, p1, e1, -, -, hcx1, -⟩ := (HV2.out.keep HB8.out (by omega)).cell (j := i - 1 - p) (by rw [← HE.out]; omega)
                obtain ⟨g2, p2, e2, -, -, hcy, -⟩ := (HU2.out.keep HB9.out (by omega)).cell (j := nx (flL xs) p) (by rw [← HE2.out]; omega)
                simp only [Value.slice.injEq] at e1 e2
                obtain ⟨rfl, -, -⟩ := e1
                obtain ⟨rfl, -, -⟩ := e2
                rw [hxa] at hcx1
                rw [hr2] at hcy
                obtain ⟨hc3, hf3⟩ := HT3.out.cell (q := nx (flL xs) p) hq1
                have HUW := Lib.hid (show unsM ((wr.setCell ⟨w3.heap.size, p, none⟩ (.bool true)).setCell ⟨w3.heap.size, nx (flL xs) p, none⟩ (.bool true)) w3.heap.size H < unsM wr w3.heap.size H by
                  rw [unsM_eq HT2.out H (Nat.le_refl _), unsM_eq HT4.out H (Nat.le_refl _)]
                  have := uns_upb hs2 H hp
                  have := uns_mono (upb S' p) (nx (flL xs) p) H
                  omega)
                have HUK := Lib.hid (show uns (upb (upb S' p) (nx (flL xs) p)) H < k - 1 by
                  have := uns_upb hs2 H hp
                  have := uns_mono (upb S' p) (nx (flL xs) p) H
                  have := HKK.out
                  omega)
                have HW3 := Lib.hid (show ccW (flL xs) ys (k - 1) (upb (upb S' p) (nx (flL xs) p)) (nx ys (nx (flL xs) p)) = ccW (flL xs) ys (H + 1) S j by
                  rw [← HW.out]
                  have := HKK.out
                  obtain ⟨k', rfl⟩ : ∃ k', k = k' + 1 := ⟨k - 1, by omega⟩
                  rw [ccW_go hs2]; rfl)
                have HTT3 := Lib.hid ((HTT2.out.off (g2 := w3.heap.size) (j := p) (by omega) (.bool true)).off (g2 := w3.heap.size) (j := nx (flL xs) p) (by omega) (.bool true))
                clear hs2 hxa hq2 hr2
                generalize nx ys (nx (flL xs) p) = q3' at *
                generalize nx (flL xs) p = q2' at *
                generalize upb S' p q2' = bb at hc3
                obtain ⟨qa, hqa⟩ : ∃ qa, qa = i - 1 - p := ⟨_, rfl⟩
                obtain ⟨qb, hqb⟩ : ∃ qb, qb = i - 1 - q2' := ⟨_, rfl⟩
                rw [← hqa] at hcx1
                rw [← hqb] at hcx1
                have r1 : (i : Int) - 1 - (p : Int) = (qa : Int) := by omega
                have r2 : (i : Int) - 1 - (qb : Int) = (q2' : Int) := by omega
                have v1 : IntKind.i64.wrap (qa : Int) = (qa : Int) := IntWalk.i64_in _ (by omega)
                have v2 : IntKind.i64.wrap (q2' : Int) = (q2' : Int) := IntWalk.i64_in _ (by omega)
                have hqai : (qa : Int) < (i : Int) := by omega
                have hq2i : (q2' : Int) < (H : Int) := by omega
                have hq2N : (q2' : Int) < (i : Int) := by omega
                clear hqa hqb hNN
                go_wp2
                refine ⟨⟨q3', k - 1, _, hr1, hr0, rfl, HTT3.out, HT4.out, HUK.out, HW3.out, HB9.out⟩, HUW.out⟩
              · rw [hs2] at hc2
                have HW2 := Lib.hid (HW.out.symm.trans (ccW_hit hs2))
                clear hs2
                go_wp2
                refine ⟨⟨j + 1, by omega, by simp, by rw [HG.out]; simp, HTT2.out, by rw [HG.out]; show TkB _ _ _ (ccW (flL xs) ys (H + 1) S j); rw [HW2.out]; exact HT2.out, HB7.out⟩, by simp [intOf]; omega⟩
          · have HG := Lib.hid (HHIT.out hs)
            rw [hs] at hc1
            clear hs
            go_wp2
            refine ⟨⟨j + 1, by omega, by simp, by rw [HG.out, HSC.out], HTT.out, by rw [HG.out, HSC.out]; exact HK.out, HB6.out⟩, by simp [intOf]; omega⟩
        · obtain rfl : j = H := by omega
          have HOW := Lib.hid (show OwnI wr w.heap.size wr.heap.size (.slice (some ⟨w2.heap.size, 0, none⟩) i i) (mdL u b j i) from OwnI.of_tab HTT.out (mdL_len u b j i) (Nat.le_refl _) (fun q hq => mdL_at u b j hq) (by omega) HTT.out.lt)
          go_wp2
          go_ret3
          exact ⟨_, ret_inb rfl (by rw [HZ.out, HSC.out]) rfl, by rw [HP.out]; exact HOW.out, HB2.out.trans (HB6.out.mono (by omega))⟩

theorem multiplyDiagrams_no (A A' : Option Addr) (xs ys : List Int) (cap cap' lo hi lo' hi' : Nat) (w : World) (hv : OwnI w lo hi (.slice A xs.length cap) xs) (hu : OwnI w lo' hi' (.slice A' ys.length cap') ys) (hhi : hi ≤ w.heap.size) (hhu : hi' ≤ w.heap.size) (hl : xs.length ≤ 1099511627776) (hl' : ys.length ≤ 1099511627776) (hok : mdOk xs ys = false) :
    Calls Try.prog 25 #[.slice A xs.length cap, .slice A' ys.length cap'] w (AnsInB (mdP xs ys) (mdN xs ys) false w) := by
  have HP := Lib.hid (show mdP xs ys = [] from if_neg (by rw [hok]; simp))
  have HZ := Lib.hid (show mdN xs ys = 0 from if_neg (by rw [hok]; simp))
  have HMX := Lib.hid (isDiagram A xs cap lo hi w hv hhi hl)
  have HMY := Lib.hid (fun W (h : OwnI W lo' hi' (.slice A' ys.length cap') ys) (hh : hi' ≤ W.heap.size) => isDiagram A' ys cap' lo' hi' W h hh hl')
  have HU := Lib.hid hu
  clear hv hu
  rcases hx : diaB xs with _ | _
  · rw [hx] at HMX
    clear hx hok
    go_enter Try.func25, Try.ntmps25
    go_wp2_with fail
    (with_reducible refine HMX.out.mono ?_)
    rintro e w1 ⟨rfl, hb⟩
    have HB := Lib.hid hb
    clear hb
    go_wp2
    go_ret3
    exact ⟨_, ret_inb rfl HZ.out.symm rfl, by rw [HP.out]; exact ⟨_, _, rfl, .inl rfl⟩, HB.out.alloc HB.out.size _⟩
  rcases hy : diaB ys with _ | _
  · rw [hx] at HMX
    rw [hy] at HMY
    clear hx hy hok
    go_enter Try.func25, Try.ntmps25
    go_wp2_with fail
    (with_reducible refine HMX.out.mono ?_)
    rintro e w1 ⟨rfl, hb⟩
    have HB := Lib.hid hb
    have HU1 := Lib.hid (HU.out.keep hb hhu)
    have z1 := hb.size
    clear hb
    go_wp2_with fail
    (with_reducible refine (HMY.out _ HU1.out (by omega)).mono ?_)
    rintro e w2 ⟨rfl, hb⟩
    have HB2 := Lib.hid (HB.out.trans (hb.mono z1))
    clear hb
    go_wp2
    go_ret3
    exact ⟨_, ret_inb rfl HZ.out.symm rfl, by rw [HP.out]; exact ⟨_, _, rfl, .inl rfl⟩, HB2.out.alloc HB2.out.size _⟩
  · have hne : ((xs.length : Int) != (ys.length : Int)) = true := by
      have : xs.length ≠ ys.length := fun e => by unfold mdOk at hok; rw [hx, hy, decide_eq_true e] at hok; simp at hok
      simp; omega
    rw [hx] at HMX
    rw [hy] at HMY
    clear hx hy hok
    go_enter Try.func25, Try.ntmps25
    go_wp2_with fail
    (with_reducible refine HMX.out.mono ?_)
    rintro e w1 ⟨rfl, hb⟩
    have HB := Lib.hid hb
    have HU1 := Lib.hid (HU.out.keep hb hhu)
    have z1 := hb.size
    clear hb
    go_wp2_with fail
    (with_reducible refine (HMY.out _ HU1.out (by omega)).mono ?_)
    rintro e w2 ⟨rfl, hb⟩
    have HB2 := Lib.hid (HB.out.trans (hb.mono z1))
    clear hb
    go_wp2
    go_ret3
    exact ⟨_, ret_inb rfl HZ.out.symm rfl, by rw [HP.out]; exact ⟨_, _, rfl, .inl rfl⟩, HB2.out.alloc HB2.out.size _⟩
theorem multiplyDiagrams (A A' : Option Addr) (xs ys : List Int) (cap cap' lo hi lo' hi' : Nat) (w : World) (hv : OwnI w lo hi (.slice A xs.length cap) xs) (hu : OwnI w lo' hi' (.slice A' ys.length cap') ys) (hhi : hi ≤ w.heap.size) (hhu : hi' ≤ w.heap.size) (hl : xs.length ≤ 1099511627776) (hl' : ys.length ≤ 1099511627776) :
    Calls Try.prog 25 #[.slice A xs.length cap, .slice A' ys.length cap'] w (AnsInB (mdP xs ys) (mdN xs ys) (mdOk xs ys) w) := by
  rcases hok : mdOk xs ys with _ | _
  · exact multiplyDiagrams_no A A' xs ys cap cap' lo hi lo' hi' w hv hu hhi hhu hl hl' hok
  · exact multiplyDiagrams_yes A A' xs ys cap cap' lo hi lo' hi' w hv hu hhi hhu hok

end Go.Proofs.Ytcckpodpgenapaa
