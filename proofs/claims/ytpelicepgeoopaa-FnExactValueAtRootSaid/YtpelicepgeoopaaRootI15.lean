/- ValueAtRoot: the program. -/
import Derived.Test.YtpelicepgeoopaaRoot15
import Derived.Test.YtpelicepgeoopaaVal14
namespace Go.Proofs.Ytpelicepgeoopaa
open Go.ChangeShapes Go.WideShapes Go.ChangeAt Go.RowKit
set_option linter.unusedVariables false

theorem va_short {Y : List Int} (h : Y.length ≤ 1) (hp : plyB Y = true) : vaOk Y 1 = true ∧ vaP Y 1 = Y.getD 0 0 := by
  have ho : vaOk Y 1 = true := by unfold vaOk hvB; rw [hp, if_pos h]; rfl
  refine ⟨ho, ?_⟩
  unfold vaP
  rw [if_pos ho]
  match Y, h with
  | [], _ => rfl
  | [x], _ =>
    have hb : inB 1000000000 [x] = true := by
      unfold plyB at hp
      simp only [Bool.and_eq_true] at hp
      exact hp.1.2
    have hx : -1000000000 ≤ x ∧ x ≤ 1000000000 := inB_at hb (by omega) 0
    have e0 : wrap64 0 = 0 := IntWalk.wrap64_in _ (by omega)
    simp [vaL, bwL, hvI]
    rw [e0, Int.zero_add]
    exact IntWalk.wrap64_in _ (by omega)

set_option maxRecDepth 100000 in
set_option maxHeartbeats 3200000 in
theorem valueAtRootI (A : Option Addr) (xs : List Int) (d : Int) (cap lo hi : Nat) (w : World) (hv : OwnI w lo hi (.slice A xs.length cap) xs) (hhi : hi ≤ w.heap.size) (hcap : xs.length ≤ cap) (hl : xs.length ≤ 1048576) :
    Calls Try.prog 21 #[.slice A xs.length cap, .int .i64 d] w fun e w' => e = .returned (.tuple #[.int .i64 (vrP xs d), .bool (vrOk xs d)]) ∧ Below w.heap.size w w' := by
  have HC := Lib.hid (fun W => cyclotomicPolynomialI d W)
  by_cases hd : 1 ≤ d ∧ d ≤ 16
  · have hc : cyOk d = true := decide_eq_true hd
    rw [hc] at HC
    obtain ⟨n, rfl⟩ : ∃ n : Nat, d = (n : Int) := ⟨d.toNat, by omega⟩
    have hR : cyR (n : Int) = cyP n := by unfold cyR; rw [if_pos hc, Int.toNat_natCast]
    rw [hR] at HC
    obtain ⟨⟨l1, l2⟩, -⟩ := dis_parts (cy_dis n (by omega) (by omega))
    have HV := Lib.hid hv
    have HHI := Lib.hid hhi
    rcases hf : facB xs with _ | _
    · have HO := Lib.hid (show vrOk xs n = false by unfold vrOk; rw [hf]; rfl)
      have HP := Lib.hid (show vrP xs n = 0 from if_neg (by simp [HO.out]))
      have HD := Lib.hid (fun A4 c4 lo4 hi4 W (o1 : OwnI W lo hi (.slice A xs.length cap) xs) (h1 : hi ≤ W.heap.size) (o2 : OwnI W lo4 hi4 (.slice A4 (cyP n).length c4) (cyP n)) (h2 : hi4 ≤ W.heap.size) => dividePolynomialsI A A4 xs (cyP n) cap c4 lo hi lo4 hi4 W o1 o2 h1 h2 hcap (by omega) (by omega))
      rw [dv_no1 hf] at HD
      clear hf hv hd hc hR
      go_enter Try.func21, Try.ntmps21
      go_wp2_with fail
      (with_reducible refine (HC.out _).mono ?_)
      rintro e w2 ⟨v2, rfl, ho2, hb2⟩
      obtain ⟨A4, c4, e4, -⟩ := id ho2
      subst e4
      have HDD := Lib.hid (HD.out A4 c4 _ _ w2 (HV.out.keep hb2 HHI.out) (Nat.le_trans HHI.out hb2.size) ho2 (Nat.le_refl _))
      have HB2 := Lib.hid hb2
      clear ho2 hb2
      go_wp2_with fail
      (with_reducible refine HDD.out.mono ?_)
      rintro e w3 ⟨v3, u3, m3, rfl, -, -, -, -, hb3⟩
      have HB3 := Lib.hid (HB2.out.trans (hb3.mono HB2.out.size))
      clear hb3
      go_wp2
      go_ret2
      exact ⟨ret_nb HP.out.symm HO.out.symm, HB3.out⟩
    · have HO := Lib.hid (show vrOk xs n = decide ((dvY xs (cyP n)).length ≤ 1) by unfold vrOk; rw [hf, hc, hR]; rfl)
      have HP := Lib.hid (show vrP xs n = if vrOk xs n = true then (dvY xs (cyP n)).getD 0 0 else 0 by unfold vrP; rw [hR])
      have hok := vr_ok hf (show n < 17 by omega) (by omega)
      have HPL := Lib.hid (show plyB (dvY xs (cyP n)) = true by unfold dvY; rw [if_pos hok]; exact (of_decide_eq_true hok : dvGood xs (cyP n)).2.2.2)
      have HD := Lib.hid (show ∀ A4 c4 lo4 hi4 W, OwnI W lo hi (.slice A xs.length cap) xs → hi ≤ W.heap.size → OwnI W lo4 hi4 (.slice A4 (cyP n).length c4) (cyP n) → hi4 ≤ W.heap.size → Calls Try.prog 28 #[.slice A xs.length cap, .slice A4 (cyP n).length c4] W fun e w' => ∃ v A5 c5, e = .returned (.tuple #[v, .slice A5 (dvY xs (cyP n)).length c5, .bool true]) ∧ (dvY xs (cyP n)).length ≤ c5 ∧ OwnI w' W.heap.size w'.heap.size (.slice A5 (dvY xs (cyP n)).length c5) (dvY xs (cyP n)) ∧ Below W.heap.size W w' from fun A4 c4 lo4 hi4 W o1 h1 o2 h2 => by
        by_cases h0 : 0 < xs.length
        · refine (dividePolynomialsI_cap A A4 xs (cyP n) cap c4 lo hi lo4 hi4 W o1 o2 h1 h2 hcap hok h0).mono ?_
          rintro e w' ⟨g, u, rfl, ⟨A5, c5, rfl, hc5⟩, hu, _, hb⟩
          exact ⟨_, A5, c5, rfl, hc5, hu, hb⟩
        · have hn : xs = [] := List.eq_nil_of_length_eq_zero (by omega)
          have hY : dvY xs (cyP n) = [] := by unfold dvY; rw [if_pos hok, hn]; rfl
          have h := dividePolynomialsI A A4 xs (cyP n) cap c4 lo hi lo4 hi4 W o1 o2 h1 h2 hcap (by omega) (by omega)
          rw [hok] at h
          refine h.mono ?_
          rintro e w' ⟨v, u, m, rfl, _, hu, _, hm, hb⟩
          rw [hY] at hu ⊢
          obtain ⟨A5, c5, rfl, -⟩ := id hu
          exact ⟨_, A5, c5, rfl, Nat.zero_le _, hu.wide (Nat.le_refl _) hm, hb⟩)
      have HYL := Lib.hid (dvY_len xs (cyP n))
      clear hf hv hd hc hR hok l1 l2
      generalize dvY xs (cyP n) = Y at *
      go_enter Try.func21, Try.ntmps21
      go_wp2_with fail
      (with_reducible refine (HC.out _).mono ?_)
      rintro e w2 ⟨v2, rfl, ho2, hb2⟩
      obtain ⟨A4, c4, e4, -⟩ := id ho2
      subst e4
      have HDD := Lib.hid (HD.out A4 c4 _ _ w2 (HV.out.keep hb2 HHI.out) (Nat.le_trans HHI.out hb2.size) ho2 (Nat.le_refl _))
      have HB2 := Lib.hid hb2
      clear ho2 hb2
      go_wp2_with fail
      (with_reducible refine HDD.out.mono ?_)
      rintro e w3 ⟨v3, A5, c5, rfl, hc5, ho3, hb3⟩
      have HB3 := Lib.hid (HB2.out.trans (hb3.mono HB2.out.size))
      by_cases h1 : Y.length ≤ 1
      · obtain ⟨va1, va2⟩ := va_short h1 HPL.out
        have hVA := valueAtI A5 Y 1 c5 _ _ w3 ho3 (Nat.le_refl _) hc5 (by omega)
        rw [va1, va2] at hVA
        have HVA := Lib.hid hVA
        have HOO := Lib.hid (show vrOk xs n = true by rw [HO.out]; exact decide_eq_true h1)
        have HPP := Lib.hid (show vrP xs n = Y.getD 0 0 by rw [HP.out, HOO.out]; rfl)
        have hni : ¬ ((1 : Int) < (Y.length : Int)) := by omega
        generalize Y.getD 0 0 = z at *
        clear hVA ho3 hb3 h1 va1 va2
        go_wp2_with fail
        (with_reducible refine HVA.out.mono ?_)
        rintro e w4 ⟨rfl, hb4⟩
        have HB4 := Lib.hid (HB3.out.trans (hb4.mono HB3.out.size))
        clear hb4
        go_wp2
        go_ret2
        exact ⟨ret_nb HPP.out.symm HOO.out.symm, HB4.out⟩
      · have HOO := Lib.hid (show vrOk xs n = false by rw [HO.out]; exact decide_eq_false h1)
        have HPP := Lib.hid (show vrP xs n = 0 by rw [HP.out, HOO.out]; rfl)
        have hni : (1 : Int) < (Y.length : Int) := by omega
        clear ho3 hb3 h1
        go_wp2
        go_ret2
        exact ⟨ret_nb HPP.out.symm HOO.out.symm, HB3.out⟩
  · have hc : cyOk d = false := decide_eq_false hd
    have HO := Lib.hid (show vrOk xs d = false by unfold vrOk; rw [hc, Bool.and_false]; rfl)
    have HP := Lib.hid (show vrP xs d = 0 from if_neg (by simp [HO.out]))
    rw [hc] at HC
    clear hv hd hc
    go_enter Try.func21, Try.ntmps21
    go_wp2_with fail
    (with_reducible refine (HC.out _).mono ?_)
    rintro e w2 ⟨v2, rfl, ho2, hb2⟩
    have HB2 := Lib.hid hb2
    clear ho2 hb2
    go_wp2
    go_ret2
    exact ⟨ret_nb HP.out.symm HO.out.symm, HB2.out⟩

end Go.Proofs.Ytpelicepgeoopaa
