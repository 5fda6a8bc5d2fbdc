/- The model's IsTriangulation. -/
import Derived.Test.YtkpnfonedfomaaaSpec7A
namespace Go.Proofs.Ytkpnfonedfomaaa
open Go.ChangeShapes Go.WideShapes Go.ChangeAt Go.RowKit
set_option linter.unusedVariables false

theorem drewN3 (w : World) (a b c : Nat) : ((w.drewN a).drewN b).drewN c = w.drewN (a + b + c) := by rw [World.drewN_drewN, World.drewN_drewN, Nat.add_assoc]
theorem still_q7 {P : Program} {f : Nat} {args : Array Value} {w : World} {q n : Nat} {v : Value} (h : Calls P f args (w.drewN (q + n)) fun e w' => e = .returned v ∧ ∃ m, w' = (w.drewN (q + n)).drewN m) : Calls P f args (w.drewN (q + n)) fun e w' => e = .returned v ∧ ∃ m, w' = w.drewN (q + m) :=
  h.mono fun e w' ⟨he, m, hm⟩ => ⟨he, n + m, by rw [hm, World.drewN_drewN, Nat.add_assoc]⟩
theorem tri_out {n : Int} {ls : List (List Int)} (h : ¬ inN n ls) : triB n ls = false := decide_eq_false fun h2 => h h2.1
theorem tri_bad {n : Int} {ls : List (List Int)} {i : Nat} (hi : i < ls.length) (h : ¬ okM n ls i) : triB n ls = false := decide_eq_false fun h2 => h (h2.2 i hi)

set_option maxRecDepth 100000 in
set_option maxHeartbeats 6400000 in
theorem isTriS (n : Int) (v : Value) (ls : List (List Int)) (lo hi : Nat) (w : World) (hv : OwnT w lo hi v ls) (hl : ls.length ≤ 1048576) :
    Calls Try.prog 10 #[.int .i64 n, v] w fun e w' => e = .returned (.bool (triB n ls)) ∧ ∃ q, w' = w.drewN q := by
  obtain ⟨A1, c1, rfl, k1⟩ := id hv
  clear k1
  by_cases hn : 2 ≤ n ∧ n ≤ 10
  · have HN0 := Lib.hid (fun W => l1In_yes n 2 10 W hn.1 hn.2)
    have hn1 := hn.1
    have hn2 := hn.2
    by_cases hlen : (ls.length : Int) = max 0 (n - 3)
    · have d1 : ((ls.length : Int) != max 0 (n - 3)) = false := by simp [hlen]
      have hlen8 : ls.length ≤ 7 := by omega
      have HIN := Lib.hid (show inN n ls from ⟨hn.1, hn.2, hlen⟩)
      have HV := Lib.hid hv
      have HBAD := Lib.hid (fun i (hi : i < ls.length) (h : ¬ okM n ls i) => tri_bad hi h)
      have HGOOD := Lib.hid (show (∀ i, i < ls.length → okM n ls i) → triB n ls = true from fun h => decide_eq_true ⟨HIN.out, h⟩)
      clear hlen hv
      generalize triB n ls = T at *
      go_enter Try.func10, Try.ntmps10
      go_wp2_with fail
      (with_reducible refine (HN0.out _).mono ?_)
      rintro e w0 ⟨rfl, rfl⟩
      go_wp2
      go_loopw [5] (fun x wr => ∃ i d : Nat, i ≤ ls.length ∧ x = .int .i64 i ∧ wr = w.drewN d ∧ ∀ q, q < i → okM n ls q) (fun x _ => ls.length - (intOf x).toNat)
      case atStart => exact ⟨0, 0, Nat.zero_le _, rfl, rfl, fun q hq => absurd hq (Nat.not_lt_zero _)⟩
      case round =>
        obtain ⟨i, d, hi1, rfl, rfl, hall⟩ := hrel
        have HALL := Lib.hid hall
        clear hall
        by_cases hlt : i < ls.length
        · have hii : (i : Int) < (ls.length : Int) := by omega
          have HBADI := Lib.hid (HBAD.out i hlt)
          obtain ⟨o, rv, rfl, -, -, hc, ho⟩ := HV.out.cell hlt
          have HOI := Lib.hid (show okM n ls i ↔ ((ls.getD i []).length = 2 ∧ (0 ≤ (ls.getD i []).getD 0 0 ∧ (ls.getD i []).getD 0 0 ≤ n - 1) ∧ ((ls.getD i []).getD 0 0 + 2 ≤ (ls.getD i []).getD 1 0 ∧ (ls.getD i []).getD 1 0 ≤ n - 1) ∧ ¬ ((ls.getD i []).getD 0 0 = 0 ∧ (ls.getD i []).getD 1 0 = n - 1) ∧ (0 < i → bef (rwC (ls.getD (i - 1) [])) (rwC (ls.getD i [])) = true) ∧ ∀ k, k < i → crs (rwC (ls.getD k [])) (rwC (ls.getD i [])) = false) from Iff.rfl)
          by_cases h2 : (ls.getD i []).length = 2
          · obtain ⟨rv', hc', hrw⟩ := rowC_at HV.out hlt h2
            rw [hc] at hc'
            simp only [Option.some.injEq] at hc'
            subst hc'
            have HRW := Lib.hid hrw
            obtain ⟨g, cg, rfl, x0, x1⟩ := hrw
            have HRX := Lib.hid (show rwC (ls.getD i []) = ((ls.getD i []).getD 0 0, (ls.getD i []).getD 1 0) from rfl)
            have hx0 : w.cell? ⟨g, 0, none⟩ = some (.int .i64 ((ls.getD i []).getD 0 0)) := x0
            have hx1 : w.cell? ⟨g, 1, none⟩ = some (.int .i64 ((ls.getD i []).getD 1 0)) := x1
            clear x0 x1 ho
            have HH2 := Lib.hid h2
            generalize (ls.getD i []).getD 0 0 = a at *
            generalize (ls.getD i []).getD 1 0 = b at *
            rw [h2] at HOI
            clear h2
            by_cases ha : 0 ≤ a ∧ a ≤ n - 1
            · have HA := Lib.hid (fun W => l1In_yes a 0 (n - 1) W ha.1 ha.2)
              have ha1 := ha.1
              have ha2 : a ≤ 9 := by omega
              by_cases hb : a + 2 ≤ b ∧ b ≤ n - 1
              · have HB := Lib.hid (fun W => l1In_yes b (a + 2) (n - 1) W hb.1 hb.2)
                by_cases he : a = 0 ∧ b = n - 1
                · have e0 : (a == 0) = true := by simp [he.1]
                  have e1 : (b == n - 1) = true := by simp [he.2]
                  have HT := Lib.hid (HBADI.out fun h => (HOI.out.1 h).2.2.2.1 he)
                  clear ha hb he
                  go_wp2
                  go_quiet (first | (with_reducible exact still_add7 (HA.out _)) | (with_reducible exact still_add7 (HB.out _)))
                  go_wp2
                  go_ret
                  exact ⟨ret_bool HT.out.symm, _, by first | rfl | exact World.drewN_drewN _ _ _ | exact drewN3 _ _ _ _⟩
                · have HE : (a == 0) = false ∨ ((a == 0) = true ∧ (b == n - 1) = false) := by
                    by_cases e : a = 0
                    · subst e
                      exact .inr ⟨rfl, by simp; omega⟩
                    · exact .inl (by simp [e])
                  have HOJ := Lib.hid (show (0 < i → bef (rwC (ls.getD (i - 1) [])) (rwC (ls.getD i [])) = true) → (∀ k, k < i → crs (rwC (ls.getD k [])) (rwC (ls.getD i [])) = false) → okM n ls i from fun h3 h4 => HOI.out.2 ⟨rfl, ha, hb, he, h3, h4⟩)
                  have HOK := Lib.hid (show okM n ls i → (0 < i → bef (rwC (ls.getD (i - 1) [])) (rwC (ls.getD i [])) = true) ∧ (∀ k, k < i → crs (rwC (ls.getD k [])) (rwC (ls.getD i [])) = false) from fun h => (HOI.out.1 h).2.2.2.2)
                  clear ha hb he HOI
                  have HIN2 := Lib.hid (show ∀ k, k < i → (ls.getD k []).length = 2 from fun k hk => (HALL.out k hk).1)
                  rcases HE with e0 | ⟨e0, e1⟩
                  · go_wp2
                    go_quiet (first | (with_reducible exact still_add7 (HA.out _)) | (with_reducible exact still_add7 (HB.out _)))
                    go_wp2
                    rcases Nat.eq_zero_or_pos i with h0 | h0
                    · subst h0
                      have HPASS := Lib.hid (HOJ.out fun h => absurd h (Nat.lt_irrefl _))
                      go_wp2
                      go_quiet (fail)
                      go_wp2
                      go_loopw [6] (fun x wr => ∃ k d2 : Nat, k ≤ 0 ∧ x = .int .i64 k ∧ wr = w.drewN d2 ∧ ∀ q, q < k → crs (rwC (ls.getD q [])) (rwC (ls.getD (0) [])) = false) (fun x _ => 0 - (intOf x).toNat)
                      case atStart => exact ⟨0, _, Nat.zero_le _, rfl, by first | rfl | exact World.drewN_drewN _ _ _ | exact drewN3 _ _ _ _, fun q hq => absurd hq (Nat.not_lt_zero _)⟩
                      case round =>
                        obtain ⟨k, d2, hk1, rfl, rfl, hq⟩ := hrel
                        have HQ := Lib.hid hq
                        clear hq
                        by_cases hkn : k < 0
                        · exact absurd hkn (Nat.not_lt_zero _)
                        · obtain rfl : k = 0 := by omega
                          have hki : ¬ (((0 : Nat) : Int) < ((0 : Nat) : Int)) := by omega
                          have HA2 := Lib.hid (show ∀ q, q < 0 + 1 → okM n ls q from fun q hq => by
                            by_cases e : q < 0
                            · exact HALL.out q e
                            · obtain rfl : q = 0 := by omega
                              exact HPASS.out HQ.out)
                          go_wp2
                          exact ⟨⟨0 + 1, _, by omega, by simp, by first | rfl | exact World.drewN_drewN _ _ _ | exact drewN3 _ _ _ _, HA2.out⟩, by simp [intOf]; omega⟩
                    · obtain ⟨p, rfl⟩ : ∃ p, i = p + 1 := ⟨i - 1, by omega⟩
                      have hpp : ((p + 1 : Nat) : Int) - 1 = (p : Int) := by omega
                      have hpn : (p : Int) < (ls.length : Int) := by omega
                      have hp0 : (0 : Int) < ((p + 1 : Nat) : Int) := by omega
                      obtain ⟨rp, hcp, hrp⟩ := rowC_at HV.out (show p < ls.length by omega) (HIN2.out p (Nat.lt_succ_self p))
                      have HBE := Lib.hid (fun q => l7BeforeS rp _ _ _ (w.drewN q) (hrp.drewN q) (HRW.out.drewN q))
                      have HPA := Lib.hid (show bef (rwC (ls.getD p [])) (rwC (ls.getD (p + 1) [])) = true → (∀ k, k < p + 1 → crs (rwC (ls.getD k [])) (rwC (ls.getD (p + 1) [])) = false) → okM n ls (p + 1) from fun h h4 => HOJ.out (fun _ => h) h4)
                      have HNB := Lib.hid (show bef (rwC (ls.getD p [])) (rwC (ls.getD (p + 1) [])) = false → T = false from fun h => HBADI.out fun h2 => by
                        have := (HOK.out h2).1 (Nat.succ_pos p)
                        rw [Nat.add_sub_cancel, h] at this; cases this)
                      clear hrp
                      generalize bef (rwC (ls.getD p [])) (rwC (ls.getD (p + 1) [])) = z at *
                      rcases z with _ | _
                      · have HT := Lib.hid (HNB.out rfl)
                        clear HNB HPA
                        go_wp2
                        go_quiet (with_reducible exact still_q7 (HBE.out _))
                        go_wp2
                        go_ret
                        exact ⟨ret_bool HT.out.symm, _, by first | rfl | exact World.drewN_drewN _ _ _ | exact drewN3 _ _ _ _⟩
                      · have HPASS := Lib.hid (HPA.out rfl)
                        clear HNB HPA
                        go_wp2
                        go_quiet (with_reducible exact still_q7 (HBE.out _))
                        go_wp2
                        go_loopw [6] (fun x wr => ∃ k d2 : Nat, k ≤ (p + 1) ∧ x = .int .i64 k ∧ wr = w.drewN d2 ∧ ∀ q, q < k → crs (rwC (ls.getD q [])) (rwC (ls.getD ((p + 1)) [])) = false) (fun x _ => (p + 1) - (intOf x).toNat)
                        case atStart => exact ⟨0, _, Nat.zero_le _, rfl, by first | rfl | exact World.drewN_drewN _ _ _ | exact drewN3 _ _ _ _, fun q hq => absurd hq (Nat.not_lt_zero _)⟩
                        case round =>
                          obtain ⟨k, d2, hk1, rfl, rfl, hq⟩ := hrel
                          have HQ := Lib.hid hq
                          clear hq
                          by_cases hkn : k < (p + 1)
                          · have hki : (k : Int) < (((p + 1) : Nat) : Int) := by omega
                            have hkl : (k : Int) < (ls.length : Int) := by omega
                            obtain ⟨rk, hck, hrk⟩ := rowC_at HV.out (show k < ls.length by omega) (HIN2.out k hkn)
                            have HCR := Lib.hid (fun q => l7CrossesS rk _ _ _ (w.drewN q) (hrk.drewN q) (HRW.out.drewN q))
                            have HQ2 := Lib.hid (show crs (rwC (ls.getD k [])) (rwC (ls.getD ((p + 1)) [])) = false → ∀ q, q < k + 1 → crs (rwC (ls.getD q [])) (rwC (ls.getD ((p + 1)) [])) = false from fun h q hq => by
                              by_cases e : q < k
                              · exact HQ.out q e
                              · obtain rfl : q = k := by omega
                                exact h)
                            have HNC := Lib.hid (show crs (rwC (ls.getD k [])) (rwC (ls.getD ((p + 1)) [])) = true → T = false from fun h => HBADI.out fun h2 => by
                              have := (HOK.out h2).2 k hkn
                              rw [h] at this; cases this)
                            clear hrk
                            generalize crs (rwC (ls.getD k [])) (rwC (ls.getD ((p + 1)) [])) = z at *
                            rcases z with _ | _
                            · have HQ3 := Lib.hid (HQ2.out rfl)
                              clear HQ2 HNC
                              go_wp2
                              go_quiet (with_reducible exact still_q7 (HCR.out _))
                              go_wp2
                              exact ⟨⟨k + 1, _, by omega, by simp, by first | rfl | exact World.drewN_drewN _ _ _ | exact drewN3 _ _ _ _, HQ3.out⟩, by simp [intOf]; omega⟩
                            · have HT := Lib.hid (HNC.out rfl)
                              clear HQ2 HNC
                              go_wp2
                              go_quiet (with_reducible exact still_q7 (HCR.out _))
                              go_wp2
                              go_ret
                              exact ⟨ret_bool HT.out.symm, _, by first | rfl | exact World.drewN_drewN _ _ _ | exact drewN3 _ _ _ _⟩
                          · obtain rfl : k = (p + 1) := by omega
                            have hki : ¬ ((((p + 1) : Nat) : Int) < (((p + 1) : Nat) : Int)) := by omega
                            have HA2 := Lib.hid (show ∀ q, q < (p + 1) + 1 → okM n ls q from fun q hq => by
                              by_cases e : q < (p + 1)
                              · exact HALL.out q e
                              · obtain rfl : q = (p + 1) := by omega
                                exact HPASS.out HQ.out)
                            go_wp2
                            exact ⟨⟨(p + 1) + 1, _, by omega, by simp, by first | rfl | exact World.drewN_drewN _ _ _ | exact drewN3 _ _ _ _, HA2.out⟩, by simp [intOf]; omega⟩
                  · go_wp2
                    go_quiet (first | (with_reducible exact still_add7 (HA.out _)) | (with_reducible exact still_add7 (HB.out _)))
                    go_wp2
                    rcases Nat.eq_zero_or_pos i with h0 | h0
                    · subst h0
                      have HPASS := Lib.hid (HOJ.out fun h => absurd h (Nat.lt_irrefl _))
                      go_wp2
                      go_quiet (fail)
                      go_wp2
                      go_loopw [6] (fun x wr => ∃ k d2 : Nat, k ≤ 0 ∧ x = .int .i64 k ∧ wr = w.drewN d2 ∧ ∀ q, q < k → crs (rwC (ls.getD q [])) (rwC (ls.getD (0) [])) = false) (fun x _ => 0 - (intOf x).toNat)
                      case atStart => exact ⟨0, _, Nat.zero_le _, rfl, by first | rfl | exact World.drewN_drewN _ _ _ | exact drewN3 _ _ _ _, fun q hq => absurd hq (Nat.not_lt_zero _)⟩
                      case round =>
                        obtain ⟨k, d2, hk1, rfl, rfl, hq⟩ := hrel
                        have HQ := Lib.hid hq
                        clear hq
                        by_cases hkn : k < 0
                        · exact absurd hkn (Nat.not_lt_zero _)
                        · obtain rfl : k = 0 := by omega
                          have hki : ¬ (((0 : Nat) : Int) < ((0 : Nat) : Int)) := by omega
                          have HA2 := Lib.hid (show ∀ q, q < 0 + 1 → okM n ls q from fun q hq => by
                            by_cases e : q < 0
                            · exact HALL.out q e
                            · obtain rfl : q = 0 := by omega
                              exact HPASS.out HQ.out)
                          go_wp2
                          exact ⟨⟨0 + 1, _, by omega, by simp, by first | rfl | exact World.drewN_drewN _ _ _ | exact drewN3 _ _ _ _, HA2.out⟩, by simp [intOf]; omega⟩
                    · obtain ⟨p, rfl⟩ : ∃ p, i = p + 1 := ⟨i - 1, by omega⟩
                      have hpp : ((p + 1 : Nat) : Int) - 1 = (p : Int) := by omega
                      have hpn : (p : Int) < (ls.length : Int) := by omega
                      have hp0 : (0 : Int) < ((p + 1 : Nat) : Int) := by omega
                      obtain ⟨rp, hcp, hrp⟩ := rowC_at HV.out (show p < ls.length by omega) (HIN2.out p (Nat.lt_succ_self p))
                      have HBE := Lib.hid (fun q => l7BeforeS rp _ _ _ (w.drewN q) (hrp.drewN q) (HRW.out.drewN q))
                      have HPA := Lib.hid (show bef (rwC (ls.getD p [])) (rwC (ls.getD (p + 1) [])) = true → (∀ k, k < p + 1 → crs (rwC (ls.getD k [])) (rwC (ls.getD (p + 1) [])) = false) → okM n ls (p + 1) from fun h h4 => HOJ.out (fun _ => h) h4)
                      have HNB := Lib.hid (show bef (rwC (ls.getD p [])) (rwC (ls.getD (p + 1) [])) = false → T = false from fun h => HBADI.out fun h2 => by
                        have := (HOK.out h2).1 (Nat.succ_pos p)
                        rw [Nat.add_sub_cancel, h] at this; cases this)
                      clear hrp
                      generalize bef (rwC (ls.getD p [])) (rwC (ls.getD (p + 1) [])) = z at *
                      rcases z with _ | _
                      · have HT := Lib.hid (HNB.out rfl)
                        clear HNB HPA
                        go_wp2
                        go_quiet (with_reducible exact still_q7 (HBE.out _))
                        go_wp2
                        go_ret
                        exact ⟨ret_bool HT.out.symm, _, by first | rfl | exact World.drewN_drewN _ _ _ | exact drewN3 _ _ _ _⟩
                      · have HPASS := Lib.hid (HPA.out rfl)
                        clear HNB HPA
                        go_wp2
                        go_quiet (with_reducible exact still_q7 (HBE.out _))
                        go_wp2
                        go_loopw [6] (fun x wr => ∃ k d2 : Nat, k ≤ (p + 1) ∧ x = .int .i64 k ∧ wr = w.drewN d2 ∧ ∀ q, q < k → crs (rwC (ls.getD q [])) (rwC (ls.getD ((p + 1)) [])) = false) (fun x _ => (p + 1) - (intOf x).toNat)
                        case atStart => exact ⟨0, _, Nat.zero_le _, rfl, by first | rfl | exact World.drewN_drewN _ _ _ | exact drewN3 _ _ _ _, fun q hq => absurd hq (Nat.not_lt_zero _)⟩
                        case round =>
                          obtain ⟨k, d2, hk1, rfl, rfl, hq⟩ := hrel
                          have HQ := Lib.hid hq
                          clear hq
                          by_cases hkn : k < (p + 1)
                          · have hki : (k : Int) < (((p + 1) : Nat) : Int) := by omega
                            have hkl : (k : Int) < (ls.length : Int) := by omega
                            obtain ⟨rk, hck, hrk⟩ := rowC_at HV.out (show k < ls.length by omega) (HIN2.out k hkn)
                            have HCR := Lib.hid (fun q => l7CrossesS rk _ _ _ (w.drewN q) (hrk.drewN q) (HRW.out.drewN q))
                            have HQ2 := Lib.hid (show crs (rwC (ls.getD k [])) (rwC (ls.getD ((p + 1)) [])) = false → ∀ q, q < k + 1 → crs (rwC (ls.getD q [])) (rwC (ls.getD ((p + 1)) [])) = false from fun h q hq => by
                              by_cases e : q < k
                              · exact HQ.out q e
                              · obtain rfl : q = k := by omega
                                exact h)
                            have HNC := Lib.hid (show crs (rwC (ls.getD k [])) (rwC (ls.getD ((p + 1)) [])) = true → T = false from fun h => HBADI.out fun h2 => by
                              have := (HOK.out h2).2 k hkn
                              rw [h] at this; cases this)
                            clear hrk
                            generalize crs (rwC (ls.getD k [])) (rwC (ls.getD ((p + 1)) [])) = z at *
                            rcases z with _ | _
                            · have HQ3 := Lib.hid (HQ2.out rfl)
                              clear HQ2 HNC
                              go_wp2
                              go_quiet (with_reducible exact still_q7 (HCR.out _))
                              go_wp2
                              exact ⟨⟨k + 1, _, by omega, by simp, by first | rfl | exact World.drewN_drewN _ _ _ | exact drewN3 _ _ _ _, HQ3.out⟩, by simp [intOf]; omega⟩
                            · have HT := Lib.hid (HNC.out rfl)
                              clear HQ2 HNC
                              go_wp2
                              go_quiet (with_reducible exact still_q7 (HCR.out _))
                              go_wp2
                              go_ret
                              exact ⟨ret_bool HT.out.symm, _, by first | rfl | exact World.drewN_drewN _ _ _ | exact drewN3 _ _ _ _⟩
                          · obtain rfl : k = (p + 1) := by omega
                            have hki : ¬ ((((p + 1) : Nat) : Int) < (((p + 1) : Nat) : Int)) := by omega
                            have HA2 := Lib.hid (show ∀ q, q < (p + 1) + 1 → okM n ls q from fun q hq => by
                              by_cases e : q < (p + 1)
                              · exact HALL.out q e
                              · obtain rfl : q = (p + 1) := by omega
                                exact HPASS.out HQ.out)
                            go_wp2
                            exact ⟨⟨(p + 1) + 1, _, by omega, by simp, by first | rfl | exact World.drewN_drewN _ _ _ | exact drewN3 _ _ _ _, HA2.out⟩, by simp [intOf]; omega⟩
              · have HB := Lib.hid (fun W => l1In_no7 b (a + 2) (n - 1) W hb)
                have HT := Lib.hid (HBADI.out fun h => hb (HOI.out.1 h).2.2.1)
                clear ha hb
                go_wp2
                go_quiet (first | (with_reducible exact still_add7 (HA.out _)) | (with_reducible exact still_add7 (HB.out _)))
                go_wp2
                go_ret
                exact ⟨ret_bool HT.out.symm, _, by first | rfl | exact World.drewN_drewN _ _ _ | exact drewN3 _ _ _ _⟩
            · have HA := Lib.hid (fun W => l1In_no7 a 0 (n - 1) W ha)
              have HT := Lib.hid (HBADI.out fun h => ha (HOI.out.1 h).2.1)
              clear ha
              go_wp2
              go_quiet (with_reducible exact still_add7 (HA.out _))
              go_wp2
              go_ret
              exact ⟨ret_bool HT.out.symm, _, by first | rfl | exact World.drewN_drewN _ _ _ | exact drewN3 _ _ _ _⟩
          · obtain ⟨A2, c2, rfl, -⟩ := id ho
            have d2 : (((ls.getD i []).length : Int) != 2) = true := by
              rw [bne_iff_ne]; omega
            have HT := Lib.hid (HBADI.out fun h => h2 (HOI.out.1 h).1)
            clear h2 ho HOI
            generalize (ls.getD i []).length = L at *
            go_wp2
            go_quiet (fail)
            go_wp2
            go_ret
            exact ⟨ret_bool HT.out.symm, _, by first | rfl | exact World.drewN_drewN _ _ _ | exact drewN3 _ _ _ _⟩
        · obtain rfl : i = ls.length := by omega
          have hii : ¬ ((ls.length : Int) < (ls.length : Int)) := by omega
          have HT := Lib.hid (HGOOD.out HALL.out)
          go_wp2
          go_ret
          exact ⟨ret_bool HT.out.symm, _, by first | rfl | exact World.drewN_drewN _ _ _ | exact drewN3 _ _ _ _⟩
    · have d1 : ((ls.length : Int) != max 0 (n - 3)) = true := by simp [hlen]
      have HT := Lib.hid (tri_out (n := n) (ls := ls) fun h => hlen h.2.2)
      clear hlen hv
      go_enter Try.func10, Try.ntmps10
      go_wp2_with fail
      (with_reducible refine (HN0.out _).mono ?_)
      rintro e w0 ⟨rfl, rfl⟩
      go_wp2
      go_ret
      exact ⟨ret_bool HT.out.symm, 0, rfl⟩
  · have HN0 := Lib.hid (fun W => l1In_no7 n 2 10 W hn)
    have HT := Lib.hid (tri_out (n := n) (ls := ls) fun h => hn ⟨h.1, h.2.1⟩)
    clear hn hv
    go_enter Try.func10, Try.ntmps10
    go_wp2_with fail
    (with_reducible refine (HN0.out _).mono ?_)
    rintro e w0 ⟨rfl, rfl⟩
    go_wp2
    go_ret
    exact ⟨ret_bool HT.out.symm, 0, rfl⟩

end Go.Proofs.Ytkpnfonedfomaaa
