/- The model's IsTableau, PathOfTableau. -/
import Derived.Test.YtefbbkogfoongaaFactT11
import Derived.Test.YtefbbkogfoongaaTblLZ
import Derived.BigQuiet
namespace Go.Proofs.Ytefbbkogfoongaa
open Go.ChangeShapes Go.WideShapes Go.ChangeAt Go.RowKit
open Go.PlainAid (bt bt_nonneg bt_le get_bt)
set_option linter.unusedVariables false

theorem still_addT {P : Program} {f : Nat} {args : Array Value} {w : World} {q n : Nat} {v : Value} (h : Calls P f args (w.drewN (q + n)) fun e w' => e = .returned v ∧ w.drewN (q + n) = w') : Calls P f args (w.drewN (q + n)) fun e w' => e = .returned v ∧ ∃ m, w' = w.drewN (q + m) :=
  h.mono fun e w' h => ⟨h.1, n, h.2.symm⟩
theorem l1In_notT (x lo hi : Int) (w : World) (h : ¬ (lo ≤ x ∧ x ≤ hi)) : Calls Try.prog 27 #[.int .i64 x, .int .i64 lo, .int .i64 hi] w fun e w' => e = .returned (.bool false) ∧ w = w' := by
  by_cases h1 : x < lo
  · exact l1In_no1 x lo hi w h1
  · exact l1In_no2 x lo hi w (by omega) (by omega)
theorem rowT_at {w : World} {lo hi o c m : Nat} {ls : List (List Int)} (h : OwnT w lo hi (.slice (some ⟨o, 0, none⟩) m c) ls) {r n : Nat} (hr : r < ls.length) (hn : (ls.getD r []).length = n) (h0 : 0 < n) :
    ∃ g c', w.cell? ⟨o, r, none⟩ = some (.slice (some ⟨g, 0, none⟩) n c') ∧ ∀ i, i < n → w.cell? ⟨g, i, none⟩ = some (.int .i64 ((ls.getD r []).getD i 0)) := by
  obtain ⟨o', rv, e, -, -, hc, ho⟩ := h.cell hr
  obtain rfl : o = o' := by simpa using e
  obtain ⟨g, c', e2, -, -, -, -⟩ := ho.cell (j := 0) (by omega)
  refine ⟨g, c', by rw [hc, e2, hn], fun i hi => ?_⟩
  obtain ⟨g', c'', e3, -, -, h3, -⟩ := ho.cell (j := i) (by omega)
  rw [e2] at e3
  simp only [Value.slice.injEq, Option.some.injEq, Addr.mk.injEq] at e3
  obtain ⟨⟨rfl, -, -⟩, -, -⟩ := e3
  exact h3
def ckT (X L M : List Int) (n i : Nat) : Prop := (1 ≤ X.getD i 0 ∧ X.getD i 0 ≤ 2 * (n : Int)) ∧ (0 < i → X.getD (i - 1) 0 < X.getD i 0) ∧ L.getD i 0 < M.getD i 0 ∧ ∀ k, k < n → L.getD i 0 ≠ M.getD k 0
theorem tab_ck {L M : List Int} : tabB [L, M] = true ↔ (L.length = M.length ∧ L.length ≤ 8) ∧ ∀ q, q < 2 → ∀ i, i < L.length → ckT (([L, M] : List (List Int)).getD q []) L M L.length i := by
  show tab2 L M = true ↔ _
  rw [tab2_iff]
  refine and_congr Iff.rfl ⟨fun h q hq i hi => ?_, fun h i hi => ?_⟩
  · obtain ⟨⟨a1, a2, a3, a4, a5, a6, a7⟩, a8⟩ := okT_iff.1 (h i hi)
    match q, hq with
    | 0, _ => exact ⟨⟨a1, a2⟩, a5, a7, a8⟩
    | 1, _ => exact ⟨⟨a3, a4⟩, a6, a7, a8⟩
  · obtain ⟨⟨a1, a2⟩, a5, a7, a8⟩ := h 0 (by omega) i hi
    obtain ⟨⟨a3, a4⟩, a6, -, -⟩ := h 1 (by omega) i hi
    exact okT_iff.2 ⟨⟨a1, a2, a3, a4, a5, a6, a7⟩, a8⟩

set_option maxRecDepth 100000 in
set_option maxHeartbeats 3200000 in
theorem isTableau (v : Value) (ls : List (List Int)) (lo hi : Nat) (w : World) (hv : OwnT w lo hi v ls) (hh : hi ≤ w.heap.size) (hl : ls.length ≤ 1048576) (hr : ∀ j, (ls.getD j []).length ≤ 1048576) :
    Calls Try.prog 9 #[v] w fun e w' => e = .returned (.bool (tabB ls)) ∧ ∃ q, w' = w.drewN q := by
  obtain ⟨A1, c1, rfl, k1⟩ := id hv
  clear k1
  by_cases h2 : ls.length = 2
  · obtain ⟨L, M, rfl⟩ : ∃ L M, ls = [L, M] := by
      match ls, h2 with
      | [L, M], _ => exact ⟨L, M, rfl⟩
    clear h2
    obtain ⟨o, rv, rfl, ho1, ho2, hc, hrow⟩ := hv.cell (j := 0) (by simp)
    obtain ⟨o', rv', e', -, -, hc', hrow'⟩ := hv.cell (j := 1) (by simp)
    obtain rfl : o = o' := by simpa using e'
    rw [show ([L, M] : List (List Int)).getD 0 [] = L from rfl] at hrow
    rw [show ([L, M] : List (List Int)).getD 1 [] = M from rfl] at hrow'
    have hLL := hr 0
    rw [show ([L, M] : List (List Int)).getD 0 [] = L from rfl] at hLL
    have hML := hr 1
    rw [show ([L, M] : List (List Int)).getD 1 [] = M from rfl] at hML
    have HV := Lib.hid hv
    obtain ⟨A2, c2, rfl, -⟩ := id hrow
    obtain ⟨A3, c3, rfl, -⟩ := id hrow'
    clear hv hr hrow hrow' e'
    by_cases hne : L.length = M.length
    · by_cases h8 : 8 < L.length
      · have HT := Lib.hid (show tabB [L, M] = false from by
          rcases h : tabB [L, M] with _ | _
          · rfl
          · exact absurd (tab_ck.1 h).1.2 (by omega))
        have d1 : ((L.length : Int) != (M.length : Int)) = false := by simp [hne]
        have d8 : decide ((8 : Int) < (L.length : Int)) = true := decide_eq_true (by omega)
        clear hne
        go_enter Try.func9, Try.ntmps9
        go_wp2
        go_quiet (fail)
        go_wp2
        go_ret
        exact ⟨ret_bool HT.out.symm, _, by first | rfl | exact World.drewN_drewN _ _ _⟩
      · obtain ⟨n, hn⟩ : ∃ n, L.length = n := ⟨_, by first | rfl | exact World.drewN_drewN _ _ _⟩
        have hm : M.length = n := by omega
        have hn8 : n ≤ 8 := by omega
        have HNL := Lib.hid hn
        have HNM := Lib.hid hm
        rw [hn] at hc
        rw [hm] at hc'
        obtain ⟨n2, hn2⟩ : ∃ n2 : Int, n2 = 2 * (n : Int) := ⟨_, by first | rfl | exact World.drewN_drewN _ _ _⟩
        have hmul : (2 : Int) * (n : Int) = n2 := hn2.symm
        have HN2 := Lib.hid hn2
        have d1 : ((n : Int) != (n : Int)) = false := by simp
        have d8 : decide ((8 : Int) < (n : Int)) = false := decide_eq_false (by omega)
        clear hne h8 hn hm hLL hML hn2
        go_enter Try.func9, Try.ntmps9
        go_wp2
        go_quiet (fail)
        go_wp2
        go_loopw [4] (fun x wr => ∃ r d : Nat, r ≤ 2 ∧ x = .int .i64 r ∧ wr = w.drewN d ∧ ∀ q, q < r → ∀ i, i < n → ckT (([L, M] : List (List Int)).getD q []) L M n i) (fun x _ => 2 - (intOf x).toNat)
        case atStart => exact ⟨0, _, Nat.zero_le _, rfl, by first | rfl | exact World.drewN_drewN _ _ _, fun q hq => absurd hq (Nat.not_lt_zero _)⟩
        case round =>
          obtain ⟨r, d, hr1, rfl, rfl, hall⟩ := hrel
          have HALL := Lib.hid hall
          clear hall
          by_cases hr2 : r < 2
          · have hri : (r : Int) < 2 := by omega
            obtain ⟨X, hX⟩ : ∃ X, ([L, M] : List (List Int)).getD r [] = X := ⟨_, by first | rfl | exact World.drewN_drewN _ _ _⟩
            have hXn : X.length = n := by
              rw [← hX]
              match r, hr2 with
              | 0, _ => exact HNL.out
              | 1, _ => exact HNM.out
            have HX := Lib.hid hX
            have HXN := Lib.hid hXn
            clear hX hXn
            go_wp2
            go_loopw [5] (fun x wr => ∃ i d : Nat, i ≤ n ∧ x = .int .i64 i ∧ wr = w.drewN d ∧ ∀ j, j < i → ckT X L M n j) (fun x _ => n - (intOf x).toNat)
            case atStart => exact ⟨0, _, Nat.zero_le _, rfl, by first | rfl | exact World.drewN_drewN _ _ _, fun q hq => absurd hq (Nat.not_lt_zero _)⟩
            case round =>
              obtain ⟨i, d, hi1, rfl, rfl, hin⟩ := hrel
              have HINO := Lib.hid hin
              clear hin
              by_cases hin2 : i < n
              · have hii : (i : Int) < (n : Int) := by omega
                obtain ⟨gX, cX, hcX, hxs⟩ := rowT_at HV.out (r := r) (n := n) (by simpa using hr2) (by rw [HX.out]; exact HXN.out) (by omega)
                rw [HX.out] at hxs
                obtain ⟨gL, cL, hcL, hls⟩ := rowT_at HV.out (r := 0) (n := n) (by simp) HNL.out (by omega)
                obtain ⟨gM, cM, hcM, hms⟩ := rowT_at HV.out (r := 1) (n := n) (by simp) HNM.out (by omega)
                rw [show ([L, M] : List (List Int)).getD 0 [] = L from rfl] at hls
                rw [show ([L, M] : List (List Int)).getD 1 [] = M from rfl] at hms
                have HMS := Lib.hid hms
                have hx := hxs i hin2
                have hl := hls i hin2
                have hmi := hms i hin2
                have HBAD := Lib.hid (show ¬ ckT X L M n i → tabB [L, M] = false from fun h => by
                  rcases h2 : tabB [L, M] with _ | _
                  · rfl
                  · refine absurd ?_ h
                    have := (tab_ck.1 h2).2 r hr2 i (by rw [HNL.out]; exact hin2)
                    rw [HX.out, HNL.out] at this
                    exact this)
                have HIN := Lib.hid (show ckT X L M n i → ∀ j, j < i + 1 → ckT X L M n j from fun h j hj => by
                  by_cases e : j < i
                  · exact HINO.out j e
                  · obtain rfl : j = i := by omega
                    exact h)
                have HCK := Lib.hid (show ckT X L M n i ↔ ((1 ≤ X.getD i 0 ∧ X.getD i 0 ≤ n2) ∧ (0 < i → X.getD (i - 1) 0 < X.getD i 0) ∧ L.getD i 0 < M.getD i 0 ∧ ∀ k, k < n → L.getD i 0 ≠ M.getD k 0) by rw [HN2.out]; exact Iff.rfl)
                have HXS := Lib.hid hxs
                clear hc hc' hxs hls hms
                generalize L.getD i 0 = l at *
                generalize M.getD i 0 = m at *
                by_cases e1 : 1 ≤ X.getD i 0 ∧ X.getD i 0 ≤ n2
                · rcases Nat.eq_zero_or_pos i with h0 | h0
                  · subst h0
                    have HNO := Lib.hid HCK.out.1
                    have HCKP := Lib.hid (fun a b => HCK.out.2 ⟨e1, fun h => absurd h (Nat.lt_irrefl _), a, b⟩)
                    have HI := Lib.hid (fun W => l1In_yes (X.getD 0 0) 1 n2 W e1.1 e1.2)
                    clear e1
                    generalize X.getD 0 0 = x at *
                    by_cases e3 : l < m
                    · have f3 : decide (m ≤ l) = false := decide_eq_false (by omega)
                      have HPASS := Lib.hid (HCKP.out e3)
                      go_wp2
                      go_quiet ((with_reducible exact still_addT (HI.out _)))
                      go_wp2
                      go_loopw [6] (fun x wr => ∃ k d2 : Nat, k ≤ n ∧ x = .int .i64 k ∧ wr = w.drewN d2 ∧ ∀ q, q < k → l ≠ M.getD q 0) (fun x _ => n - (intOf x).toNat)
                      case atStart => exact ⟨0, _, Nat.zero_le _, rfl, by first | rfl | exact World.drewN_drewN _ _ _, fun q hq => absurd hq (Nat.not_lt_zero _)⟩
                      case round =>
                        obtain ⟨k, d2, hk1, rfl, rfl, hq⟩ := hrel
                        have HQ := Lib.hid hq
                        clear hq
                        by_cases hkn : k < n
                        · have hki : (k : Int) < (n : Int) := by omega
                          have hmk := HMS.out k hkn
                          have HQ2 := Lib.hid (show l ≠ M.getD k 0 → ∀ q, q < k + 1 → l ≠ M.getD q 0 from fun h q hq => by
                            by_cases e : q < k
                            · exact HQ.out q e
                            · obtain rfl : q = k := by omega
                              exact h)
                          have HBK := Lib.hid (show l = M.getD k 0 → tabB [L, M] = false from fun h => HBAD.out fun h2 => (HNO.out h2).2.2.2 k hkn h)
                          generalize M.getD k 0 = z at *
                          by_cases e : l = z
                          · have he : (l == z) = true := by simp [e]
                            have HT := Lib.hid (HBK.out e)
                            clear e HQ2 HBK
                            go_wp2
                            go_quiet (fail)
                            go_wp2
                            go_ret
                            exact ⟨ret_bool HT.out.symm, _, by first | rfl | exact World.drewN_drewN _ _ _⟩
                          · have he : (l == z) = false := by simp [e]
                            have HQ3 := Lib.hid (HQ2.out e)
                            clear e HQ2 HBK
                            go_wp2
                            go_quiet (fail)
                            go_wp2
                            exact ⟨⟨k + 1, _, by omega, by simp, by first | rfl | exact World.drewN_drewN _ _ _, HQ3.out⟩, by simp [intOf]; omega⟩
                        · obtain rfl : k = n := by omega
                          have hki : ¬ (k : Int) < (k : Int) := by omega
                          have HI2 := Lib.hid (HIN.out (HPASS.out HQ.out))
                          go_wp2
                          exact ⟨⟨0 + 1, _, by omega, by simp, by first | rfl | exact World.drewN_drewN _ _ _, HI2.out⟩, by simp [intOf]; omega⟩

                    · have f3 : decide (m ≤ l) = true := decide_eq_true (by omega)
                      have HT := Lib.hid (HBAD.out fun h => e3 (HNO.out h).2.2.1)
                      go_wp2
                      go_quiet ((with_reducible exact still_addT (HI.out _)))
                      go_wp2
                      go_ret
                      exact ⟨ret_bool HT.out.symm, _, by first | rfl | exact World.drewN_drewN _ _ _⟩
                  · obtain ⟨p, rfl⟩ : ∃ p, i = p + 1 := ⟨i - 1, by omega⟩
                    have hpp : ((p + 1 : Nat) : Int) - 1 = (p : Int) := by omega
                    have hpn : (p : Int) < (n : Int) := by omega
                    have hp0 : (0 : Int) < ((p + 1 : Nat) : Int) := by omega
                    have hy := HXS.out p (by omega)
                    have HNO := Lib.hid HCK.out.1
                    have HCKP := Lib.hid (fun c a b => HCK.out.2 ⟨e1, fun _ => c, a, b⟩)
                    rw [Nat.add_sub_cancel] at HNO HCKP
                    have HI := Lib.hid (fun W => l1In_yes (X.getD (p + 1) 0) 1 n2 W e1.1 e1.2)
                    clear e1 h0
                    generalize X.getD (p + 1) 0 = x at *
                    generalize X.getD p 0 = y at *
                    by_cases e2 : y < x
                    · have f2 : decide (x ≤ y) = false := decide_eq_false (by omega)
                      by_cases e3 : l < m
                      · have f3 : decide (m ≤ l) = false := decide_eq_false (by omega)
                        have HPASS := Lib.hid (HCKP.out e2 e3)
                        go_wp2
                        go_quiet ((with_reducible exact still_addT (HI.out _)))
                        go_wp2
                        go_loopw [6] (fun x wr => ∃ k d2 : Nat, k ≤ n ∧ x = .int .i64 k ∧ wr = w.drewN d2 ∧ ∀ q, q < k → l ≠ M.getD q 0) (fun x _ => n - (intOf x).toNat)
                        case atStart => exact ⟨0, _, Nat.zero_le _, rfl, by first | rfl | exact World.drewN_drewN _ _ _, fun q hq => absurd hq (Nat.not_lt_zero _)⟩
                        case round =>
                          obtain ⟨k, d2, hk1, rfl, rfl, hq⟩ := hrel
                          have HQ := Lib.hid hq
                          clear hq
                          by_cases hkn : k < n
                          · have hki : (k : Int) < (n : Int) := by omega
                            have hmk := HMS.out k hkn
                            have HQ2 := Lib.hid (show l ≠ M.getD k 0 → ∀ q, q < k + 1 → l ≠ M.getD q 0 from fun h q hq => by
                              by_cases e : q < k
                              · exact HQ.out q e
                              · obtain rfl : q = k := by omega
                                exact h)
                            have HBK := Lib.hid (show l = M.getD k 0 → tabB [L, M] = false from fun h => HBAD.out fun h2 => (HNO.out h2).2.2.2 k hkn h)
                            generalize M.getD k 0 = z at *
                            by_cases e : l = z
                            · have he : (l == z) = true := by simp [e]
                              have HT := Lib.hid (HBK.out e)
                              clear e HQ2 HBK
                              go_wp2
                              go_quiet (fail)
                              go_wp2
                              go_ret
                              exact ⟨ret_bool HT.out.symm, _, by first | rfl | exact World.drewN_drewN _ _ _⟩
                            · have he : (l == z) = false := by simp [e]
                              have HQ3 := Lib.hid (HQ2.out e)
                              clear e HQ2 HBK
                              go_wp2
                              go_quiet (fail)
                              go_wp2
                              exact ⟨⟨k + 1, _, by omega, by simp, by first | rfl | exact World.drewN_drewN _ _ _, HQ3.out⟩, by simp [intOf]; omega⟩
                          · obtain rfl : k = n := by omega
                            have hki : ¬ (k : Int) < (k : Int) := by omega
                            have HI2 := Lib.hid (HIN.out (HPASS.out HQ.out))
                            go_wp2
                            exact ⟨⟨p + 1 + 1, _, by omega, by simp, by first | rfl | exact World.drewN_drewN _ _ _, HI2.out⟩, by simp [intOf]; omega⟩

                      · have f3 : decide (m ≤ l) = true := decide_eq_true (by omega)
                        have HT := Lib.hid (HBAD.out fun h => e3 (HNO.out h).2.2.1)
                        go_wp2
                        go_quiet ((with_reducible exact still_addT (HI.out _)))
                        go_wp2
                        go_ret
                        exact ⟨ret_bool HT.out.symm, _, by first | rfl | exact World.drewN_drewN _ _ _⟩
                    · have f2 : decide (x ≤ y) = true := decide_eq_true (by omega)
                      have HT := Lib.hid (HBAD.out fun h => e2 ((HNO.out h).2.1 (by omega)))
                      go_wp2
                      go_quiet ((with_reducible exact still_addT (HI.out _)))
                      go_wp2
                      go_ret
                      exact ⟨ret_bool HT.out.symm, _, by first | rfl | exact World.drewN_drewN _ _ _⟩
                · have HI := Lib.hid (fun W => l1In_notT (X.getD i 0) 1 n2 W e1)
                  have HT := Lib.hid (HBAD.out fun h => e1 (HCK.out.1 h).1)
                  clear e1
                  generalize X.getD i 0 = x at *
                  go_wp2
                  go_quiet ((with_reducible exact still_addT (HI.out _)))
                  go_wp2
                  go_ret
                  exact ⟨ret_bool HT.out.symm, _, by first | rfl | exact World.drewN_drewN _ _ _⟩
              · obtain rfl : i = n := by omega
                have hii : ¬ (i : Int) < (i : Int) := by omega
                have HA2 := Lib.hid (show ∀ q, q < r + 1 → ∀ j, j < i → ckT (([L, M] : List (List Int)).getD q []) L M i j from fun q hq => by
                  by_cases e : q < r
                  · exact HALL.out q e
                  · obtain rfl : q = r := by omega
                    rw [HX.out]; exact HINO.out)
                go_wp2
                exact ⟨⟨r + 1, _, by omega, by simp, by first | rfl | exact World.drewN_drewN _ _ _, HA2.out⟩, by simp [intOf]; omega⟩
          · obtain rfl : r = 2 := by omega
            have HT := Lib.hid (show tabB [L, M] = true from tab_ck.2 ⟨⟨by rw [HNL.out, HNM.out], by rw [HNL.out]; exact hn8⟩, by rw [HNL.out]; exact HALL.out⟩)
            go_wp2
            go_ret
            exact ⟨ret_bool HT.out.symm, _, by first | rfl | exact World.drewN_drewN _ _ _⟩
    · have HT := Lib.hid (show tabB [L, M] = false from by
        rcases h : tabB [L, M] with _ | _
        · rfl
        · exact absurd (tab_ck.1 h).1.1 hne)
      have d1 : ((L.length : Int) != (M.length : Int)) = true := by simp; omega
      clear hne
      go_enter Try.func9, Try.ntmps9
      go_wp2
      go_quiet (fail)
      go_wp2
      go_ret
      exact ⟨ret_bool HT.out.symm, _, by first | rfl | exact World.drewN_drewN _ _ _⟩
  · have HT := Lib.hid (show tabB ls = false from by
      match ls, h2 with
      | [], _ => rfl
      | [_], _ => rfl
      | [_, _], h => exact absurd rfl h
      | _ :: _ :: _ :: _, _ => rfl)
    have d2 : ((ls.length : Int) != 2) = true := by simp; omega
    go_enter Try.func9, Try.ntmps9
    go_wp2
    go_quiet (fail)
    go_wp2
    go_ret
    exact ⟨ret_bool HT.out.symm, _, by first | rfl | exact World.drewN_drewN _ _ _⟩

end Go.Proofs.Ytefbbkogfoongaa
