/- ValueAtRoot: plain, the model. -/
import Derived.Test.YtpelicepgeoopaaVr15
import Derived.Test.YtpelicepgeoopaaCyc15I
namespace Go.Proofs.Ytpelicepgeoopaa
open Go.ChangeShapes Go.WideShapes Go.ChangeAt Go.RowKit
set_option linter.unusedVariables false

theorem trN_ne (xs : List Int) : ∀ n, trN xs n = 0 ∨ xs.getD (trN xs n - 1) 0 ≠ 0 := by
  intro n
  induction n with
  | zero => exact .inl rfl
  | succ n ih =>
    rw [trN]
    split
    · exact ih
    · rename_i h; exact .inr h
theorem lst_trL (xs : List Int) : lstB (trL xs) = true := by
  unfold lstB
  refine decide_eq_true ?_
  rw [trL_len]
  rcases trN_ne xs xs.length with h | h
  · exact .inl h
  · by_cases h0 : trN xs xs.length = 0
    · exact .inl h0
    · right
      have e : (trL xs).getD (trN xs xs.length - 1) 0 = xs.getD (trN xs xs.length - 1) 0 := by
        unfold trL
        rw [List.getD_eq_getElem?_getD, List.getElem?_take_of_lt (by omega), ← List.getD_eq_getElem?_getD]
      rw [e]; exact h
theorem vr_ok {a : List Int} {d : Nat} (ha : facB a = true) (hd : d < 17) (hd1 : 1 ≤ d) : dvOk a (cyP d) = true := by
  refine decide_eq_true ⟨ha, cy_dis d hd hd1, fun i hi => div_bd ha hd hd1 (by omega) _, ?_⟩
  obtain ⟨a1, a2, a3⟩ := fac_parts ha
  have hle := trL_le (reL a (cyP d))
  rw [reL_len] at hle
  unfold plyB
  rw [decide_eq_true (by omega), Bool.true_and, Bool.and_eq_true]
  constructor
  · rw [inB_iff]
    intro i hi
    have hi2 : i < trN (reL a (cyP d)) (reL a (cyP d)).length := by rw [← trL_len]; exact hi
    have hi3 := trN_le (reL a (cyP d)) (reL a (cyP d)).length
    have hi4 : i < a.length := by rw [reL_len] at hi3 hi2; omega
    have e : (trL (reL a (cyP d))).getD i 0 = (reL a (cyP d)).getD i 0 := by
      unfold trL
      simp [List.getD, hi2]
    rw [e, reL_at a (cyP d) hi4]
    exact div_bd ha hd hd1 (Nat.le_refl _) i
  · exact lst_trL _
def vrOk (p : List Int) (d : Int) : Bool := facB p && cyOk d && decide ((dvY p (cyR d)).length ≤ 1)
def vrP (p : List Int) (d : Int) : Int := if vrOk p d = true then (dvY p (cyR d)).getD 0 0 else 0
theorem ret_nb {a b : Int} {x y : Bool} (h : a = b) (h' : x = y) : Ending.returned (.tuple #[.int .i64 a, .bool x]) = .returned (.tuple #[.int .i64 b, .bool y]) := by rw [h, h']

set_option maxRecDepth 100000 in
set_option maxHeartbeats 1600000 in
theorem l14DivideNil (A A' : Option Addr) (ys : List Int) (n cap cap' : Nat) (w : World) (h0 : n = 0) (hy1 : 1 ≤ ys.length) (hy13 : ys.length ≤ 13) :
    Calls Try.prog 25 #[.slice A n cap, .slice A' ys.length cap'] w fun e w' => ∃ v u, e = .returned (.tuple #[v, u]) ∧ OwnI w' w.heap.size w'.heap.size v [] ∧ OwnI w' w.heap.size w'.heap.size u [] ∧ Below w.heap.size w w' := by
  have HL0 := Lib.hid h0
  have hni : (n : Int) = 0 := by omega
  have hmax : max (0 : Int) (0 - (ys.length : Int) + 1) = 0 := by omega
  have hmax2 : (if (0 : Int) < 0 - (ys.length : Int) + 1 then 0 - (ys.length : Int) + 1 else 0) = 0 := by split <;> omega
  have hmax3 : (if 0 - (ys.length : Int) + 1 < (0 : Int) then (0 : Int) else 0 - (ys.length : Int) + 1) = 0 := by split <;> omega
  obtain ⟨i0, hi0, hz0, hz1, hzb⟩ := info_parts info3
  clear h0
  go_enter Try.func25, Try.ntmps25
  go_wp2_with (first
    | (at_builtin; go_must (refine wpAppN rfl _ _ rfl A n cap HL0.out rfl rfl ?_); intro g2 c2 w3 hg2e hc2e hw3; have HE2 := Lib.hid hg2e; have HE3 := Lib.hid hc2e; have HE4 := Lib.hid hw3; clear hg2e hc2e hw3)
    | (at_make; go_must (refine wpList_make_full _ rfl _ _ 22 rfl w3.heap.size 3 i0 (.int .i64 0) 1 Try.underlying22 hi0 hz0 hz1 .i64 .i64 (0 : Int) (0 : Int) 0 rfl rfl rfl rfl (by rw [hzb]; omega) (by unfold maxLen; omega) (Nat.le_refl _) ?_); intro w4 hown4 hgrow4))
  have HZ3 := Lib.hid (show w3.heap.size = w.heap.size + 1 by rw [HE4.out]; simp)
  have hz3 : w.heap.size < w3.heap.size := by have := HZ3.out; omega
  have HB3 : Below w.heap.size w w3 := by rw [HE4.out]; exact (Below.refl _ w).alloc (Nat.le_refl _) _
  have hlt4 : w3.heap.size < w4.heap.size := (hown4.lt _ rfl).2
  have HB4 := Lib.hid (HB3.grown hgrow4 (by omega) (fun k hk => nomatch hk))
  have hg2 : g2 < w4.heap.size := by have := HE2.out; have := HZ3.out; omega
  have HT1 := Lib.hid (show Calls Try.prog 39 #[.slice (some ⟨w3.heap.size, 0, none⟩) 0 0] w4 (AnsI (trL []) w4) from l14Trim w3.heap.size [] 0 w3.heap.size w3.heap.size w4 ⟨_, _, rfl, .inl rfl⟩ (by omega) hlt4 (Nat.le_refl _) (by simp))
  have HT2 := Lib.hid (fun W (h : w4.heap.size ≤ W.heap.size) => show Calls Try.prog 39 #[.slice (some ⟨g2, 0, none⟩) n c2] W (AnsI (trL []) W) by
    have h2 := l14Trim g2 [] c2 g2 g2 W ⟨_, _, rfl, .inl rfl⟩ (by omega) (by omega) (Nat.zero_le _) (by simp)
    rw [HL0.out]; exact h2)
  have hz4 : w.heap.size ≤ w4.heap.size := by omega
  clear hown4 hgrow4 HB3 hni
  refine wp_loop_rounds 1 ?_
  rw [rounds_succ]
  go_wp2_with fail
  (with_reducible refine HT1.out.mono ?_)
  rintro e w5 ⟨v5, rfl, ho5, hb5⟩
  have HO5 := Lib.hid ho5
  have HB5 := Lib.hid (HB4.out.trans (hb5.mono hz4))
  have hz5 := hb5.size
  clear ho5 hb5
  go_wp2_with fail
  (with_reducible refine (HT2.out _ hz5).mono ?_)
  rintro e w6 ⟨v6, rfl, ho6, hb6⟩
  have HO56 := Lib.hid (HO5.out.keep hb6 (Nat.le_refl _))
  have HO6 := Lib.hid ho6
  have HB6 := Lib.hid (HB5.out.trans (hb6.mono (by omega)))
  have hz6 := hb6.size
  clear ho6 hb6
  go_wp2
  go_ret2
  exact ⟨_, _, rfl, HO56.out.wide hz4 hz6, HO6.out.wide (by omega) (Nat.le_refl _), HB6.out⟩

set_option maxRecDepth 100000 in
set_option maxHeartbeats 3200000 in
theorem valueAtRoot (A : Option Addr) (xs : List Int) (d : Int) (cap lo hi : Nat) (w : World) (hv : OwnI w lo hi (.slice A xs.length cap) xs) (hhi : hi ≤ w.heap.size) (hl : xs.length ≤ 1048576) :
    Calls Try.prog 19 #[.slice A xs.length cap, .int .i64 d] w fun e w' => e = .returned (.tuple #[.int .i64 (vrP xs d), .bool (vrOk xs d)]) ∧ Below w.heap.size w w' := by
  have HS := Lib.hid (l14Small A xs cap lo hi w hv (by omega))
  rcases hf : facB xs with _ | _
  · have HO := Lib.hid (show vrOk xs d = false by unfold vrOk; rw [hf]; rfl)
    have HP := Lib.hid (show vrP xs d = 0 from if_neg (by simp [HO.out]))
    rw [hf] at HS
    clear hf hv
    go_enter Try.func19, Try.ntmps19
    go_wp2_with fail
    (with_reducible refine HS.out.mono ?_)
    rintro e w' ⟨rfl, rfl⟩
    go_wp2
    go_ret2
    exact ⟨ret_nb HP.out.symm HO.out.symm, Below.refl _ _⟩
  · rw [hf] at HS
    by_cases hd : 1 ≤ d ∧ d ≤ 16
    · have hc : cyOk d = true := decide_eq_true hd
      have HI := Lib.hid (fun W => l1In_yes d 1 16 W hd.1 hd.2)
      obtain ⟨n, rfl⟩ : ∃ n : Nat, d = (n : Int) := ⟨d.toNat, by omega⟩
      have hR : cyR (n : Int) = cyP n := by unfold cyR; rw [if_pos hc, Int.toNat_natCast]
      have HO := Lib.hid (show vrOk xs n = decide ((dvY xs (cyP n)).length ≤ 1) by unfold vrOk; rw [hf, hc, hR]; rfl)
      have HP := Lib.hid (show vrP xs n = if vrOk xs n = true then (dvY xs (cyP n)).getD 0 0 else 0 by unfold vrP; rw [hR])
      have HC := Lib.hid (fun W => cycF n n (Nat.le_refl _) (by omega) (by omega) W)
      have hok := vr_ok hf (show n < 17 by omega) (by omega)
      obtain ⟨⟨l1, l2⟩, -⟩ := dis_parts (cy_dis n (by omega) (by omega))
      have HV := Lib.hid hv
      -- what is left
      have HD := Lib.hid (show ∀ A4 c4 lo4 hi4 W, OwnI W lo hi (.slice A xs.length cap) xs → hi ≤ W.heap.size → OwnI W lo4 hi4 (.slice A4 (cyP n).length c4) (cyP n) → hi4 ≤ W.heap.size → Calls Try.prog 25 #[.slice A xs.length cap, .slice A4 (cyP n).length c4] W fun e w' => ∃ v u, e = .returned (.tuple #[v, u]) ∧ OwnI w' W.heap.size w'.heap.size u (dvY xs (cyP n)) ∧ Below W.heap.size W w' from fun A4 c4 lo4 hi4 W o1 h1 o2 h2 => by
        by_cases h0 : 0 < xs.length
        · exact (l14Divide A A4 xs (cyP n) cap c4 lo hi lo4 hi4 W o1 o2 h1 h2 hok h0).mono fun e w' ⟨v, u, he, _, hu, hb⟩ => ⟨v, u, he, hu, hb⟩
        · have hn : xs = [] := List.eq_nil_of_length_eq_zero (by omega)
          have hY : dvY xs (cyP n) = [] := by unfold dvY; rw [if_pos hok, hn]; rfl
          rw [hY]
          exact (l14DivideNil A A4 (cyP n) xs.length cap c4 W (by omega) l1 l2).mono fun e w' ⟨v, u, he, _, hu, hb⟩ => ⟨v, u, he, hu, hb⟩)
      have HHI := Lib.hid hhi
      clear hf hv hd hc hR hok l1 l2
      generalize dvY xs (cyP n) = Y at *
      go_enter Try.func19, Try.ntmps19
      go_wp2_with fail
      (with_reducible refine HS.out.mono ?_)
      rintro e w' ⟨rfl, rfl⟩
      go_wp2_with fail
      (with_reducible refine (HI.out _).mono ?_)
      rintro e w' ⟨rfl, rfl⟩
      go_wp2_with fail
      (with_reducible refine (HC.out _).mono ?_)
      rintro e w2 ⟨v2, rfl, ho2, hb2⟩
      obtain ⟨A4, c4, e4, -⟩ := id ho2
      subst e4
      have HDD := Lib.hid (HD.out A4 c4 _ _ w2 (HV.out.keep hb2 HHI.out) (Nat.le_trans HHI.out hb2.size) ho2 (Nat.le_refl _))
      have HB2 := Lib.hid hb2
      clear ho2 hb2
      go_wp2_with fail
      (with_reducible refine HDD.out.mono ?_)
      rintro e w3 ⟨v3, u3, rfl, ho3, hb3⟩
      have HB3 := Lib.hid (HB2.out.trans (hb3.mono HB2.out.size))
      obtain ⟨A5, c5, e5, -⟩ := id ho3
      subst e5
      by_cases h0 : Y.length = 0
      · have hY : Y = [] := List.eq_nil_of_length_eq_zero h0
        subst hY
        have HOO := Lib.hid (show vrOk xs n = true by rw [HO.out]; rfl)
        have HPP := Lib.hid (show vrP xs n = 0 by rw [HP.out, HOO.out]; rfl)
        clear ho3 hb3 h0
        go_wp2
        go_ret2
        exact ⟨ret_nb HPP.out.symm HOO.out.symm, HB3.out⟩
      · have hn0 : ((Y.length : Int) == 0) = false := beq_eq_false_iff_ne.2 (by omega)
        by_cases h1 : Y.length = 1
        · obtain ⟨g5, c6, e6, -, -, hc5, -⟩ := ho3.cell (j := 0) (by omega)
          simp only [Value.slice.injEq] at e6
          obtain ⟨rfl, -, rfl⟩ := e6
          have HOO := Lib.hid (show vrOk xs n = true by rw [HO.out]; exact decide_eq_true (by omega))
          have HPP := Lib.hid (show vrP xs n = Y.getD 0 0 by rw [HP.out, HOO.out]; rfl)
          have hn1 : ((Y.length : Int) == 1) = true := by rw [h1]; rfl
          have hpos : (0 : Int) < (Y.length : Int) := by omega
          have HL1 := Lib.hid h1
          generalize Y.getD 0 0 = z at *
          clear ho3 hb3 h0 h1
          go_wp2
          go_ret2
          exact ⟨ret_nb HPP.out.symm HOO.out.symm, HB3.out⟩
        · have hn1 : ((Y.length : Int) == 1) = false := beq_eq_false_iff_ne.2 (by omega)
          have HOO := Lib.hid (show vrOk xs n = false by rw [HO.out]; exact decide_eq_false (by omega))
          have HPP := Lib.hid (show vrP xs n = 0 by rw [HP.out, HOO.out]; rfl)
          clear ho3 hb3 h0 h1
          go_wp2
          go_ret2
          exact ⟨ret_nb HPP.out.symm HOO.out.symm, HB3.out⟩
    · have hc : cyOk d = false := decide_eq_false hd
      have HO := Lib.hid (show vrOk xs d = false by unfold vrOk; rw [hc, Bool.and_false]; rfl)
      have HP := Lib.hid (show vrP xs d = 0 from if_neg (by simp [HO.out]))
      have HI := Lib.hid (fun W => l1In_not d 1 16 W hd)
      clear hf hv hd hc
      go_enter Try.func19, Try.ntmps19
      go_wp2_with fail
      (with_reducible refine HS.out.mono ?_)
      rintro e w' ⟨rfl, rfl⟩
      go_wp2_with fail
      (with_reducible refine (HI.out _).mono ?_)
      rintro e w' ⟨rfl, rfl⟩
      go_wp2
      go_ret2
      exact ⟨ret_nb HP.out.symm HO.out.symm, Below.refl _ _⟩

end Go.Proofs.Ytpelicepgeoopaa
