/- SatisfiesCatalan, both functions; slices.Equal of series. -/
import Derived.Test.YtbikipacfmaiaaaSer30B
namespace Go.Proofs.Ytbikipacfmaiaaa
open Go.ChangeShapes Go.WideShapes Go.ChangeAt Go.RowKit
set_option linter.unusedVariables false

def eqA (xs ys : List Int) (m : Nat) : Bool := (List.range m).all fun i => decide (xs.getD i 0 = ys.getD i 0)
theorem eqA_yes {xs ys : List Int} {m : Nat} (h : ∀ i, i < m → xs.getD i 0 = ys.getD i 0) : eqA xs ys m = true := by
  unfold eqA; rw [List.all_eq_true]; intro i hi; exact decide_eq_true (h i (List.mem_range.1 hi))
theorem eqA_no {xs ys : List Int} {m i : Nat} (hi : i < m) (h : xs.getD i 0 ≠ ys.getD i 0) : eqA xs ys m = false := by
  rcases hb : eqA xs ys m with _ | _
  · rfl
  · unfold eqA at hb
    rw [List.all_eq_true] at hb
    exact absurd (of_decide_eq_true (hb i (List.mem_range.2 hi))) h
theorem eqA_congr {xs ys zs : List Int} {m : Nat} (h : ∀ i, i < m → ys.getD i 0 = zs.getD i 0) : eqA xs ys m = eqA xs zs m := by
  unfold eqA
  rw [Bool.eq_iff_iff, List.all_eq_true, List.all_eq_true]
  constructor
  · intro h1 i hi; rw [← h i (List.mem_range.1 hi)]; exact h1 i hi
  · intro h1 i hi; rw [h i (List.mem_range.1 hi)]; exact h1 i hi
def scE (a : List Int) : Bool := eqA (a.drop 1) (tmL a a a.length) (a.length - 1)
def scB (a : List Int) : Bool := finB a && (decide (a.getD 0 0 = 1) && scE a)
theorem drop_at (a : List Int) (i : Nat) : (a.drop 1).getD i 0 = a.getD (i + 1) 0 := by simp [List.getD]

set_option maxRecDepth 100000 in
set_option maxHeartbeats 1600000 in
theorem equalS (A A' : Option Addr) (m cap cap' : Nat) (xs ys : List Int) (w : World) (hx : SubI w A cap xs) (hy : SubI w A' cap' ys) (lx : xs.length = m) (ly : ys.length = m) (hm : m ≤ 1000) :
    Calls Try.prog 42 #[.slice A m cap, .slice A' m cap'] w fun e w' => e = .returned (.bool (eqA xs ys m)) ∧ ∃ q, w' = w.drewN q := by
  have HX := Lib.hid hx
  have HY := Lib.hid hy
  have LX := Lib.hid lx
  have LY := Lib.hid ly
  have hne : ((m : Int) != (m : Int)) = false := by simp
  have HW0 := Lib.hid (show w = w.drewN 0 from rfl)
  clear hx hy lx ly
  go_enter Try.func42, Try.ntmps42
  go_wp2
  go_loopw [13] (fun y wr => ∃ i q : Nat, i ≤ m ∧ y = .int .i64 i ∧ wr = w.drewN q ∧ ∀ j, j < i → xs.getD j 0 = ys.getD j 0) (fun y _ => m - (intOf y).toNat)
  case atStart => exact ⟨0, 0, Nat.zero_le _, rfl, HW0.out, fun j h => absurd h (Nat.not_lt_zero _)⟩
  case round =>
    obtain ⟨i, q, hi, rfl, rfl, hle⟩ := hrel
    have HLE := Lib.hid hle
    clear hle
    by_cases hlt : i < m
    · have hii : (i : Int) < (m : Int) := by omega
      obtain ⟨g1, o1, rfl, c1⟩ := HX.out.2 i (by rw [LX.out]; exact hlt)
      obtain ⟨g2, o2, rfl, c2⟩ := HY.out.2 i (by rw [LY.out]; exact hlt)
      by_cases e : xs.getD i 0 = ys.getD i 0
      · have HST := Lib.hid (show ∀ j, j < i + 1 → xs.getD j 0 = ys.getD j 0 from fun j hj => by
          by_cases ej : j = i
          · subst ej; exact e
          · exact HLE.out j (by omega))
        rw [← e] at c2
        have hxx : (xs.getD i 0 != xs.getD i 0) = false := by simp
        clear e
        generalize xs.getD i 0 = x at *
        go_wp2
        go_quiet (fail)
        go_wp2
        exact ⟨⟨i + 1, q + nq, by omega, by simp, by first | rfl | rw [World.drewN_drewN], HST.out⟩, by simp [intOf]; omega⟩
      · have HF := Lib.hid (eqA_no hlt e)
        have hxx : (xs.getD i 0 != ys.getD i 0) = true := by simpa using e
        have hxe : (xs.getD i 0 == ys.getD i 0) = false := beq_eq_false_iff_ne.2 e
        clear e
        generalize xs.getD i 0 = x at *
        generalize ys.getD i 0 = z at *
        go_wp2
        go_quiet (fail)
        go_wp2
        go_ret
        exact ⟨ret_bool HF.out.symm, q + nq, by first | rfl | rw [World.drewN_drewN]⟩
    · obtain rfl : i = m := by omega
      have HT := Lib.hid (eqA_yes HLE.out)
      go_wp2
      go_ret
      exact ⟨ret_bool HT.out.symm, q, rfl⟩

set_option maxRecDepth 100000 in
set_option maxHeartbeats 1600000 in
theorem satisfiesCatalan (A : Option Addr) (xs : List Int) (cap lo hi : Nat) (w : World) (hv : OwnI w lo hi (.slice A xs.length cap) xs) (hhi : hi ≤ w.heap.size) (hl : xs.length ≤ 1099511627776) :
    Calls Try.prog 26 #[.slice A xs.length cap] w fun e w' => e = .returned (.bool (scB xs)) ∧ Below w.heap.size w w' := by
  have HM := Lib.hid (l30Fine A xs cap lo hi w hv hl)
  have HV := Lib.hid hv
  rcases hx : finB xs with _ | _
  · have HP := Lib.hid (show scB xs = false by unfold scB; rw [hx]; rfl)
    rw [hx] at HM
    clear hx hv
    go_enter Try.func26, Try.ntmps26
    go_wp2_with fail
    (with_reducible refine HM.out.mono ?_)
    rintro e w' ⟨rfl, rfl⟩
    go_wp2
    go_ret
    exact ⟨ret_bool HP.out.symm, Below.refl _ _⟩
  · obtain ⟨p1, p2, p3⟩ := fin_parts hx
    have HPP := Lib.hid (show scB xs = (decide (xs.getD 0 0 = 1) && scE xs) by unfold scB; rw [hx]; rfl)
    have HMB := Lib.hid (fun i j => mul_bd p1 p1 (by omega) (by omega) i j)
    have HT := Lib.hid (l30Times A A xs xs xs.length cap cap lo hi lo hi w (1000000 * 1000000) hv hv rfl rfl hhi hhi p3 HMB.out (by omega))
    obtain ⟨n, hn⟩ : ∃ n, Hid (n = xs.length) := ⟨_, Lib.hid rfl⟩
    rw [← hn.out] at HT p2 p3
    rw [← hn.out] at HM ⊢
    rw [hx] at HM
    obtain ⟨g1, p1', e1, -, -, hc0, -⟩ := hv.cell (j := 0) (by rw [← hn.out]; omega)
    rw [← hn.out] at e1
    simp only [Value.slice.injEq] at e1
    obtain ⟨rfl, -, rfl⟩ := e1
    have hn0 : (0 : Int) < (n : Int) := by omega
    by_cases h1 : xs.getD 0 0 = 1
    · have HPQ := Lib.hid (show scB xs = scE xs by rw [HPP.out, decide_eq_true h1]; rfl)
      rw [h1] at hc0
      clear hx hv HMB h1 p1 HPP
      go_enter Try.func26, Try.ntmps26
      go_wp2_with fail
      (with_reducible refine HM.out.mono ?_)
      rintro e w' ⟨rfl, rfl⟩
      go_wp2_with fail
      (with_reducible refine HT.out.mono ?_)
      rintro e w4 ⟨v4, rfl, ho, hb⟩
      have HO := Lib.hid ho
      have HB := Lib.hid hb
      obtain ⟨g2, p2', rfl, -, -, -, -⟩ := ho.cell (j := 0) (by rw [tmL_len]; omega)
      clear ho hb
      rw [tmL_len] at HO ⊢
      go_wp2
      go_loopw [4] (fun y wr => ∃ i q : Nat, i + 1 ≤ n ∧ y = .int .i64 ((i : Int) + 1) ∧ wr = w4.drewN q ∧ ∀ j, j < i → (xs.drop 1).getD j 0 = (tmL xs xs xs.length).getD j 0) (fun y _ => n - (intOf y).toNat)
      case atStart => exact ⟨0, 0, by omega, rfl, rfl, fun j h => absurd h (Nat.not_lt_zero _)⟩
      case round =>
        obtain ⟨i, q, hi, rfl, rfl, hle⟩ := hrel
        have HLE := Lib.hid hle
        clear hle
        by_cases hlt : i + 1 < n
        · have hii : (i : Int) + 1 < (n : Int) := by omega
          have hin : (i : Int) < (n : Int) := by omega
          obtain ⟨g3, p3', e3, -, -, hc3, -⟩ := (HV.out.keep HB.out hhi).cell (j := i + 1) (by rw [← hn.out]; exact hlt)
          obtain ⟨g4, p4', e4, -, -, hc4, -⟩ := HO.out.cell (j := i) (by rw [tmL_len]; omega)
          rw [← hn.out] at e3
          rw [tmL_len] at e4
          simp only [Value.slice.injEq, Option.some.injEq, Addr.mk.injEq] at e3 e4
          obtain ⟨⟨rfl, -⟩, -⟩ := e3
          obtain ⟨⟨rfl, -⟩, -⟩ := e4
          have HDA := Lib.hid (drop_at xs i)
          by_cases e : xs.getD (i + 1) 0 = (tmL xs xs n).getD i 0
          · have HST := Lib.hid (show ∀ j, j < i + 1 → (xs.drop 1).getD j 0 = (tmL xs xs xs.length).getD j 0 from fun j hj => by
              by_cases ej : j = i
              · subst ej; rw [HDA.out, e, hn.out]
              · exact HLE.out j (by omega))
            rw [← e] at hc4
            have hxx : (xs.getD (i + 1) 0 != xs.getD (i + 1) 0) = false := by simp
            clear e
            generalize xs.getD (i + 1) 0 = x at *
            go_wp2
            go_quiet (fail)
            go_wp2
            exact ⟨⟨i + 1, q + nq, by omega, by simp, by first | rfl | rw [World.drewN_drewN], HST.out⟩, by simp [intOf]; omega⟩
          · have HF := Lib.hid (show scB xs = false by rw [HPQ.out]; unfold scE; exact eqA_no (i := i) (by rw [← hn.out]; omega) (by rw [HDA.out, ← hn.out]; exact e))
            have hxx : (xs.getD (i + 1) 0 != (tmL xs xs n).getD i 0) = true := by simpa using e
            have hxe : (xs.getD (i + 1) 0 == (tmL xs xs n).getD i 0) = false := beq_eq_false_iff_ne.2 e
            clear e
            generalize xs.getD (i + 1) 0 = x at *
            generalize (tmL xs xs n).getD i 0 = z at *
            go_wp2
            go_quiet (fail)
            go_wp2
            go_ret
            exact ⟨ret_bool HF.out.symm, below_drewN (below_drewN HB.out _) _⟩
        · have HF := Lib.hid (show scB xs = true by rw [HPQ.out]; unfold scE; exact eqA_yes fun j hj => HLE.out j (by rw [← hn.out] at hj; omega))
          have hii : ¬ (i : Int) + 1 < (n : Int) := by omega
          go_wp2
          go_ret
          exact ⟨ret_bool HF.out.symm, below_drewN HB.out _⟩
    · have hne : (xs.getD 0 0 != 1) = true := by simpa using h1
      have hnd : (xs.getD 0 0 == 1) = false := beq_eq_false_iff_ne.2 h1
      have HPQ := Lib.hid (show scB xs = false by rw [HPP.out, decide_eq_false h1]; rfl)
      clear hx hv HMB h1 p1 HPP HT
      generalize xs.getD 0 0 = x at *
      go_enter Try.func26, Try.ntmps26
      go_wp2_with fail
      (with_reducible refine HM.out.mono ?_)
      rintro e w' ⟨rfl, rfl⟩
      go_wp2
      go_ret
      exact ⟨ret_bool HPQ.out.symm, Below.refl _ _⟩

set_option maxRecDepth 100000 in
set_option maxHeartbeats 1600000 in
theorem satisfiesCatalanI (A : Option Addr) (xs : List Int) (cap lo hi : Nat) (w : World) (hv : OwnI w lo hi (.slice A xs.length cap) xs) (hhi : hi ≤ w.heap.size) (hcap : xs.length ≤ cap) (hl : xs.length ≤ 1099511627776) :
    Calls Try.prog 27 #[.slice A xs.length cap] w fun e w' => e = .returned (.bool (scB xs)) ∧ Below w.heap.size w w' := by
  have HM := Lib.hid (isSeriesI A xs cap lo hi w hv hhi hl)
  have HV := Lib.hid hv
  rcases hx : finB xs with _ | _
  · have HP := Lib.hid (show scB xs = false by unfold scB; rw [hx]; rfl)
    rw [hx] at HM
    clear hx hv
    go_enter Try.func27, Try.ntmps27
    go_wp2_with fail
    (with_reducible refine HM.out.mono ?_)
    rintro e w' ⟨rfl, hb⟩
    go_wp2
    go_ret
    exact ⟨ret_bool HP.out.symm, hb⟩
  · obtain ⟨p1, p2, p3⟩ := fin_parts hx
    have HPP := Lib.hid (show scB xs = (decide (xs.getD 0 0 = 1) && scE xs) by unfold scB; rw [hx]; rfl)
    have HMB := Lib.hid (fun i j => mul_bd p1 p1 (by omega) (by omega) i j)
    have HT := Lib.hid (fun W (h : Below w.heap.size w W) => timesI A A xs xs xs.length cap cap lo hi lo hi W (1000000 * 1000000) (hv.keep h hhi) (hv.keep h hhi) rfl rfl (Nat.le_trans hhi h.size) (Nat.le_trans hhi h.size) p3 hcap HMB.out (by omega))
    obtain ⟨n, hn⟩ : ∃ n, Hid (n = xs.length) := ⟨_, Lib.hid rfl⟩
    rw [← hn.out] at HT p2 p3 hcap
    rw [← hn.out] at HM ⊢
    rw [hx] at HM
    obtain ⟨g1, p1', e1, -, -, hc0, -⟩ := hv.cell (j := 0) (by rw [← hn.out]; omega)
    rw [← hn.out] at e1
    simp only [Value.slice.injEq] at e1
    obtain ⟨rfl, -, rfl⟩ := e1
    have hn0 : (0 : Int) < (n : Int) := by omega
    have HC0 := Lib.hid hc0
    have hg1 : g1 < hi := by
      obtain ⟨g2, p2', e2, -, h2, -⟩ := hv.cell (j := 0) (by rw [← hn.out]; omega)
      rw [← hn.out] at e2
      simp only [Value.slice.injEq, Option.some.injEq, Addr.mk.injEq] at e2
      obtain ⟨⟨rfl, -⟩, -⟩ := e2
      exact h2
    by_cases h1 : xs.getD 0 0 = 1
    · have HPQ := Lib.hid (show scB xs = scE xs by rw [HPP.out, decide_eq_true h1]; rfl)
      rw [h1] at HC0
      obtain ⟨m, hm⟩ : ∃ m, n = m + 1 := ⟨n - 1, by omega⟩
      have HSUB := Lib.hid (SubI.from (SubI.own (w := w) (lo := lo) (hi := hi) (xs := xs) (by rw [← hn.out]; exact hn.out ▸ hv) (by rw [← hn.out]; exact hcap)) 1 (by rw [← hn.out]; omega))
      have hsl1 : ∀ W, (Instr.slice 22 (.slice (some ⟨g1, 0, none⟩) n cap) (some (.int .i64 1)) none none).run Try.prog W = .ok (.slice (if cap = 1 then some ⟨g1, 0, none⟩ else (some (⟨g1, 0, none⟩ : Addr)).map (·.add 1)) m (cap - 1)) W := fun W => by
        have h := run_from W (some ⟨g1, 0, none⟩) n cap 1 (by omega)
        rw [show n - 1 = m by omega] at h
        exact h
      have HSC := Lib.hid (show scE xs = eqA (xs.drop 1) ((tmL xs xs n).take m) m by
        unfold scE
        rw [← hn.out, show n - 1 = m by omega]
        exact eqA_congr fun i hi => by simp [List.getD, hi])
      have hmi : (n : Int) - 1 = (m : Int) := by omega
      have hmw : IntKind.i64.wrap (m : Int) = (m : Int) := IntWalk.i64_in _ (by omega)
      have HLD := Lib.hid (show (xs.drop 1).length = m by rw [List.length_drop, ← hn.out]; omega)
      have HLT := Lib.hid (show ((tmL xs xs n).take m).length = m by rw [List.length_take, tmL_len]; omega)
      have HMN := Lib.hid hm
      clear hx hv HMB h1 p1 HPP hc0 hm
      generalize (if cap = 1 then some (⟨g1, 0, none⟩ : Addr) else (some (⟨g1, 0, none⟩ : Addr)).map (·.add 1)) = A1 at *
      go_enter Try.func27, Try.ntmps27
      go_wp2_with fail
      (with_reducible refine HM.out.mono ?_)
      rintro e w1 ⟨rfl, hb⟩
      have HB1 := Lib.hid hb
      have hc0 := (hb.cell (p := ⟨g1, 0, none⟩) (show g1 < w.heap.size by omega)).trans HC0.out
      clear hb
      go_wp2_with fail
      (with_reducible refine (HT.out _ ?h).mono ?_)
      case h => exact HB1.out
      rintro e w4 ⟨c4, g4, rfl, hg4, rfl, ho, hb⟩
      have HB := Lib.hid (HB1.out.trans (hb.mono HB1.out.size))
      have HS4 := Lib.hid (show SubI w4 (some ⟨g4, 0, none⟩) c4 (tmL xs xs c4) from SubI.own (by rw [tmL_len]; exact ho) (by rw [tmL_len]; exact Nat.le_refl _))
      have hsl2 := fun W => run_upto_s W (some ⟨g4, 0, none⟩) c4 c4 m (by have := HMN.out; omega)
      have HEQ := Lib.hid (fun q => equalS A1 (some ⟨g4, 0, none⟩) m (cap - 1) c4 (xs.drop 1) ((tmL xs xs c4).take m) (w4.drewN q) (by
        refine ⟨HSUB.out.1, fun j hj => ?_⟩
        obtain ⟨g, o, e, hc⟩ := HSUB.out.2 j hj
        refine ⟨g, o, e, ?_⟩
        by_cases hgg : g < w.heap.size
        · exact (HB.out.cell (p := ⟨g, o + j, none⟩) hgg).trans hc
        · have hnn : w.heap[g]? = none := Array.getElem?_eq_none (by omega)
          simp [World.cell?, hnn] at hc)
        (HS4.out.upto m (by rw [tmL_len]; have := HMN.out; omega)) HLD.out HLT.out (by have := HMN.out; omega))
      rw [← HSC.out, ← HPQ.out] at HEQ
      obtain ⟨r, hr⟩ : ∃ r, Hid (r = scB xs) := ⟨_, Lib.hid rfl⟩
      rw [← hr.out] at HEQ
      clear ho hb hc0
      go_wp2_with fail
      go_quiet ((with_reducible exact quiet_on (HEQ.out _)))
      go_wp2
      go_ret
      exact ⟨ret_bool hr.out, below_drewN HB.out _⟩
    · have hne : (xs.getD 0 0 != 1) = true := by simpa using h1
      have hnd : (xs.getD 0 0 == 1) = false := beq_eq_false_iff_ne.2 h1
      have HPQ := Lib.hid (show scB xs = false by rw [HPP.out, decide_eq_false h1]; rfl)
      clear hx hv HMB h1 p1 HPP HT hc0
      generalize xs.getD 0 0 = x at *
      go_enter Try.func27, Try.ntmps27
      go_wp2_with fail
      (with_reducible refine HM.out.mono ?_)
      rintro e w1 ⟨rfl, hb⟩
      have hc0 := (hb.cell (p := ⟨g1, 0, none⟩) (show g1 < w.heap.size by omega)).trans HC0.out
      go_wp2
      go_ret
      exact ⟨ret_bool HPQ.out.symm, hb⟩

end Go.Proofs.Ytbikipacfmaiaaa
