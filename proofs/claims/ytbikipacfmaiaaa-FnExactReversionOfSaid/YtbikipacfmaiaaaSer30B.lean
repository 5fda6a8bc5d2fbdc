/- The program's products of series; MultiplySeries, SatisfiesCatalan, both functions (written by tools/mk30b.py). -/
import Derived.Test.YtbikipacfmaiaaaSer30
import Derived.BigQuiet
namespace Go.Proofs.Ytbikipacfmaiaaa
open Go.ChangeShapes Go.WideShapes Go.ChangeAt Go.RowKit
set_option linter.unusedVariables false

theorem run_upto_s (w : World) (a : Option Addr) (len cap n : Nat) (hn : n ≤ cap) : (Instr.slice 38 (.slice a len cap) none (some (.int .i64 (n : Int))) none).run Try.prog w = .ok (.slice a n cap) w := by
  obtain ⟨i0, hi, hz0, hz1, hz2⟩ := info_parts info3
  have he : Try.prog.elem 38 = 3 := by kernel_rfl
  have hcc : Try.prog.cellsOf 3 = 1 := by kernel_rfl
  have hu : Try.prog.underlying 38 = some (.slice (Try.prog.elem 38)) := by rw [he]; exact Try.underlying38
  rw [run_slice_h w _ _ len cap hu .i64 (n : Int) (by omega) (by omega), he, run_sizeOf w hi, hcc]
  cases a with
  | none => simp [sliced, Result.andThen]
  | some p => simp [sliced, Result.andThen, Addr.add]

set_option maxRecDepth 100000 in
set_option maxHeartbeats 3200000 in
theorem timesI (A A' : Option Addr) (xs ys : List Int) (n cap cap' lo hi lo' hi' : Nat) (w : World) (M : Int) (hv : OwnI w lo hi (.slice A n cap) xs) (hu : OwnI w lo' hi' (.slice A' n cap') ys) (hx : xs.length = n) (hy : ys.length = n) (hhi : hi ≤ w.heap.size) (hhu : hi' ≤ w.heap.size) (hn : n ≤ 12) (hcap : n ≤ cap')
    (hM : ∀ i j, -M ≤ xs.getD i 0 * ys.getD j 0 ∧ xs.getD i 0 * ys.getD j 0 ≤ M) (hM2 : M ≤ 100000000000000000) :
    Calls Try.prog 34 #[.slice A n cap, .slice A' n cap'] w (fun e w' => ∃ c g, c = n ∧ w.heap.size ≤ g ∧ e = .returned (.slice (some ⟨g, 0, none⟩) n c) ∧ OwnI w' w.heap.size w'.heap.size (.slice (some ⟨g, 0, none⟩) n c) (tmL xs ys n) ∧ Below w.heap.size w w') := by
  have HV := Lib.hid hv
  have HU := Lib.hid hu
  have HX := Lib.hid hx
  have HY := Lib.hid hy
  have HPB := Lib.hid (fun q k hk => pS_bd hM q k hk)
  have HMM := Lib.hid hM
  have hM0 := hM 0 0
  have HM1 := Lib.hid (show 0 ≤ M by omega)
  have HZF := Lib.hid (pgF_zero xs ys)
  have HTA := Lib.hid (fun q (h : q < n) => tmL_at xs ys h)
  have HTL := Lib.hid (tmL_len xs ys n)
  obtain ⟨i0, hi0, hz0, hz1, hzb⟩ := info_parts info3
  clear hv hu hx hy hM hM0
  go_enter Try.func34, Try.ntmps34
  go_wp2_with (at_make; go_must (refine wpList_make_full _ rfl _ _ 38 rfl w.heap.size 3 i0 (.int .i64 0) 1 Try.underlying38 hi0 hz0 hz1 .i64 .i64 (n : Int) (n : Int) n rfl rfl rfl rfl (by rw [hzb]; omega) (by unfold maxLen; omega) (Nat.le_refl _) ?_); intro w2 hown1 hgrow1)
  have HT0 := Lib.hid (show TabI w2 w.heap.size n (pgF xs ys 0) by rw [HZF.out]; exact TabI.made hown1)
  have HB2 := Lib.hid ((Below.refl w.heap.size w).grown hgrow1 (Nat.le_refl _) (fun k hk => by cases hk))
  clear hown1 hgrow1
  go_wp2
  go_loopw [15] (fun y wr => ∃ i : Nat, i ≤ n ∧ y = .int .i64 i ∧ TabI wr w.heap.size n (pgF xs ys i) ∧ Below w.heap.size w wr) (fun y _ => n - (intOf y).toNat)
  case atStart => exact ⟨0, Nat.zero_le _, rfl, HT0.out, HB2.out⟩
  case round =>
    obtain ⟨i, hi', rfl, htab, hb⟩ := hrel
    have HT := Lib.hid htab
    have HB3 := Lib.hid hb
    clear htab hb HT0 HB2
    by_cases hlt : i < n
    · have hii : (i : Int) < (n : Int) := by omega
      have HT1 := Lib.hid (show TabI wr w.heap.size n (pgI xs ys i 0) by rw [pgI_zero]; exact HT.out)
      have HFULL := Lib.hid (fun q h => pgI_full xs ys i n q hlt h)
      obtain ⟨m, hm⟩ : ∃ m, m = n - i := ⟨_, rfl⟩
      rw [← hm] at HFULL
      have hmi : (n : Int) - (i : Int) = (m : Int) := by omega
      have hmw : IntKind.i64.wrap (m : Int) = (m : Int) := IntWalk.i64_in _ (by omega)
      have HMN := Lib.hid hm
      have hsl := fun W => run_upto_s W A' n cap' m (by omega)
      obtain ⟨g1, p1, e1, -, -, hc1, -⟩ := (HV.out.keep HB3.out hhi).cell (j := i) (by rw [HX.out]; exact hlt)
      simp only [Value.slice.injEq] at e1
      obtain ⟨rfl, -, rfl⟩ := e1
      have HXI := Lib.hid (fun j => HMM.out i j)
      obtain ⟨x, hxx⟩ : ∃ x, Hid (x = xs.getD i 0) := ⟨_, Lib.hid rfl⟩
      rw [← hxx.out] at hc1 HXI
      have hmn : m ≤ n := by omega
      clear hm
      go_wp2
      go_loopw [27] (fun y wr => ∃ k : Nat, k ≤ m ∧ y = .int .i64 k ∧ TabI wr w.heap.size n (pgI xs ys i k) ∧ Below w.heap.size w wr) (fun y _ => m - (intOf y).toNat)
      case atStart => exact ⟨0, Nat.zero_le _, rfl, HT1.out, HB3.out⟩
      case round =>
        obtain ⟨k, hk', rfl, htab, hb⟩ := hrel
        have HT2 := Lib.hid htab
        have HB4 := Lib.hid hb
        clear htab hb
        by_cases hlt2 : k < m
        · have hki : (k : Int) < (m : Int) := by omega
          obtain ⟨t, ht⟩ : ∃ t, t = i + k := ⟨_, rfl⟩
          have htn : t < n := by have := HMN.out; omega
          obtain ⟨g2, p2, e2, -, -, hc2, -⟩ := (HU.out.keep HB4.out hhu).cell (j := k) (by rw [HY.out]; omega)
          simp only [Value.slice.injEq] at e2
          obtain ⟨rfl, -, rfl⟩ := e2
          have HNX := Lib.hid (pgI_succ xs ys i k)
          obtain ⟨hc3, hf3⟩ := HT2.out.cell (j := t) htn
          rw [ht, pgI_here, ← ht] at hc3
          rw [← ht, ← hxx.out] at HNX
          have hcv := HPB.out t i (by omega)
          have hxy := HXI.out k
          generalize ys.getD k 0 = z at *
          generalize pS xs ys t i = c at *
          generalize hp : x * z = p at *
          have v1 : IntKind.i64.wrap p = p := IntWalk.i64_in _ (by omega)
          have v2 : IntKind.i64.wrap (c + p) = c + p := IntWalk.i64_in _ (by omega)
          have hti : (i : Int) + (k : Int) = (t : Int) := by omega
          have htn2 : (t : Int) < (n : Int) := by omega
          clear ht
          go_wp2
          exact ⟨⟨k + 1, by omega, by simp, by rw [HNX.out]; exact HT2.out.set (k := t) htn _, HB4.out.setCell (p := ⟨w.heap.size, t, none⟩) (Nat.le_refl _) _⟩, by simp [intOf]; omega⟩
        · obtain rfl : k = m := by omega
          go_wp2
          exact ⟨⟨i + 1, by omega, by simp, HT2.out.alike HFULL.out, HB4.out⟩, by simp [intOf]; omega⟩
    · obtain rfl : i = n := by omega
      have HOW := Lib.hid (show OwnI wr w.heap.size wr.heap.size (.slice (some ⟨w.heap.size, 0, none⟩) i i) (tmL xs ys i) from OwnI.of_tab HT.out HTL.out (Nat.le_refl _) (fun j hj => by rw [HTA.out j hj, pgF_full xs ys i j hj]) (Nat.le_refl _) HT.out.lt)
      go_wp2
      go_ret
      exact ⟨i, w.heap.size, rfl, Nat.le_refl _, rfl, HOW.out, HB3.out⟩

def muOk (a b : List Int) : Bool := finB a && (finB b && decide (a.length = b.length))
def muP (a b : List Int) : List Int := if muOk a b = true then tmL a b a.length else []
theorem muP_len (a b : List Int) : (muP a b).length ≤ 12 := by
  unfold muP
  split
  · rename_i h
    unfold muOk at h
    rw [Bool.and_eq_true] at h
    rw [tmL_len]; exact (fin_parts h.1).2.2
  · simp
theorem mul_bd {La Lb : Int} {a b : List Int} (ha : inB La a = true) (hb : inB Lb b = true) (h1 : 0 ≤ La) (h2 : 0 ≤ Lb) (i j : Nat) : -(La * Lb) ≤ a.getD i 0 * b.getD j 0 ∧ a.getD i 0 * b.getD j 0 ≤ La * Lb := by
  have x := in_all ha h1 i
  have y := in_all hb h2 j
  have : (a.getD i 0 * b.getD j 0).natAbs ≤ La.toNat * Lb.toNat := by rw [Int.natAbs_mul]; exact Nat.mul_le_mul (by omega) (by omega)
  have e : ((La.toNat * Lb.toNat : Nat) : Int) = La * Lb := by rw [Int.natCast_mul, Int.toNat_of_nonneg h1, Int.toNat_of_nonneg h2]
  omega

set_option maxRecDepth 100000 in
set_option maxHeartbeats 1600000 in
theorem multiplySeries (A A' : Option Addr) (xs ys : List Int) (cap cap' lo hi lo' hi' : Nat) (w : World) (hv : OwnI w lo hi (.slice A xs.length cap) xs) (hu : OwnI w lo' hi' (.slice A' ys.length cap') ys) (hhi : hi ≤ w.heap.size) (hhu : hi' ≤ w.heap.size) (hl : xs.length ≤ 1099511627776) (hl' : ys.length ≤ 1099511627776) :
    Calls Try.prog 15 #[.slice A xs.length cap, .slice A' ys.length cap'] w (AnsIB (muP xs ys) (muOk xs ys) w) := by
  have HM := Lib.hid (fun W (h : Below w.heap.size w W) => l30Fine A xs cap lo hi W (hv.keep h hhi) hl)
  have HN := Lib.hid (fun W (h : Below w.heap.size w W) => l30Fine A' ys cap' lo' hi' W (hu.keep h hhu) hl')
  rcases hx : finB xs with _ | _
  · have HO := Lib.hid (show muOk xs ys = false by unfold muOk; rw [hx]; rfl)
    have HP := Lib.hid (show muP xs ys = [] from if_neg (by rw [HO.out]; simp))
    rw [hx] at HM
    clear hx hv hu
    go_enter Try.func15, Try.ntmps15
    go_wp2_with fail
    (with_reducible refine (HM.out _ ?h).mono ?_)
    case h => exact Below.refl _ _
    rintro e W1 ⟨rfl, rfl⟩
    have HB1 := Lib.hid (Below.refl w.heap.size w)
    go_wp2
    go_ret2
    exact ⟨_, ret_ib rfl HO.out.symm, by rw [HP.out]; exact ⟨_, _, rfl, .inl rfl⟩, HB1.out.alloc HB1.out.size _⟩
  rcases hy : finB ys with _ | _
  · have HO := Lib.hid (show muOk xs ys = false by unfold muOk; rw [hx, hy]; rfl)
    have HP := Lib.hid (show muP xs ys = [] from if_neg (by rw [HO.out]; simp))
    rw [hx] at HM
    rw [hy] at HN
    clear hx hy hv hu
    go_enter Try.func15, Try.ntmps15
    go_wp2_with fail
    (with_reducible refine (HM.out _ ?h).mono ?_)
    case h => exact Below.refl _ _
    rintro e W1 ⟨rfl, rfl⟩
    have HB1 := Lib.hid (Below.refl w.heap.size w)
    go_wp2_with fail
    (with_reducible refine (HN.out _ ?h).mono ?_)
    case h => exact HB1.out
    rintro e W2 ⟨rfl, rfl⟩
    have HB2 := Lib.hid (Below.refl w.heap.size w)
    go_wp2
    go_ret2
    exact ⟨_, ret_ib rfl HO.out.symm, by rw [HP.out]; exact ⟨_, _, rfl, .inl rfl⟩, HB2.out.alloc HB2.out.size _⟩
  by_cases hs : xs.length = ys.length
  · have HO := Lib.hid (show muOk xs ys = true by unfold muOk; rw [hx, hy, decide_eq_true hs]; rfl)
    have HP := Lib.hid (show muP xs ys = tmL xs ys xs.length from if_pos HO.out)
    have hpx := fin_parts hx
    have hpy := fin_parts hy
    have HMB := Lib.hid (fun i j => mul_bd hpx.1 hpy.1 (by omega) (by omega) i j)
    have hne : ((xs.length : Int) != (xs.length : Int)) = false := by simp
    have hne2 : ((xs.length : Int) == (xs.length : Int)) = true := by simp
    have HT := Lib.hid (fun W (h : Below w.heap.size w W) => l30Times A A' xs ys xs.length cap cap' lo hi lo' hi' W (1000000 * 1000000) (hv.keep h hhi) (by rw [hs]; exact hu.keep h hhu) rfl hs.symm (Nat.le_trans hhi h.size) (Nat.le_trans hhu h.size) hpx.2.2 HMB.out (by omega))
    rw [hx] at HM
    rw [hy] at HN
    clear hx hy hv hu HMB hpx hpy
    rw [← hs] at HN ⊢
    clear hs
    go_enter Try.func15, Try.ntmps15
    go_wp2_with fail
    (with_reducible refine (HM.out _ ?h).mono ?_)
    case h => exact Below.refl _ _
    rintro e W1 ⟨rfl, rfl⟩
    have HB1 := Lib.hid (Below.refl w.heap.size w)
    go_wp2_with fail
    (with_reducible refine (HN.out _ ?h).mono ?_)
    case h => exact HB1.out
    rintro e W2 ⟨rfl, rfl⟩
    have HB2 := Lib.hid (Below.refl w.heap.size w)
    go_wp2_with fail
    (with_reducible refine (HT.out _ ?h).mono ?_)
    case h => exact HB2.out
    rintro e w4 ⟨v4, rfl, ho, hb⟩
    have HO4 := Lib.hid (ho.wide HB2.out.size (Nat.le_refl _))
    have HB5 := Lib.hid (HB2.out.trans (hb.mono HB2.out.size))
    clear ho hb
    go_wp2
    go_ret2
    exact ⟨_, ret_ib rfl HO.out.symm, by rw [HP.out]; exact HO4.out, HB5.out⟩
  · have HO := Lib.hid (show muOk xs ys = false by unfold muOk; rw [decide_eq_false hs]; simp)
    have HP := Lib.hid (show muP xs ys = [] from if_neg (by rw [HO.out]; simp))
    have hne : ((xs.length : Int) != (ys.length : Int)) = true := by simp; omega
    have hne2 : ((xs.length : Int) == (ys.length : Int)) = false := beq_eq_false_iff_ne.2 (by omega)
    rw [hx] at HM
    rw [hy] at HN
    clear hx hy hv hu
    go_enter Try.func15, Try.ntmps15
    go_wp2_with fail
    (with_reducible refine (HM.out _ ?h).mono ?_)
    case h => exact Below.refl _ _
    rintro e W1 ⟨rfl, rfl⟩
    have HB1 := Lib.hid (Below.refl w.heap.size w)
    go_wp2_with fail
    (with_reducible refine (HN.out _ ?h).mono ?_)
    case h => exact HB1.out
    rintro e W2 ⟨rfl, rfl⟩
    have HB2 := Lib.hid (Below.refl w.heap.size w)
    go_wp2
    go_ret2
    exact ⟨_, ret_ib rfl HO.out.symm, by rw [HP.out]; exact ⟨_, _, rfl, .inl rfl⟩, HB2.out.alloc HB2.out.size _⟩

set_option maxRecDepth 100000 in
set_option maxHeartbeats 1600000 in
theorem multiplySeriesI (A A' : Option Addr) (xs ys : List Int) (cap cap' lo hi lo' hi' : Nat) (w : World) (hv : OwnI w lo hi (.slice A xs.length cap) xs) (hu : OwnI w lo' hi' (.slice A' ys.length cap') ys) (hhi : hi ≤ w.heap.size) (hhu : hi' ≤ w.heap.size) (hl : xs.length ≤ 1099511627776) (hl' : ys.length ≤ 1099511627776) (hcap : ys.length ≤ cap') :
    Calls Try.prog 17 #[.slice A xs.length cap, .slice A' ys.length cap'] w (AnsIB (muP xs ys) (muOk xs ys) w) := by
  have HM := Lib.hid (fun W (h : Below w.heap.size w W) => isSeriesI A xs cap lo hi W (hv.keep h hhi) (Nat.le_trans hhi h.size) hl)
  have HN := Lib.hid (fun W (h : Below w.heap.size w W) => isSeriesI A' ys cap' lo' hi' W (hu.keep h hhu) (Nat.le_trans hhu h.size) hl')
  rcases hx : finB xs with _ | _
  · have HO := Lib.hid (show muOk xs ys = false by unfold muOk; rw [hx]; rfl)
    have HP := Lib.hid (show muP xs ys = [] from if_neg (by rw [HO.out]; simp))
    rw [hx] at HM
    clear hx hv hu
    go_enter Try.func17, Try.ntmps17
    go_wp2_with fail
    (with_reducible refine (HM.out _ ?h).mono ?_)
    case h => exact Below.refl _ _
    rintro e W1 ⟨rfl, hb⟩
    have HB1 := Lib.hid hb
    clear hb
    go_wp2
    go_ret2
    exact ⟨_, ret_ib rfl HO.out.symm, by rw [HP.out]; exact ⟨_, _, rfl, .inl rfl⟩, HB1.out⟩
  rcases hy : finB ys with _ | _
  · have HO := Lib.hid (show muOk xs ys = false by unfold muOk; rw [hx, hy]; rfl)
    have HP := Lib.hid (show muP xs ys = [] from if_neg (by rw [HO.out]; simp))
    rw [hx] at HM
    rw [hy] at HN
    clear hx hy hv hu
    go_enter Try.func17, Try.ntmps17
    go_wp2_with fail
    (with_reducible refine (HM.out _ ?h).mono ?_)
    case h => exact Below.refl _ _
    rintro e W1 ⟨rfl, hb⟩
    have HB1 := Lib.hid hb
    clear hb
    go_wp2_with fail
    (with_reducible refine (HN.out _ ?h).mono ?_)
    case h => exact HB1.out
    rintro e W2 ⟨rfl, hb⟩
    have HB2 := Lib.hid (HB1.out.trans (hb.mono HB1.out.size))
    clear hb
    go_wp2
    go_ret2
    exact ⟨_, ret_ib rfl HO.out.symm, by rw [HP.out]; exact ⟨_, _, rfl, .inl rfl⟩, HB2.out⟩
  by_cases hs : xs.length = ys.length
  · have HO := Lib.hid (show muOk xs ys = true by unfold muOk; rw [hx, hy, decide_eq_true hs]; rfl)
    have HP := Lib.hid (show muP xs ys = tmL xs ys xs.length from if_pos HO.out)
    have hpx := fin_parts hx
    have hpy := fin_parts hy
    have HMB := Lib.hid (fun i j => mul_bd hpx.1 hpy.1 (by omega) (by omega) i j)
    have hne : ((xs.length : Int) != (xs.length : Int)) = false := by simp
    have hne2 : ((xs.length : Int) == (xs.length : Int)) = true := by simp
    have HT := Lib.hid (fun W (h : Below w.heap.size w W) => timesI A A' xs ys xs.length cap cap' lo hi lo' hi' W (1000000 * 1000000) (hv.keep h hhi) (by rw [hs]; exact hu.keep h hhu) rfl hs.symm (Nat.le_trans hhi h.size) (Nat.le_trans hhu h.size) hpx.2.2 (by omega) HMB.out (by omega))
    rw [hx] at HM
    rw [hy] at HN
    clear hx hy hv hu HMB hpx hpy
    rw [← hs] at HN ⊢
    clear hs
    go_enter Try.func17, Try.ntmps17
    go_wp2_with fail
    (with_reducible refine (HM.out _ ?h).mono ?_)
    case h => exact Below.refl _ _
    rintro e W1 ⟨rfl, hb⟩
    have HB1 := Lib.hid hb
    clear hb
    go_wp2_with fail
    (with_reducible refine (HN.out _ ?h).mono ?_)
    case h => exact HB1.out
    rintro e W2 ⟨rfl, hb⟩
    have HB2 := Lib.hid (HB1.out.trans (hb.mono HB1.out.size))
    clear hb
    go_wp2_with fail
    (with_reducible refine (HT.out _ ?h).mono ?_)
    case h => exact HB2.out
    rintro e w4 ⟨c4, g4, rfl, hg4, rfl, ho, hb⟩
    have HO4 := Lib.hid (ho.wide HB2.out.size (Nat.le_refl _))
    have HB5 := Lib.hid (HB2.out.trans (hb.mono HB2.out.size))
    clear ho hb
    go_wp2
    go_ret2
    exact ⟨_, ret_ib rfl HO.out.symm, by rw [HP.out]; exact HO4.out, HB5.out⟩
  · have HO := Lib.hid (show muOk xs ys = false by unfold muOk; rw [decide_eq_false hs]; simp)
    have HP := Lib.hid (show muP xs ys = [] from if_neg (by rw [HO.out]; simp))
    have hne : ((xs.length : Int) != (ys.length : Int)) = true := by simp; omega
    have hne2 : ((xs.length : Int) == (ys.length : Int)) = false := beq_eq_false_iff_ne.2 (by omega)
    rw [hx] at HM
    rw [hy] at HN
    clear hx hy hv hu
    go_enter Try.func17, Try.ntmps17
    go_wp2_with fail
    (with_reducible refine (HM.out _ ?h).mono ?_)
    case h => exact Below.refl _ _
    rintro e W1 ⟨rfl, hb⟩
    have HB1 := Lib.hid hb
    clear hb
    go_wp2_with fail
    (with_reducible refine (HN.out _ ?h).mono ?_)
    case h => exact HB1.out
    rintro e W2 ⟨rfl, hb⟩
    have HB2 := Lib.hid (HB1.out.trans (hb.mono HB1.out.size))
    clear hb
    go_wp2
    go_ret2
    exact ⟨_, ret_ib rfl HO.out.symm, by rw [HP.out]; exact ⟨_, _, rfl, .inl rfl⟩, HB2.out⟩

end Go.Proofs.Ytbikipacfmaiaaa
