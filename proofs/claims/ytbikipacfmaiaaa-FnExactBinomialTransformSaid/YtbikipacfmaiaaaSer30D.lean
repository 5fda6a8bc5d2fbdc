/- BinomialTransform, both functions. -/
import Derived.Test.YtbikipacfmaiaaaSer30B
import Derived.Test.YtbikipacfmaiaaaBin30
namespace Go.Proofs.Ytbikipacfmaiaaa
open Go.ChangeShapes Go.WideShapes Go.ChangeAt Go.RowKit
set_option linter.unusedVariables false

/-- The first k terms of a transform's term n. -/
def btS (a : List Int) (n : Nat) : Nat → Int
  | 0 => 0
  | k + 1 => btS a n k + bo n k * a.getD k 0
theorem btS_succ (a : List Int) (n k : Nat) : btS a n (k + 1) = btS a n k + bo n k * a.getD k 0 := rfl
theorem bo_12 : ∀ n, n < 12 → ∀ k, k < 12 → 0 ≤ bo n k ∧ bo n k ≤ 462 := by decide +kernel
theorem bo_mul {n k : Nat} {x : Int} (hn : n < 12) (hk : k < 12) (h1 : -1000000 ≤ x) (h2 : x ≤ 1000000) : -462000000 ≤ bo n k * x ∧ bo n k * x ≤ 462000000 := by
  have h := bo_12 n hn k hk
  have : (bo n k * x).natAbs ≤ 462 * 1000000 := by rw [Int.natAbs_mul]; exact Nat.mul_le_mul (by omega) (by omega)
  omega
theorem btS_bd {a : List Int} (ha : inB 1000000 a = true) {n : Nat} (hn : n < 12) : ∀ k : Nat, k ≤ 12 → -(462000000 * (k : Int)) ≤ btS a n k ∧ btS a n k ≤ 462000000 * (k : Int) := by
  intro k
  induction k with
  | zero => intro _; simp [btS]
  | succ k ih =>
    intro hk
    have h1 := ih (by omega)
    have h2 := in_all ha (by omega) k
    have h3 := bo_mul (n := n) (k := k) hn (by omega) h2.1 h2.2
    rw [btS_succ]
    generalize bo n k * a.getD k 0 = p at *
    omega
def btL (a : List Int) (n : Nat) : List Int := (List.range n).map fun q => btS a q (q + 1)
theorem btL_len (a : List Int) (n : Nat) : (btL a n).length = n := by simp [btL]
theorem btL_at (a : List Int) {n q : Nat} (h : q < n) : (btL a n).getD q 0 = btS a q (q + 1) := by simp [btL, List.getD, h]
theorem btL_succ (a : List Int) (n : Nat) : btL a (n + 1) = btL a n ++ [btS a n (n + 1)] := by simp [btL, List.range_succ]
def btP (a : List Int) : List Int := if finB a = true then btL a a.length else []
theorem btP_len (a : List Int) : (btP a).length ≤ 12 := by
  unfold btP
  split
  · rename_i h; rw [btL_len]; exact (fin_parts h).2.2
  · simp
def btF (a : List Int) (i : Nat) : Nat → Int := fun q => if q < i then btS a q (q + 1) else 0
def btI (a : List Int) (i k : Nat) : Nat → Int := fun q => if q < i then btS a q (q + 1) else if q = i then btS a i k else 0
theorem btF_zero (a : List Int) : btF a 0 = fun _ => 0 := by funext q; unfold btF; rw [if_neg (by omega)]
theorem btI_zero (a : List Int) (i : Nat) : btI a i 0 = btF a i := by
  funext q
  unfold btI btF
  split
  · rfl
  · split
    · rfl
    · rfl
theorem btI_full (a : List Int) (i : Nat) : btI a i (i + 1) = btF a (i + 1) := by
  funext q
  unfold btI btF
  by_cases h : q < i
  · rw [if_pos h, if_pos (by omega)]
  · rw [if_neg h]
    by_cases e : q = i
    · subst e; rw [if_pos rfl, if_pos (by omega)]
    · rw [if_neg e, if_neg (by omega)]
theorem btI_here (a : List Int) (i k : Nat) : btI a i k i = btS a i k := by unfold btI; rw [if_neg (by omega), if_pos rfl]
theorem btI_succ (a : List Int) (i k : Nat) : btI a i (k + 1) = upd (btI a i k) i (btS a i k + bo i k * a.getD k 0) := by
  funext q
  by_cases e : q = i
  · subst e; rw [upd_at, btI_here, btS_succ]
  · rw [upd_ne _ _ e]; unfold btI; rw [if_neg e, if_neg e]

set_option maxRecDepth 100000 in
set_option maxHeartbeats 3200000 in
theorem binomialTransform (A : Option Addr) (xs : List Int) (cap lo hi : Nat) (w : World) (hv : OwnI w lo hi (.slice A xs.length cap) xs) (hhi : hi ≤ w.heap.size) (hl : xs.length ≤ 1099511627776) :
    Calls Try.prog 24 #[.slice A xs.length cap] w (AnsIB (btP xs) (finB xs) w) := by
  have HM := Lib.hid (l30Fine A xs cap lo hi w hv hl)
  have HV := Lib.hid hv
  rcases hx : finB xs with _ | _
  · have HP := Lib.hid (show btP xs = [] from if_neg (by rw [hx]; simp))
    rw [hx] at HM
    clear hx hv
    go_enter Try.func24, Try.ntmps24
    go_wp2_with fail
    (with_reducible refine HM.out.mono ?_)
    rintro e w' ⟨rfl, rfl⟩
    go_wp2
    go_ret2
    exact ⟨_, ret_ib rfl rfl, by rw [HP.out]; exact ⟨_, _, rfl, .inl rfl⟩, (Below.refl _ _).alloc (Nat.le_refl _) _⟩
  · obtain ⟨p1, p2, p3⟩ := fin_parts hx
    have HP := Lib.hid (show btP xs = btL xs xs.length from if_pos hx)
    have HIN := Lib.hid (fun q => in_all p1 (by omega) q)
    have HBD := Lib.hid (fun n (h : n < 12) (k : Nat) (hk : k ≤ 12) => btS_bd p1 h k hk)
    rw [hx] at HM
    clear hx hv p1
    obtain ⟨n, hn⟩ : ∃ n, Hid (n = xs.length) := ⟨_, Lib.hid rfl⟩
    rw [← hn.out] at p2 p3 HP
    rw [← hn.out] at HM ⊢
    go_enter Try.func24, Try.ntmps24
    go_wp2_with fail
    (with_reducible refine HM.out.mono ?_)
    rintro e w' ⟨rfl, rfl⟩
    go_wp2
    go_loopw [4, 5] (fun v y wr => ∃ i : Nat, i ≤ n ∧ y = .int .i64 i ∧ wr.ownsRow w.heap.size 3 1 v (btL xs i).length ((btL xs i).map (Value.int .i64)) ∧ Below w.heap.size w wr) (fun _ y _ => n - (intOf y).toNat)
    case atStart => exact ⟨0, Nat.zero_le _, rfl, World.ownsRow_made w #[] 0 (Nat.le_refl _) (Nat.zero_le _) (by simp), (Below.refl _ _).alloc (Nat.le_refl _) _⟩
    case round =>
      obtain ⟨i, hi', rfl, hown, hb⟩ := hrel
      have HOWN := Lib.hid hown
      have HB1 := Lib.hid hb
      have hB := hb.size
      clear hown hb
      by_cases hlt : i < n
      · have hii : (i : Int) < (n : Int) := by omega
        have HNX := Lib.hid (btL_succ xs i)
        have HLN := Lib.hid (btL_len xs i)
        obtain ⟨wo, rfl⟩ : ∃ wo, wo = wr := ⟨_, rfl⟩
        go_wp2
        go_loopw [6, 7] (fun x y w2 => ∃ k q : Nat, k ≤ i + 1 ∧ y = .int .i64 k ∧ x = .int .i64 (btS xs i k) ∧ w2 = wo.drewN q) (fun _ y _ => i + 1 - (intOf y).toNat)
        case atStart => exact ⟨0, 0, Nat.zero_le _, rfl, rfl, rfl⟩
        case round =>
          obtain ⟨k, q, hk, rfl, rfl, hw2⟩ := hrel
          have HW := Lib.hid hw2
          have HB2 := Lib.hid (show Below w.heap.size w wr by rw [hw2]; exact below_drewN HB1.out q)
          have HO2 := Lib.hid (show wr.ownsRow w.heap.size 3 1 u4 (btL xs i).length ((btL xs i).map (Value.int .i64)) by rw [hw2]; exact HOWN.out)
          have hB2 : w.heap.size ≤ wr.heap.size := HB2.out.size
          clear hw2
          by_cases hlt2 : k ≤ i
          · have hki : (k : Int) ≤ (i : Int) := by omega
            have hkn : (k : Int) < (n : Int) := by omega
            obtain ⟨g1, p1', e1, -, -, hc1, -⟩ := (HV.out.keep HB2.out hhi).cell (j := k) (by rw [← hn.out]; omega)
            rw [← hn.out] at e1
            simp only [Value.slice.injEq] at e1
            obtain ⟨rfl, -, rfl⟩ := e1
            have HNS := Lib.hid (btS_succ xs i k)
            have hbd := HBD.out i (by omega) k (by omega)
            have hin := HIN.out k
            have hmul := bo_mul (n := i) (k := k) (x := xs.getD k 0) (by omega) (by omega) hin.1 hin.2
            have HC := Lib.hid (fun W => boS i k W (by omega) hlt2)
            generalize bo i k = b at *
            generalize xs.getD k 0 = x at *
            generalize btS xs i k = c at *
            generalize hp : b * x = p at *
            have v1 : IntKind.i64.wrap p = p := IntWalk.i64_in _ (by omega)
            have v2 : IntKind.i64.wrap (c + p) = c + p := IntWalk.i64_in _ (by omega)
            go_wp2_with fail
            go_quiet ((with_reducible exact still_on (HC.out _)))
            go_wp2
            exact ⟨⟨k + 1, q + nq, by omega, by simp, by rw [HNS.out], by rw [HW.out, World.drewN_drewN]⟩, by simp [intOf]; omega⟩
          · obtain rfl : k = i + 1 := by omega
            rw [HLN.out] at HO2
            generalize btS xs i (i + 1) = c at *
            generalize btL xs i = L at *
            go_wp2_with (at_builtin; go_must (refine wpAppInt rfl _ _ rfl w.heap.size u4 _ L rfl (World.ownsRow.alloc HO2.out _) wr.heap.size _ _ rfl (cell_one _ _ _) (by omega) (base_up hB2) ?_); intro v' w' hown' hg')
            exact ⟨⟨i + 1, by omega, by simp, by rw [HNX.out, List.length_append, HLN.out]; exact hown', (HB2.out.alloc hB2 _).grown hg' (base_up hB2) (fun k hk => (HO2.out.lt k hk).1)⟩, by simp [intOf]; omega⟩
      · obtain rfl : i = n := by omega
        have HOW := Lib.hid (OwnI.of_row HOWN.out)
        go_wp2
        go_ret2
        exact ⟨_, ret_ib rfl rfl, by rw [HP.out]; exact HOW.out, HB1.out⟩

set_option maxRecDepth 100000 in
set_option maxHeartbeats 3200000 in
theorem binomialTransformI (A : Option Addr) (xs : List Int) (cap lo hi : Nat) (w : World) (hv : OwnI w lo hi (.slice A xs.length cap) xs) (hhi : hi ≤ w.heap.size) (hcap : xs.length ≤ cap) (hl : xs.length ≤ 1099511627776) :
    Calls Try.prog 25 #[.slice A xs.length cap] w (AnsIB (btP xs) (finB xs) w) := by
  have HM := Lib.hid (isSeriesI A xs cap lo hi w hv hhi hl)
  have HV := Lib.hid hv
  rcases hx : finB xs with _ | _
  · have HP := Lib.hid (show btP xs = [] from if_neg (by rw [hx]; simp))
    rw [hx] at HM
    clear hx hv
    go_enter Try.func25, Try.ntmps25
    go_wp2_with fail
    (with_reducible refine HM.out.mono ?_)
    rintro e w' ⟨rfl, hb⟩
    go_wp2
    go_ret2
    exact ⟨_, ret_ib rfl rfl, by rw [HP.out]; exact ⟨_, _, rfl, .inl rfl⟩, hb⟩
  · obtain ⟨p1, p2, p3⟩ := fin_parts hx
    have HP := Lib.hid (show btP xs = btL xs xs.length from if_pos hx)
    have HIN := Lib.hid (fun q => in_all p1 (by omega) q)
    have HBD := Lib.hid (fun n (h : n < 12) (k : Nat) (hk : k ≤ 12) => btS_bd p1 h k hk)
    have HZF := Lib.hid (btF_zero xs)
    rw [hx] at HM
    clear hx hv p1
    obtain ⟨n, hn⟩ : ∃ n, Hid (n = xs.length) := ⟨_, Lib.hid rfl⟩
    rw [← hn.out] at p2 p3 HP hcap
    rw [← hn.out] at HM ⊢
    have HTA := Lib.hid (fun q (h : q < n) => btL_at xs h)
    have HTL := Lib.hid (btL_len xs n)
    obtain ⟨i0, hi0, hz0, hz1, hzb⟩ := info_parts info3
    go_enter Try.func25, Try.ntmps25
    go_wp2_with fail
    (with_reducible refine HM.out.mono ?_)
    rintro e w1 ⟨rfl, hb⟩
    have HB1 := Lib.hid hb
    have z1 := hb.size
    clear hb
    go_wp2_with (at_make; go_must (refine wpList_make_full _ rfl _ _ 22 rfl w1.heap.size 3 i0 (.int .i64 0) 1 Try.underlying22 hi0 hz0 hz1 .i64 .i64 (n : Int) (n : Int) n rfl rfl rfl rfl (by rw [hzb]; omega) (by unfold maxLen; omega) (Nat.le_refl _) ?_); intro w2 hown1 hgrow1)
    have HT0 := Lib.hid (show TabI w2 w1.heap.size n (btF xs 0) by rw [HZF.out]; exact TabI.made hown1)
    have HB2 := Lib.hid (HB1.out.trans (((Below.refl w1.heap.size w1).grown hgrow1 (Nat.le_refl _) (fun k hk => by cases hk)).mono z1))
    clear hown1 hgrow1
    go_wp2
    go_loopw [16] (fun y wr => ∃ i : Nat, i ≤ n ∧ y = .int .i64 i ∧ TabI wr w1.heap.size n (btF xs i) ∧ Below w.heap.size w wr) (fun y _ => n - (intOf y).toNat)
    case atStart => exact ⟨0, Nat.zero_le _, rfl, HT0.out, HB2.out⟩
    case round =>
      obtain ⟨i, hi', rfl, htab, hb⟩ := hrel
      have HT := Lib.hid htab
      have HB3 := Lib.hid hb
      clear htab hb HT0 HB2
      by_cases hlt : i < n
      · have hii : (i : Int) < (n : Int) := by omega
        have HT1 := Lib.hid (show TabI wr w1.heap.size n (btI xs i 0) by rw [btI_zero]; exact HT.out)
        have HFULL := Lib.hid (btI_full xs i)
        obtain ⟨m, hm⟩ : ∃ m, m = i + 1 := ⟨_, rfl⟩
        rw [← hm] at HFULL
        have hmi : (i : Int) + 1 = (m : Int) := by omega
        have hmw : IntKind.i64.wrap (m : Int) = (m : Int) := IntWalk.i64_in _ (by omega)
        have hmn : m ≤ n := by omega
        have hsl := fun W => run_upto W A n cap m (by omega)
        have HMI := Lib.hid hm
        clear hm
        go_wp2
        go_loopw [24] (fun y wr => ∃ k : Nat, k ≤ m ∧ y = .int .i64 k ∧ TabI wr w1.heap.size n (btI xs i k) ∧ Below w.heap.size w wr) (fun y _ => m - (intOf y).toNat)
        case atStart => exact ⟨0, Nat.zero_le _, rfl, HT1.out, HB3.out⟩
        case round =>
          obtain ⟨k, hk', rfl, htab, hb⟩ := hrel
          have HT2 := Lib.hid htab
          have HB4 := Lib.hid hb
          clear htab hb
          by_cases hlt2 : k < m
          · have hki : (k : Int) < (m : Int) := by omega
            have hki2 : k ≤ i := by have := HMI.out; omega
            obtain ⟨g2, p2', e2, -, -, hc2, -⟩ := (HV.out.keep HB4.out hhi).cell (j := k) (by rw [← hn.out]; omega)
            rw [← hn.out] at e2
            simp only [Value.slice.injEq] at e2
            obtain ⟨rfl, -, rfl⟩ := e2
            have HNX := Lib.hid (btI_succ xs i k)
            obtain ⟨hc3, hf3⟩ := HT2.out.cell (j := i) hlt
            rw [btI_here] at hc3
            have hbd := HBD.out i (by omega) k (by omega)
            have hin := HIN.out k
            have hmul := bo_mul (n := i) (k := k) (x := xs.getD k 0) (by omega) (by omega) hin.1 hin.2
            have HC := Lib.hid (fun W => boI i k W (by omega) hki2)
            generalize bo i k = b at *
            generalize xs.getD k 0 = x at *
            generalize btS xs i k = c at *
            generalize hp : b * x = p at *
            have v1 : IntKind.i64.wrap p = p := IntWalk.i64_in _ (by omega)
            have v2 : IntKind.i64.wrap (c + p) = c + p := IntWalk.i64_in _ (by omega)
            go_wp2_with fail
            go_region_law (go_simp; go_at_call 41; (with_reducible refine (HC.out _).mono ?_); rintro e w' ⟨rfl, rfl⟩)
            all_goals go_wp2
            all_goals go_roundw
            all_goals first | exact ⟨k + 1, by omega, by simp, by rw [HNX.out]; exact (HT2.out.set (k := i) hlt _).keep rfl, (HB4.out.setCell (p := ⟨w1.heap.size, i, none⟩) z1 _).drew⟩ | (simp [intOf]; omega)
          · obtain rfl : k = m := by omega
            rw [HFULL.out] at HT2
            go_wp2
            exact ⟨⟨k, hmn, rfl, HT2.out, HB4.out⟩, by simp [intOf]; have := HMI.out; omega⟩
      · obtain rfl : i = n := by omega
        have HOW := Lib.hid (show OwnI wr w.heap.size wr.heap.size (.slice (some ⟨w1.heap.size, 0, none⟩) i i) (btL xs i) from OwnI.of_tab HT.out HTL.out (Nat.le_refl _) (fun j hj => by rw [HTA.out j hj]; unfold btF; rw [if_pos hj]) z1 HT.out.lt)
        go_wp2
        go_ret2
        exact ⟨_, ret_ib rfl rfl, by rw [HP.out]; exact HOW.out, HB3.out⟩

end Go.Proofs.Ytbikipacfmaiaaa
