/- The contracts of the model's LevelsOf, ChildrenOf, LeavesOf. -/
import Derived.Test.YtlnogepmkbibcaaSpec5B
namespace Go.Proofs.Ytlnogepmkbibcaa
open Go.ChangeShapes Go.WideShapes Go.ChangeAt Go.RowKit
set_option linter.unusedVariables false

theorem below_fresh (w : World) (o : Obj) : Below w.heap.size w (w.alloc o) := (Below.refl _ w).alloc (Nat.le_refl _) o
/-- The levels of the first i vertices. -/
def lvL (xs : List Int) : Nat → List Int
  | 0 => []
  | i + 1 => lvL xs i ++ [if i = 0 then 0 else (lvL xs i).getD (xs.getD i 0).toNat 0 + 1]
theorem lvL_len (xs : List Int) (i : Nat) : (lvL xs i).length = i := by
  induction i with
  | zero => rfl
  | succ i ih => rw [lvL, List.length_append, ih]; rfl
theorem lvL_bd {xs : List Int} (h : ∀ i, i < xs.length → plOk xs i) : ∀ i, i ≤ xs.length → ∀ q, q < i → 0 ≤ (lvL xs i).getD q 0 ∧ (lvL xs i).getD q 0 ≤ (q : Int) := by
  intro i
  induction i with
  | zero => intro _ q hq; omega
  | succ i ih =>
    intro hi q hq
    have hl := lvL_len xs i
    rw [lvL]
    by_cases e : q < i
    · rw [ga_old _ _ _ _ (by omega)]; exact ih (by omega) q e
    · obtain rfl : q = i := by omega
      rw [ga_new _ _ _ _ hl.symm]
      split
      · omega
      · rename_i h0
        have hb := h q (by omega)
        unfold plOk at hb
        rw [if_neg h0] at hb
        have := ih (by omega) (xs.getD q 0).toNat (by omega)
        omega
def levelsP (xs : List Int) : List Int := if planeB xs = true then lvL xs xs.length else []
theorem levelsP_len (xs : List Int) : (levelsP xs).length ≤ xs.length := by
  unfold levelsP; split
  · rw [lvL_len]; omega
  · simp

set_option maxRecDepth 100000 in
set_option maxHeartbeats 1600000 in
theorem levelsOf (v : Value) (xs : List Int) (lo hi : Nat) (w : World) (hv : OwnI w lo hi v xs) (hhi : hi ≤ w.heap.size) (hl : xs.length ≤ 1099511627776) :
    Calls Try.prog 20 #[v] w (AnsI (levelsP xs) w) := by
  have HM := Lib.hid (fun w' (h : OwnI w' lo hi v xs) => isPlane v xs lo hi w' h hl)
  obtain ⟨A1, c1, rfl, k1⟩ := id hv
  clear k1
  have HV := Lib.hid hv
  clear hv
  rcases hp : planeB xs with _ | _
  · have HP := Lib.hid (show levelsP xs = [] from if_neg (by simp [hp]))
    rw [hp] at HM
    clear hp
    go_enter Try.func20, Try.ntmps20
    go_wp2
    refine wp_loop_rounds 1 ?_
    rw [rounds_succ]
    have HB := Lib.hid ((Below.refl w.heap.size w).alloc (Nat.le_refl _) (.cells #[] 3))
    by_cases h0 : xs.length = 0
    · have h0' : ¬ (0 : Int) < (xs.length : Int) := by omega
      have HZ := Lib.hid h0
      clear h0
      go_wp2
      go_ret
      exact ⟨_, rfl, by rw [HP.out]; exact ⟨_, _, rfl, .inl rfl⟩, HB.out⟩
    · have h0' : (0 : Int) < (xs.length : Int) := by omega
      have HZ := Lib.hid h0
      clear h0
      go_wp2_with fail
      (with_reducible refine (HM.out _ (HV.out.keep (below_fresh w _) hhi)).mono ?_)
      rintro e w' ⟨rfl, rfl⟩
      go_wp2
      go_ret
      exact ⟨_, rfl, by rw [HP.out]; exact ⟨_, _, rfl, .inl rfl⟩, HB.out⟩
  · have HP := Lib.hid (show levelsP xs = lvL xs xs.length from if_pos hp)
    obtain ⟨⟨l1, l9⟩, hok⟩ := plane_yes hp
    have HOK := Lib.hid hok
    have HBD := Lib.hid (lvL_bd hok)
    rw [hp] at HM
    clear hp hok
    go_enter Try.func20, Try.ntmps20
    go_wp2
    go_loopw [3, 4] (fun v y wr => ∃ i : Nat, i ≤ xs.length ∧ y = .int .i64 i ∧ wr.ownsRow w.heap.size 3 1 v (lvL xs i).length ((lvL xs i).map (Value.int .i64)) ∧ Below w.heap.size w wr) (fun _ y _ => xs.length - (intOf y).toNat)
    case atStart => exact ⟨0, Nat.zero_le _, rfl, World.ownsRow_made w #[] 0 (Nat.le_refl _) (Nat.zero_le _) (by simp), (Below.refl _ _).alloc (Nat.le_refl _) _⟩
    case round =>
      obtain ⟨i, hi, rfl, hown, hb⟩ := hrel
      have hB := hb.size
      have hll := lvL_len xs i
      have HVr := Lib.hid (HV.out.keep hb hhi)
      have HSU := Lib.hid (show lvL xs (i + 1) = lvL xs i ++ [if i = 0 then 0 else (lvL xs i).getD (xs.getD i 0).toNat 0 + 1] from rfl)
      by_cases hlt : i < xs.length
      · have hii : (i : Int) < (xs.length : Int) := by omega
        have hbd := HBD.out i hi
        by_cases i0 : i = 0
        · have i0b : ((i : Int) == 0) = true := by simp [i0]
          have HE := Lib.hid (HSU.out.trans (by rw [if_pos i0]))
          have HI0 := Lib.hid i0
          clear i0
          generalize lvL xs i = acc at *
          go_wp2_with fail
          (with_reducible refine (HM.out _ HVr.out).mono ?_)
          rintro e w' ⟨rfl, rfl⟩
          go_wp2_with (at_builtin; go_must (refine wpAppInt rfl _ _ rfl w.heap.size u3 _ _ rfl (hown.alloc _) wr.heap.size _ _ rfl (cell_one _ _ _) (by omega) (base_up hB) ?_); intro v' w' hown' hg')
          go_roundw
          case rel => exact ⟨i + 1, by omega, by simp, by rw [HE.out, List.length_append]; simpa using hown', (hb.alloc hB _).grown hg' (base_up hB) (fun k hk => (hown.lt k hk).1)⟩
          case measure => simp [intOf]; omega
        · have i0b : ((i : Int) == 0) = false := beq_eq_false_iff_ne.2 (by omega)
          have hpl := HOK.out i hlt
          unfold plOk at hpl
          rw [if_neg i0] at hpl
          obtain ⟨p0, p1, -⟩ := hpl
          obtain ⟨g1, q1, e1, -, -, hc1, -⟩ := HVr.out.cell hlt
          simp only [Value.slice.injEq] at e1
          obtain ⟨rfl, -, rfl⟩ := e1
          have HE := Lib.hid (HSU.out.trans (by rw [if_neg i0]))
          generalize xs.getD i 0 = y at *
          obtain ⟨k, rfl⟩ : ∃ k : Nat, y = k := ⟨y.toNat, by omega⟩
          have hbk := hbd k (by omega)
          have HE2 := Lib.hid (show lvL xs (i + 1) = lvL xs i ++ [(lvL xs i).getD k 0 + 1] from HE.out)
          have hOW := OwnI.of_row hown
          obtain ⟨g2, q2, e2, -, -, hc2, -⟩ := hOW.cell (j := k) (by omega)
          have hki : (k : Int) < ((lvL xs i).length : Int) := by omega
          have hal : (lvL xs i).length ≤ 100 := by omega
          clear HSU HE hbd hOW hll
          generalize lvL xs i = acc at *
          generalize acc.getD k 0 = z at hc2 hbk HE2
          subst e2
          go_wp2_with fail
          (with_reducible refine (HM.out _ HVr.out).mono ?_)
          rintro e w' ⟨rfl, rfl⟩
          go_wp2_with (at_builtin; go_must (refine wpAppInt rfl _ _ rfl w.heap.size (.slice (some ⟨g2, 0, none⟩) acc.length q2) _ _ rfl (hown.alloc _) wr.heap.size _ _ rfl (cell_one _ _ _) (by omega) (base_up hB) ?_); intro v' w' hown' hg')
          go_roundw
          case rel => exact ⟨i + 1, by omega, by simp, by rw [HE2.out, List.length_append]; simpa using hown', (hb.alloc hB _).grown hg' (base_up hB) (fun k hk => (hown.lt k hk).1)⟩
          case measure => simp [intOf]; omega
      · obtain rfl : i = xs.length := by omega
        have HOW := Lib.hid (OwnI.of_row hown)
        clear hown HSU hll
        generalize lvL xs xs.length = acc at *
        go_wp2
        go_ret
        exact ⟨_, rfl, by rw [HP.out]; exact HOW.out, hb⟩

/-- The children of v among the vertices from 1 up to k. -/
def chL (xs : List Int) (v : Int) : Nat → List Int
  | 0 => []
  | k + 1 => if xs.getD (k + 1) 0 = v then chL xs v k ++ [((k + 1 : Nat) : Int)] else chL xs v k
theorem chL_le (xs : List Int) (v : Int) (k : Nat) : (chL xs v k).length ≤ k := by
  induction k with
  | zero => exact Nat.le_refl _
  | succ k ih =>
    rw [chL]
    split
    · rw [List.length_append, List.length_singleton]; omega
    · omega
def childrenP (xs : List Int) (v : Int) : List Int := if planeB xs = true ∧ 0 ≤ v then chL xs v (xs.length - 1) else []
theorem children_len (xs : List Int) (v : Int) : (childrenP xs v).length ≤ xs.length := by
  unfold childrenP; split
  · have := chL_le xs v (xs.length - 1); omega
  · exact Nat.zero_le _

set_option maxRecDepth 100000 in
set_option maxHeartbeats 1600000 in
theorem childrenOf (v : Value) (xs : List Int) (t : Int) (lo hi : Nat) (w : World) (hv : OwnI w lo hi v xs) (hhi : hi ≤ w.heap.size) (hl : xs.length ≤ 1099511627776) :
    Calls Try.prog 22 #[v, .int .i64 t] w (AnsI (childrenP xs t) w) := by
  have HM := Lib.hid (fun w' (h : OwnI w' lo hi v xs) => isPlane v xs lo hi w' h hl)
  obtain ⟨A1, c1, rfl, k1⟩ := id hv
  clear k1
  have HV := Lib.hid hv
  clear hv
  have HB := Lib.hid ((Below.refl w.heap.size w).alloc (Nat.le_refl _) (.cells #[] 3))
  by_cases h1 : xs.length ≤ 1
  · have h1' : ¬ (1 : Int) < (xs.length : Int) := by omega
    have HP := Lib.hid (show childrenP xs t = [] by
      unfold childrenP; split
      · rw [show xs.length - 1 = 0 by omega]; rfl
      · rfl)
    go_enter Try.func22, Try.ntmps22
    go_wp2
    refine wp_loop_rounds 1 ?_
    rw [rounds_succ]
    go_wp2
    go_ret
    exact ⟨_, rfl, by rw [HP.out]; exact ⟨_, _, rfl, .inl rfl⟩, HB.out⟩
  · have h1' : (1 : Int) < (xs.length : Int) := by omega
    rcases hp : planeB xs with _ | _
    · have HP := Lib.hid (show childrenP xs t = [] from if_neg (by simp [hp]))
      rw [hp] at HM
      clear hp
      go_enter Try.func22, Try.ntmps22
      go_wp2
      refine wp_loop_rounds 1 ?_
      rw [rounds_succ]
      go_wp2_with fail
      (with_reducible refine (HM.out _ (HV.out.keep (below_fresh w _) hhi)).mono ?_)
      rintro e w' ⟨rfl, rfl⟩
      go_wp2
      go_ret
      exact ⟨_, rfl, by rw [HP.out]; exact ⟨_, _, rfl, .inl rfl⟩, HB.out⟩
    · by_cases t0 : t < 0
      · have HP := Lib.hid (show childrenP xs t = [] from if_neg (by omega))
        have t0' : ¬ (0 : Int) ≤ t := by omega
        rw [hp] at HM
        clear hp
        go_enter Try.func22, Try.ntmps22
        go_wp2
        refine wp_loop_rounds 1 ?_
        rw [rounds_succ]
        go_wp2_with fail
        (with_reducible refine (HM.out _ (HV.out.keep (below_fresh w _) hhi)).mono ?_)
        rintro e w' ⟨rfl, rfl⟩
        go_wp2
        go_ret
        exact ⟨_, rfl, by rw [HP.out]; exact ⟨_, _, rfl, .inl rfl⟩, HB.out⟩
      · have t0' : (0 : Int) ≤ t := by omega
        have HP := Lib.hid (show childrenP xs t = chL xs t (xs.length - 1) from if_pos ⟨hp, t0'⟩)
        obtain ⟨⟨l1, l9⟩, hok⟩ := plane_yes hp
        rw [hp] at HM
        clear hp hok
        go_enter Try.func22, Try.ntmps22
        go_wp2
        go_loopw [5, 6] (fun v y wr => ∃ k : Nat, k + 1 ≤ xs.length ∧ y = .int .i64 ((k + 1 : Nat) : Int) ∧ wr.ownsRow w.heap.size 3 1 v (chL xs t k).length ((chL xs t k).map (Value.int .i64)) ∧ Below w.heap.size w wr) (fun _ y _ => xs.length - (intOf y).toNat)
        case atStart => exact ⟨0, by omega, rfl, World.ownsRow_made w #[] 0 (Nat.le_refl _) (Nat.zero_le _) (by simp), (Below.refl _ _).alloc (Nat.le_refl _) _⟩
        case round =>
          obtain ⟨k, hk, rfl, hown, hb⟩ := hrel
          have hB := hb.size
          have hcl := chL_le xs t k
          have HVr := Lib.hid (HV.out.keep hb hhi)
          have HSU := Lib.hid (show chL xs t (k + 1) = if xs.getD (k + 1) 0 = t then chL xs t k ++ [((k + 1 : Nat) : Int)] else chL xs t k from rfl)
          have HK := Lib.hid hk
          obtain ⟨j, hj⟩ : ∃ j, j = k + 1 := ⟨_, rfl⟩
          rw [← hj] at HSU
          rw [← hj]
          have HJ := Lib.hid hj
          have hj16 : j ≤ 100 := by omega
          have hk16 : k ≤ 100 := by omega
          clear hj hk
          by_cases hlt : j < xs.length
          · have hji : (j : Int) < (xs.length : Int) := by omega
            obtain ⟨g1, q1, e1, -, -, hc1, -⟩ := HVr.out.cell hlt
            simp only [Value.slice.injEq] at e1
            obtain ⟨rfl, -, rfl⟩ := e1
            generalize xs.getD j 0 = y at hc1 HSU
            by_cases ey : y = t
            · subst ey
              have HE := Lib.hid (HSU.out.trans (if_pos rfl))
              generalize chL xs y k = acc at *
              go_wp2_with fail
              (with_reducible refine (HM.out _ HVr.out).mono ?_)
              rintro e w' ⟨rfl, rfl⟩
              go_wp2_with (at_builtin; go_must (refine wpAppInt rfl _ _ rfl w.heap.size u5 _ _ rfl (hown.alloc _) wr.heap.size _ _ rfl (cell_one _ _ _) (by omega) (base_up hB) ?_); intro v' w' hown' hg')
              go_roundw
              case rel => exact ⟨j, by omega, by simp, by rw [HE.out, List.length_append]; simpa using hown', (hb.alloc hB _).grown hg' (base_up hB) (fun k hk => (hown.lt k hk).1)⟩
              case measure => simp [intOf]; omega
            · have ey2 : (y == t) = false := by simp [ey]
              have HE := Lib.hid (HSU.out.trans (if_neg ey))
              have HOWN := Lib.hid hown
              clear hown ey
              generalize chL xs t k = acc at *
              go_wp2_with fail
              (with_reducible refine (HM.out _ HVr.out).mono ?_)
              rintro e w' ⟨rfl, rfl⟩
              go_wp2
              exact ⟨⟨j, by omega, by simp, by rw [HE.out]; exact HOWN.out, hb⟩, by simp [intOf]; omega⟩
          · have HE := Lib.hid (show xs.length - 1 = k by have := HJ.out; have := HK.out; omega)
            have hji : ¬ (j : Int) < (xs.length : Int) := by omega
            have HOW := Lib.hid (OwnI.of_row hown)
            clear hown
            generalize hac : chL xs t k = acc at *
            have HAC := Lib.hid hac
            clear hac
            go_wp2
            go_ret
            exact ⟨_, rfl, by rw [HP.out, HE.out, HAC.out]; exact HOW.out, hb⟩

/-- Vertices without children among the first i. -/
def lfN (xs : List Int) : Nat → Nat
  | 0 => 0
  | i + 1 => lfN xs i + if (childrenP xs i).length = 0 then 1 else 0
theorem lfN_le (xs : List Int) (i : Nat) : lfN xs i ≤ i := by
  induction i with
  | zero => exact Nat.le_refl _
  | succ i ih => rw [lfN]; split <;> omega
def leavesP (xs : List Int) : Int := if planeB xs = true then (lfN xs xs.length : Int) else 0

set_option maxRecDepth 100000 in
set_option maxHeartbeats 1600000 in
theorem leavesOf (v : Value) (xs : List Int) (lo hi : Nat) (w : World) (hv : OwnI w lo hi v xs) (hhi : hi ≤ w.heap.size) (hl : xs.length ≤ 1099511627776) :
    Calls Try.prog 24 #[v] w fun e w' => e = .returned (.int .i64 (leavesP xs)) ∧ Below w.heap.size w w' := by
  have HM := Lib.hid (fun w' (h : OwnI w' lo hi v xs) => isPlane v xs lo hi w' h hl)
  have HC := Lib.hid (fun t w' (h : OwnI w' lo hi v xs) (hh : hi ≤ w'.heap.size) => childrenOf v xs t lo hi w' h hh hl)
  obtain ⟨A1, c1, rfl, k1⟩ := id hv
  clear k1
  have HV := Lib.hid hv
  clear hv
  rcases hp : planeB xs with _ | _
  · have HP := Lib.hid (show leavesP xs = 0 from if_neg (by simp [hp]))
    rw [hp] at HM
    clear hp
    go_enter Try.func24, Try.ntmps24
    go_wp2
    refine wp_loop_rounds 1 ?_
    rw [rounds_succ]
    by_cases h0 : xs.length = 0
    · have h0' : ¬ (0 : Int) < (xs.length : Int) := by omega
      have HZ := Lib.hid h0
      clear h0
      go_wp2
      go_ret
      exact ⟨ret_int HP.out.symm, Below.refl _ _⟩
    · have h0' : (0 : Int) < (xs.length : Int) := by omega
      have HZ := Lib.hid h0
      clear h0
      go_wp2_with fail
      (with_reducible refine (HM.out _ HV.out).mono ?_)
      rintro e w' ⟨rfl, rfl⟩
      go_wp2
      go_ret
      exact ⟨ret_int HP.out.symm, Below.refl _ _⟩
  · have HP := Lib.hid (show leavesP xs = (lfN xs xs.length : Int) from if_pos hp)
    obtain ⟨⟨l1, l9⟩, -⟩ := plane_yes hp
    rw [hp] at HM
    clear hp
    go_enter Try.func24, Try.ntmps24
    go_wp2
    go_loopw [3, 4] (fun x y wr => ∃ i : Nat, i ≤ xs.length ∧ y = .int .i64 i ∧ x = .int .i64 (lfN xs i : Nat) ∧ Below w.heap.size w wr) (fun _ y _ => xs.length - (intOf y).toNat)
    case atStart => exact ⟨0, Nat.zero_le _, rfl, rfl, Below.refl _ _⟩
    case round =>
      obtain ⟨i, hi, rfl, rfl, hb⟩ := hrel
      have hB := hb.size
      have hle := lfN_le xs i
      have HVr := Lib.hid (HV.out.keep hb hhi)
      have HSU := Lib.hid (show lfN xs (i + 1) = lfN xs i + if (childrenP xs i).length = 0 then 1 else 0 from rfl)
      have HB := Lib.hid hb
      by_cases hlt : i < xs.length
      · have hii : (i : Int) < (xs.length : Int) := by omega
        have HCI := Lib.hid (HC.out i wr HVr.out (by omega))
        clear hb
        generalize lfN xs i = m at *
        generalize childrenP xs i = ch at *
        go_wp2_with fail
        (with_reducible refine (HM.out _ HVr.out).mono ?_)
        rintro e w' ⟨rfl, rfl⟩
        go_wp2_with fail
        (with_reducible refine HCI.out.mono ?_)
        rintro e w' ⟨v', rfl, ho, hb⟩
        obtain ⟨A2, c2, rfl, -⟩ := ho
        by_cases hc : ch.length = 0
        · have hcb : ((ch.length : Int) == 0) = true := by simp [hc]
          have HE := Lib.hid (HSU.out.trans (by rw [if_pos hc]))
          clear hc
          go_wp2
          exact ⟨⟨i + 1, by omega, by simp, by rw [HE.out]; congr 1, HB.out.trans (hb.mono hB)⟩, by simp [intOf]; omega⟩
        · have hcb : ((ch.length : Int) == 0) = false := beq_eq_false_iff_ne.2 (by omega)
          have HE := Lib.hid (HSU.out.trans (by rw [if_neg hc]))
          clear hc
          go_wp2
          exact ⟨⟨i + 1, by omega, by simp, by rw [HE.out]; rfl, HB.out.trans (hb.mono hB)⟩, by simp [intOf]; omega⟩
      · obtain rfl : i = xs.length := by omega
        go_wp2
        go_ret
        exact ⟨ret_int HP.out.symm, hb⟩

end Go.Proofs.Ytlnogepmkbibcaa
