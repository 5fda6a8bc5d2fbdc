/- The program's IsPlane, LevelsOf, ChildrenOf, LeavesOf. -/
import Derived.Test.YtlnogepmkbibcaaImpl5B
namespace Go.Proofs.Ytlnogepmkbibcaa
open Go.ChangeShapes Go.WideShapes Go.ChangeAt Go.RowKit
open Go.PlainAid (bt bt_nonneg bt_le get_bt)
set_option linter.unusedVariables false

set_option maxRecDepth 100000 in
theorem isPlaneI (A : Option Addr) (xs : List Int) (cap lo hi : Nat) (w : World) (hv : OwnI w lo hi (.slice A xs.length cap) xs) (hhi : hi ≤ w.heap.size) (hcap : xs.length ≤ cap) :
    Calls Try.prog 12 #[.slice A xs.length cap] w fun e w' => e = .returned (.bool (planeB xs)) ∧ Below w.heap.size w w' := by
  have HV := Lib.hid (verticesOf A xs cap lo hi w hv hhi hcap)
  clear hv
  go_enter Try.func12, Try.ntmps12
  go_wp2_with fail
  (with_reducible refine HV.out.mono ?_)
  rintro e w1 ⟨v, gs, rfl, hr, h1, h0, hb⟩
  rcases hp : planeB xs with _ | _
  · obtain ⟨rfl, rfl⟩ := h0 hp
    have HP := Lib.hid hp
    clear h1 hr hp h0
    go_wp2
    go_ret
    exact ⟨ret_bool HP.out.symm, hb⟩
  · obtain ⟨hl, hvs⟩ := h1 hp
    have hlen := hvs.len.1
    obtain ⟨g, c, rfl, -⟩ := hr.open_ (by omega)
    have hpos : (0 : Int) < (gs.length : Int) := by omega
    have HP := Lib.hid hp
    clear h1 hr hp h0 hvs hl
    go_wp2
    go_ret
    exact ⟨ret_bool (by rw [HP.out]; simp; omega), hb⟩

theorem lvL_snoc (xs : List Int) (i : Nat) : lvL xs (i + 1) = lvL xs i ++ [lev xs i] := by
  have hl := lvL_len xs i
  unfold lev
  rw [lvL, ga_new _ _ _ _ hl.symm]
set_option maxRecDepth 100000 in
set_option maxHeartbeats 1600000 in
theorem levelsOfI (A : Option Addr) (xs : List Int) (cap lo hi : Nat) (w : World) (hv : OwnI w lo hi (.slice A xs.length cap) xs) (hhi : hi ≤ w.heap.size) (hcap : xs.length ≤ cap) :
    Calls Try.prog 21 #[.slice A xs.length cap] w (AnsI (levelsP xs) w) := by
  have HV := Lib.hid (verticesOf A xs cap lo hi w hv hhi hcap)
  clear hv
  go_enter Try.func21, Try.ntmps21
  go_wp2_with fail
  (with_reducible refine HV.out.mono ?_)
  rintro e w1 ⟨v, gs, rfl, hr, h1, h0, hb⟩
  have z1 := hb.size
  rcases hp : planeB xs with _ | _
  · have HP := Lib.hid (show levelsP xs = [] from if_neg (by simp [hp]))
    obtain ⟨rfl, rfl⟩ := h0 hp
    clear h1 hr hp h0
    go_wp2
    refine wp_loop_rounds 1 ?_
    rw [rounds_succ]
    go_wp2
    go_ret
    exact ⟨_, rfl, by rw [HP.out]; exact ⟨none, 0, rfl, .inl rfl⟩, hb⟩
  · have HP := Lib.hid (show levelsP xs = lvL xs xs.length from if_pos hp)
    obtain ⟨hl, hvs⟩ := h1 hp
    have h9 := (plane_yes hp).1
    have hlen := hvs.len.1
    obtain ⟨g, c, rfl, hg1, hg2, hc⟩ := hr.open_ (by omega)
    have HVS := Lib.hid hvs
    have HC := Lib.hid hc
    have HL := Lib.hid hl
    have hle : gs.length ≤ 9 := by omega
    clear h1 hr hp h0 hvs hc hl
    go_wp2
    go_loopw [3, 9] (fun u y wr => ∃ i : Nat, i ≤ gs.length ∧ y = .int .i64 i ∧ wr.ownsRow w1.heap.size 3 1 u i ((lvL xs i).map (Value.int .i64)) ∧ Below w1.heap.size w1 wr) (fun _ y _ => gs.length - (intOf y).toNat)
    case atStart => exact ⟨0, Nat.zero_le _, rfl, World.ownsRow_nil _ _ _ _, Below.refl _ _⟩
    case round =>
      obtain ⟨i, hi, rfl, hown, hbr⟩ := hrel
      have hB := hbr.size
      by_cases hlt : i < gs.length
      · have hii : (i : Int) < (gs.length : Int) := by omega
        have hc0 := (hbr.cell (p := ⟨g, i, none⟩) hg2).trans (HC.out i hlt)
        have hc2 := (HVS.out.keep hbr (Nat.le_refl _)).c2 i hlt
        have HSN := Lib.hid (lvL_snoc xs i)
        have hle2 := lvL_len xs i
        generalize lev xs i = y at *
        generalize gs.getD i 0 = q at *
        unfold pA at hc0
        go_wp2_with (at_builtin; go_must (refine wpAppInt rfl _ _ rfl w1.heap.size u3 _ (lvL xs i) rfl (hown.alloc _) wr.heap.size _ _ rfl (cell_one _ _ _) (by omega) (base_up hB) ?_); intro v' w' hown' hg')
        go_roundw
        case rel => exact ⟨i + 1, by omega, by simp, by rw [HSN.out]; exact hown', (hbr.alloc hB _).grown hg' (base_up hB) (fun k hk => (hown.lt k hk).1)⟩
        case measure => simp [intOf]; omega
      · obtain rfl : i = gs.length := by omega
        go_wp2
        go_ret
        exact ⟨_, rfl, by rw [HP.out, ← HL.out]; exact (OwnI.of_row (by rw [← lvL_len xs gs.length] at hown; simpa [lvL_len] using hown)).wide z1 (Nat.le_refl _), hb.trans (hbr.mono z1)⟩

set_option maxRecDepth 100000 in
set_option maxHeartbeats 1600000 in
theorem childrenOfI (A : Option Addr) (xs : List Int) (t : Int) (cap lo hi : Nat) (w : World) (hv : OwnI w lo hi (.slice A xs.length cap) xs) (hhi : hi ≤ w.heap.size) (hcap : xs.length ≤ cap) :
    Calls Try.prog 23 #[.slice A xs.length cap, .int .i64 t] w (AnsI (childrenP xs t) w) := by
  have HM := Lib.hid (isPlaneI A xs cap lo hi w hv hhi hcap)
  have HO := Lib.hid hv
  clear hv
  rcases hp : planeB xs with _ | _
  · have HP := Lib.hid (show childrenP xs t = [] from if_neg (by rw [hp]; simp))
    rw [hp] at HM
    clear hp
    go_enter Try.func23, Try.ntmps23
    go_wp2_with fail
    (with_reducible refine HM.out.mono ?_)
    rintro e w1 ⟨rfl, hb⟩
    go_wp2
    go_ret
    exact ⟨_, rfl, by rw [HP.out]; exact ⟨none, 0, rfl, .inl rfl⟩, hb⟩
  by_cases ht : t < 0
  · have HP := Lib.hid (show childrenP xs t = [] from if_neg (by omega))
    rw [hp] at HM
    clear hp
    go_enter Try.func23, Try.ntmps23
    go_wp2_with fail
    (with_reducible refine HM.out.mono ?_)
    rintro e w1 ⟨rfl, hb⟩
    go_wp2
    go_ret
    exact ⟨_, rfl, by rw [HP.out]; exact ⟨none, 0, rfl, .inl rfl⟩, hb⟩
  · have HP := Lib.hid (show childrenP xs t = chL xs t (xs.length - 1) from if_pos ⟨hp, by omega⟩)
    have h9 := (plane_yes hp).1
    have HF := Lib.hid (plane_first hp)
    rw [hp] at HM
    clear hp
    go_enter Try.func23, Try.ntmps23
    go_wp2_with fail
    (with_reducible refine HM.out.mono ?_)
    rintro e w1 ⟨rfl, hb⟩
    have z1 := hb.size
    have HO1 := Lib.hid (HO.out.keep hb hhi)
    go_wp2
    go_loopw [5, 17] (fun u y wr => ∃ i : Nat, i ≤ xs.length ∧ y = .int .i64 i ∧ wr.ownsRow w1.heap.size 3 1 u (chL xs t (i - 1)).length ((chL xs t (i - 1)).map (Value.int .i64)) ∧ Below w1.heap.size w1 wr) (fun _ y _ => xs.length - (intOf y).toNat)
    case atStart => exact ⟨0, Nat.zero_le _, rfl, World.ownsRow_nil _ _ _ _, Below.refl _ _⟩
    case round =>
      obtain ⟨i, hi, rfl, hown, hbr⟩ := hrel
      have hB := hbr.size
      by_cases hlt : i < xs.length
      · have hii : (i : Int) < (xs.length : Int) := by omega
        have hle := chL_le xs t (i - 1)
        obtain ⟨g2, p2, e2, -, -, hc, -⟩ := (HO1.out.keep hbr (Nat.le_trans hhi z1)).cell hlt
        simp only [Value.slice.injEq] at e2
        obtain ⟨rfl, -, -⟩ := e2
        have HST := Lib.hid (show chL xs t (i + 1 - 1) = if xs.getD i 0 = t then chL xs t (i - 1) ++ [(i : Int)] else chL xs t (i - 1) by
          rw [Nat.add_sub_cancel]
          by_cases h0 : i = 0
          · subst h0
            rw [if_neg (by rw [HF.out]; omega)]
          · obtain ⟨k, rfl⟩ : ∃ k, i = k + 1 := ⟨i - 1, by omega⟩
            rw [Nat.add_sub_cancel, chL])
        generalize xs.getD i 0 = y at *
        generalize chL xs t (i - 1) = acc at *
        by_cases e : y = t
        · have he : (y == t) = true := by simp [e]
          have HS2 := Lib.hid (HST.out.trans (if_pos e))
          clear HST e
          go_wp2_with (at_builtin; go_must (refine wpAppInt rfl _ _ rfl w1.heap.size u5 _ _ rfl (hown.alloc _) wr.heap.size _ _ rfl (cell_one _ _ _) (by omega) (base_up hB) ?_); intro v' w' hown' hg')
          go_roundw
          case rel => exact ⟨i + 1, by omega, by simp, by rw [HS2.out]; simpa using hown', (hbr.alloc hB _).grown hg' (base_up hB) (fun k hk => (hown.lt k hk).1)⟩
          case measure => simp [intOf]; omega
        · have he : (y == t) = false := beq_eq_false_iff_ne.2 e
          have HS2 := Lib.hid (HST.out.trans (if_neg e))
          have HOWN := Lib.hid hown
          clear HST e hown
          go_wp2
          go_roundw
          case rel => exact ⟨i + 1, by omega, by simp, by rw [HS2.out]; exact HOWN.out, hbr⟩
          case measure => simp [intOf]; omega
      · obtain rfl : i = xs.length := by omega
        go_wp2
        go_ret
        exact ⟨_, rfl, by rw [HP.out]; exact (OwnI.of_row hown).wide z1 (Nat.le_refl _), hb.trans (hbr.mono z1)⟩

/-- The first place of y from a place on, or -1. -/
def idxL (y : Int) : List Int → Nat → Int
  | [], _ => -1
  | x :: l, i => if x = y then (i : Int) else idxL y l (i + 1)
theorem idxL_mem (y : Int) : ∀ (l : List Int) (i : Nat), idxL y l i = -1 ∧ y ∉ l ∨ 0 ≤ idxL y l i ∧ y ∈ l := by
  intro l
  induction l with
  | nil => intro i; exact .inl ⟨rfl, by simp⟩
  | cons x l ih =>
    intro i
    rw [idxL]
    split
    · rename_i h; exact .inr ⟨by omega, by simp [h]⟩
    · rename_i h
      rcases ih (i + 1) with ⟨a, b⟩ | ⟨a, b⟩
      · exact .inl ⟨a, by simp only [List.mem_cons, not_or]; exact ⟨fun e => h e.symm, b⟩⟩
      · exact .inr ⟨a, by simp [b]⟩
set_option maxRecDepth 100000 in
set_option maxHeartbeats 800000 in
theorem indexC (A : Option Addr) (xs : List Int) (y : Int) (cap lo hi : Nat) (w : World) (hv : OwnI w lo hi (.slice A xs.length cap) xs) (hl : xs.length ≤ 1099511627776) :
    Calls Try.prog 45 #[.slice A xs.length cap, .int .i64 y] w fun e w' => e = .returned (.int .i64 (idxL y xs 0)) ∧ w = w' := by
  have HO := Lib.hid hv
  clear hv
  go_enter Try.func45, Try.ntmps45
  go_wp2
  go_loop [8] (fun x => ∃ i : Nat, i ≤ xs.length ∧ x = .int .i64 i ∧ idxL y xs 0 = idxL y (xs.drop i) i) (fun x => xs.length - (intOf x).toNat)
  case atStart => exact ⟨0, Nat.zero_le _, rfl, rfl⟩
  case round =>
    obtain ⟨i, hi, rfl, ha⟩ := hrel
    have HA := Lib.hid ha
    clear ha
    by_cases hlt : i < xs.length
    · have HD := Lib.hid (drop_int xs i hlt)
      obtain ⟨g1, p1, e1, -, -, hc1, -⟩ := HO.out.cell hlt
      simp only [Value.slice.injEq] at e1
      obtain ⟨rfl, -, -⟩ := e1
      have hii : (i : Int) < (xs.length : Int) := by omega
      generalize xs.getD i 0 = x at hc1 HD
      by_cases e : x = y
      · have he : (y == x) = true := by simp [e]
        have HE := Lib.hid (show idxL y xs 0 = i by rw [HA.out, HD.out, idxL, if_pos e])
        clear e
        go_wp2
        go_ret
        exact ⟨ret_int HE.out.symm, rfl⟩
      · have he : (y == x) = false := beq_eq_false_iff_ne.2 fun h => e h.symm
        have HE := Lib.hid (show idxL y xs 0 = idxL y (xs.drop (i + 1)) (i + 1) by rw [HA.out, HD.out, idxL, if_neg e])
        clear e
        go_wp2
        exact ⟨⟨i + 1, by omega, by simp, HE.out⟩, by simp [intOf]; omega⟩
    · obtain rfl : i = xs.length := by omega
      have HE := Lib.hid (show idxL y xs 0 = -1 by rw [HA.out, List.drop_length]; rfl)
      go_wp2
      go_ret
      exact ⟨ret_int HE.out.symm, rfl⟩
set_option maxRecDepth 100000 in
set_option maxHeartbeats 800000 in
theorem containsC (A : Option Addr) (xs : List Int) (y : Int) (cap lo hi : Nat) (w : World) (hv : OwnI w lo hi (.slice A xs.length cap) xs) (hl : xs.length ≤ 1099511627776) :
    Calls Try.prog 34 #[.slice A xs.length cap, .int .i64 y] w fun e w' => e = .returned (.bool (decide (y ∈ xs))) ∧ w = w' := by
  have HI := Lib.hid (indexC A xs y cap lo hi w hv hl)
  rcases idxL_mem y xs 0 with ⟨a, b⟩ | ⟨a, b⟩
  · rw [a] at HI
    rw [decide_eq_false b]
    clear hv b a
    go_enter Try.func34, Try.ntmps34
    go_wp2_with fail
    (with_reducible refine HI.out.mono ?_)
    rintro e w1 ⟨rfl, rfl⟩
    go_wp2
    go_ret
    exact ⟨rfl, rfl⟩
  · generalize idxL y xs 0 = k at *
    rw [decide_eq_true b]
    clear hv b
    go_enter Try.func34, Try.ntmps34
    go_wp2_with fail
    (with_reducible refine HI.out.mono ?_)
    rintro e w1 ⟨rfl, rfl⟩
    go_wp2
    go_ret
    exact ⟨rfl, rfl⟩

theorem chL_none (xs : List Int) (v : Int) : ∀ k, k < xs.length → ((chL xs v k).length = 0 ↔ ∀ j, 0 < j → j ≤ k → xs.getD j 0 ≠ v) := by
  intro k
  induction k with
  | zero => intro _; exact ⟨fun _ j h1 h2 => by omega, fun _ => rfl⟩
  | succ k ih =>
    intro hk
    rw [chL]
    split
    · rename_i h
      constructor
      · intro h'; simp at h'
      · intro h'; exact absurd h (h' (k + 1) (by omega) (Nat.le_refl _))
    · rename_i h
      rw [ih (by omega)]
      constructor
      · intro h' j h1 h2
        by_cases e : j = k + 1
        · subst e; exact h
        · exact h' j h1 (by omega)
      · intro h' j h1 h2; exact h' j h1 (by omega)
theorem leaf_iff {xs : List Int} (hp : planeB xs = true) (i : Nat) : (childrenP xs i).length = 0 ↔ (i : Int) ∉ xs := by
  have h9 := (plane_yes hp).1
  have hf := plane_first hp
  have : childrenP xs i = chL xs i (xs.length - 1) := if_pos ⟨hp, by omega⟩
  rw [this, chL_none xs i _ (by omega)]
  constructor
  · intro h hm
    obtain ⟨j, hj, e⟩ := List.mem_iff_getElem.1 hm
    have he : xs.getD j 0 = (i : Int) := by rw [List.getD_eq_getElem?_getD, List.getElem?_eq_getElem hj]; exact e
    by_cases h0 : j = 0
    · subst h0; omega
    · exact h j (by omega) (by omega) he
  · intro h j h1 h2 e
    apply h
    rw [← e, List.getD_eq_getElem?_getD, List.getElem?_eq_getElem (show j < xs.length by omega)]
    exact List.getElem_mem _
set_option maxRecDepth 100000 in
set_option maxHeartbeats 1600000 in
theorem leavesOfI (A : Option Addr) (xs : List Int) (cap lo hi : Nat) (w : World) (hv : OwnI w lo hi (.slice A xs.length cap) xs) (hhi : hi ≤ w.heap.size) (hcap : xs.length ≤ cap) :
    Calls Try.prog 25 #[.slice A xs.length cap] w fun e w' => e = .returned (.int .i64 (leavesP xs)) ∧ Below w.heap.size w w' := by
  have HM := Lib.hid (isPlaneI A xs cap lo hi w hv hhi hcap)
  have HO := Lib.hid hv
  clear hv
  rcases hp : planeB xs with _ | _
  · have HP := Lib.hid (show leavesP xs = 0 from if_neg (by rw [hp]; simp))
    rw [hp] at HM
    clear hp
    go_enter Try.func25, Try.ntmps25
    go_wp2_with fail
    (with_reducible refine HM.out.mono ?_)
    rintro e w1 ⟨rfl, hb⟩
    go_wp2
    go_ret
    exact ⟨ret_int HP.out.symm, hb⟩
  · have HP := Lib.hid (show leavesP xs = (lfN xs xs.length : Int) from if_pos hp)
    have h9 := (plane_yes hp).1
    have HLF := Lib.hid fun i => leaf_iff hp i
    rw [hp] at HM
    clear hp
    go_enter Try.func25, Try.ntmps25
    go_wp2_with fail
    (with_reducible refine HM.out.mono ?_)
    rintro e w1 ⟨rfl, hb⟩
    have z1 := hb.size
    have HO1 := Lib.hid (HO.out.keep hb hhi)
    go_wp2
    go_loop [3, 10] (fun x y => ∃ i : Nat, i ≤ xs.length ∧ y = .int .i64 i ∧ x = .int .i64 (lfN xs i)) (fun _ y => xs.length - (intOf y).toNat)
    case atStart => exact ⟨0, Nat.zero_le _, rfl, rfl⟩
    case round =>
      obtain ⟨i, hil, rfl, rfl⟩ := hrel
      by_cases hlt : i < xs.length
      · have hii : (i : Int) < (xs.length : Int) := by omega
        have HC := Lib.hid (containsC A xs (i : Int) cap lo hi w1 HO1.out (by omega))
        have hle := lfN_le xs i
        have HST := Lib.hid (show lfN xs (i + 1) = lfN xs i + if (childrenP xs i).length = 0 then 1 else 0 from rfl)
        by_cases hm : (i : Int) ∈ xs
        · rw [decide_eq_true hm] at HC
          have HS2 := Lib.hid (show lfN xs (i + 1) = lfN xs i by rw [HST.out, if_neg (fun h => (HLF.out i).1 h hm)]; rfl)
          clear HST hm
          generalize lfN xs i = k at *
          go_wp2_with fail
          (with_reducible refine HC.out.mono ?_)
          rintro e w2 ⟨rfl, rfl⟩
          go_wp2
          exact ⟨⟨i + 1, by omega, by simp, by rw [HS2.out]⟩, by simp [intOf]; omega⟩
        · rw [decide_eq_false hm] at HC
          have HS2 := Lib.hid (show lfN xs (i + 1) = lfN xs i + 1 by rw [HST.out, if_pos ((HLF.out i).2 hm)])
          clear HST hm
          generalize lfN xs i = k at *
          have hkw : IntKind.i64.wrap ((k : Int) + 1) = (k : Int) + 1 := IntWalk.i64_in _ (by omega)
          go_wp2_with fail
          (with_reducible refine HC.out.mono ?_)
          rintro e w2 ⟨rfl, rfl⟩
          go_wp2
          exact ⟨⟨i + 1, by omega, by simp, by rw [HS2.out]; simp⟩, by simp [intOf]; omega⟩
      · obtain rfl : i = xs.length := by omega
        go_wp2
        go_ret
        exact ⟨ret_int HP.out.symm, hb⟩

end Go.Proofs.Ytlnogepmkbibcaa
