/- The contracts of the model's TurnMatching and PathOfMatching. -/
import Derived.Test.YtcckpodpgenapaaSpec9A
import Derived.Test.YtcckpodpgenapaaSpec3A
import Derived.BigRegion
namespace Go.Proofs.Ytcckpodpgenapaa
open Go.ChangeShapes Go.WideShapes Go.ChangeAt Go.RowKit
open Go.PlainAid (bt bt_nonneg bt_le get_bt)
set_option linter.unusedVariables false

/-- Where a point goes, and where it came from. -/
def tgt (n K i : Nat) : Nat := if K ≤ i then i - K else i + n - K
def src (n K q : Nat) : Nat := if q + K < n then q + K else q + K - n
theorem src_tgt {n K i : Nat} (hi : i < n) (hK : K < n) : src n K (tgt n K i) = i := by unfold src tgt; split <;> split <;> omega
theorem tgt_of {n K i q : Nat} (hq : q < n) (hK : K < n) (h : src n K q = i) : q = tgt n K i := by unfold src at h; unfold tgt; split at h <;> split <;> omega
theorem tgt_lt {n K i : Nat} (hi : i < n) (hK : K < n) : tgt n K i < n := by unfold tgt; split <;> omega
def tuV (n K : Nat) (y : Int) : Int := if (K : Int) ≤ y then y - K else y - K + n
theorem tuV_mod {n K : Nat} {y : Int} (h0 : 0 ≤ y) (h1 : y < n) (hK : K < n) : (y - (K : Int) + (n : Int)) % (n : Int) = tuV n K y := by
  unfold tuV
  split
  · rw [show y - (K : Int) + n = (y - K) + n * 1 by omega, Int.add_mul_emod_self_left, Int.emod_eq_of_lt (by omega) (by omega)]
  · rw [Int.emod_eq_of_lt (by omega) (by omega)]
theorem tuV_tgt {n K i : Nat} (hi : i < n) (hK : K < n) : tuV n K (i : Int) = (tgt n K i : Int) := by unfold tuV tgt; split <;> split <;> omega
/-- The matching carried on by K. -/
def turnL (xs : List Int) (K : Nat) : List Int := (List.range xs.length).map fun q => tuV xs.length K (xs.getD (src xs.length K q) 0)
theorem turnL_len (xs : List Int) (K : Nat) : (turnL xs K).length = xs.length := by simp [turnL]
theorem turnL_at (xs : List Int) (K q : Nat) (h : q < xs.length) : (turnL xs K).getD q 0 = tuV xs.length K (xs.getD (src xs.length K q) 0) := by simp [turnL, List.getD, h]
/-- The row when the first i points have been carried. -/
def tuF (xs : List Int) (K i : Nat) : Nat → Int := fun q => if src xs.length K q < i then tuV xs.length K (xs.getD (src xs.length K q) 0) else 0
def turnOk (xs : List Int) (k : Int) : Bool := matchP xs && decide (0 ≤ k ∧ k ≤ max 0 ((xs.length : Int) - 1))
def turnP (xs : List Int) (k : Int) : List Int := if turnOk xs k = true then turnL xs k.toNat else []
theorem OwnI.of_row' {w : World} {lo hi g d c : Nat} {f : Nat → Int} {xs : List Int} (h : RowI w g d f) (hl : xs.length = d + 1) (hx : ∀ j, j ≤ d → xs.getD j 0 = f j) (h1 : lo ≤ g) (h2 : g < hi) : OwnI w lo hi (.slice (some ⟨g, 0, none⟩) (d + 1) c) xs := by
  obtain ⟨C, h3, h4⟩ := h
  refine ⟨_, c, by rw [hl], .inr ⟨g, C, h1, h2, rfl, h3, fun j hj => ?_⟩⟩
  rw [h4 j (by omega), hx j (by omega)]
theorem ret_ib {A A' : Value} {x y : Bool} (h : A = A') (h' : x = y) : Ending.returned (.tuple #[A, .bool x]) = .returned (.tuple #[A', .bool y]) := by rw [h, h']

set_option maxRecDepth 100000 in
set_option maxHeartbeats 3200000 in
theorem turnMatching (v : Value) (xs : List Int) (k : Int) (lo hi : Nat) (w : World) (hv : OwnI w lo hi v xs) (hhi : hi ≤ w.heap.size) (hl : xs.length ≤ 1099511627776) (hk0 : -9223372036854775808 ≤ k) (hk1 : k ≤ 9223372036854775807) :
    Calls Try.prog 54 #[v, .int .i64 k] w (AnsIB (turnP xs k) (turnOk xs k) w) := by
  have HM := Lib.hid (isMatching v xs lo hi w hv hl)
  obtain ⟨A1, c1, rfl, k1⟩ := id hv
  clear k1
  have HV := Lib.hid hv
  clear hv
  have hmax : max (0 : Int) ((xs.length : Int) - 1) = if 0 < (xs.length : Int) - 1 then (xs.length : Int) - 1 else 0 := by split <;> omega
  rcases hm : matchP xs with _ | _
  · have HO := Lib.hid (show turnOk xs k = false by unfold turnOk; rw [hm]; rfl)
    have HP := Lib.hid (show turnP xs k = [] from if_neg (by rw [HO.out]; simp))
    rw [hm] at HM
    clear hm hmax
    go_enter Try.func54, Try.ntmps54
    go_wp2_with fail
    (with_reducible refine HM.out.mono ?_)
    rintro e w' ⟨rfl, rfl⟩
    go_wp2
    go_ret2
    exact ⟨_, ret_ib rfl HO.out.symm, by rw [HP.out]; exact ⟨_, _, rfl, .inl rfl⟩, (Below.refl _ _).alloc (Nat.le_refl _) _⟩
  · have h16 := (match_yes hm).1
    have hmt := (match_yes hm).2
    rw [hm] at HM
    by_cases hL : (0 : Int) < (xs.length : Int) - 1
    · have hmx : max (0 : Int) ((xs.length : Int) - 1) = (xs.length : Int) - 1 := by omega
      by_cases hk : 0 ≤ k ∧ k ≤ (xs.length : Int) - 1
      · obtain ⟨K, rfl⟩ : ∃ K : Nat, k = K := ⟨k.toNat, by omega⟩
        have HO := Lib.hid (show turnOk xs K = true by unfold turnOk; rw [hm, hmx, decide_eq_true hk]; rfl)
        have HP := Lib.hid (show turnP xs K = turnL xs K from if_pos HO.out)
        obtain ⟨kk0, kk1⟩ := hk
        have hK : K < xs.length := by omega
        have HIN := Lib.hid (l1In_yes (K : Int) 0 ((xs.length : Int) - 1) w (by omega) kk1)
        have HMT := Lib.hid hmt
        clear hm hmax hmx hmt
        obtain ⟨i0, hi0, hz0, hz1, hz2⟩ := info_parts info3
        go_enter Try.func54, Try.ntmps54
        go_wp2_with fail
        (with_reducible refine HM.out.mono ?_)
        rintro e w' ⟨rfl, rfl⟩
        go_wp2_with fail
        (with_reducible refine HIN.out.mono ?_)
        rintro e w' ⟨rfl, rfl⟩
        go_wp2_with (at_make; go_must (refine wpList_make_full _ rfl _ _ 22 rfl w.heap.size 3 i0 (.int .i64 0) 1 Try.underlying22 hi0 hz0 hz1 .i64 .i64 (xs.length : Int) (xs.length : Int) xs.length rfl rfl rfl rfl (by rw [hz2]; omega) (by unfold maxLen; omega) (Nat.le_refl _) ?_); intro w2 hown1 hgrow1)
        obtain ⟨d, hd⟩ : ∃ d, xs.length = d + 1 := ⟨xs.length - 1, by omega⟩
        rw [hd] at hown1
        have HR := Lib.hid (RowI.made hown1)
        rw [← hd] at hown1
        have HD := Lib.hid hd
        have HB2 := Lib.hid ((Below.refl w.heap.size w).grown hgrow1 (Nat.le_refl _) (fun k hk => by cases hk))
        have z2 := (hown1.lt w.heap.size rfl).2
        clear hown1 hgrow1 hd
        obtain ⟨g, hg⟩ : ∃ g, g = w.heap.size := ⟨_, rfl⟩
        rw [← hg] at HR z2
        rw [← hg]
        have HGE := Lib.hid hg
        clear hg
        go_loopw [8] (fun y wr => ∃ i : Nat, i ≤ xs.length ∧ y = .int .i64 i ∧ RowI wr g d (tuF xs K i) ∧ Below w.heap.size w wr) (fun y _ => xs.length - (intOf y).toNat)
        case atStart => exact ⟨0, Nat.zero_le _, rfl, HR.out.same (fun q _ => by simp [tuF]), HB2.out⟩
        case round =>
          obtain ⟨i, hi, rfl, hrow, hb⟩ := hrel
          have HROW := Lib.hid hrow
          have HB := Lib.hid hb
          have zr := hb.size
          by_cases hlt : i < xs.length
          · obtain ⟨m0, m1, -, -⟩ := HMT.out i hlt
            obtain ⟨g1, p1, e1, -, -, hc1, -⟩ := (HV.out.keep hb hhi).cell hlt
            simp only [Value.slice.injEq] at e1
            obtain ⟨rfl, -, rfl⟩ := e1
            clear hrow hb
            have HNX := Lib.hid (show tuF xs K (i + 1) (tgt xs.length K i) = tuV xs.length K (xs.getD i 0) by unfold tuF; rw [src_tgt hlt hK, if_pos (by omega)])
            have HOT := Lib.hid (show ∀ q, q ≤ d → q ≠ tgt xs.length K i → tuF xs K (i + 1) q = tuF xs K i q from fun q hq hne => by
              have hs : src xs.length K q ≠ i := fun h => hne (tgt_of (by have := HD.out; omega) hK h)
              unfold tuF
              by_cases h : src xs.length K q < i
              · rw [if_pos h, if_pos (by omega)]
              · rw [if_neg h, if_neg (by omega)])
            generalize xs.getD i 0 = y at hc1 HNX m0 m1
            have htl := tgt_lt hlt hK
            have t1 := tuV_mod (n := xs.length) (K := K) (y := (i : Int)) (by omega) (by omega) hK
            have t2 := tuV_mod (n := xs.length) (K := K) (y := y) m0 (by omega) hK
            rw [tuV_tgt hlt hK] at t1
            have hv0 : 0 ≤ tuV xs.length K y ∧ tuV xs.length K y ≤ 16 := by unfold tuV; split <;> omega
            generalize tuV xs.length K y = yv at *
            generalize tgt xs.length K i = tq at *
            have t1' : ((i : Int) - (K : Int) + (xs.length : Int)).tmod (xs.length : Int) = (tq : Int) := by rw [IntWalk.rem_in _ _ (by omega)]; exact t1
            have t2' : (y - (K : Int) + (xs.length : Int)).tmod (xs.length : Int) = yv := by rw [IntWalk.rem_in _ _ (by omega)]; exact t2
            have w1 : IntKind.i64.wrap ((i : Int) - (K : Int)) = (i : Int) - (K : Int) := IntWalk.i64_in _ (by omega)
            have w2 : IntKind.i64.wrap ((i : Int) - (K : Int) + (xs.length : Int)) = (i : Int) - (K : Int) + (xs.length : Int) := IntWalk.i64_in _ (by omega)
            have w3 : IntKind.i64.wrap (y - (K : Int)) = y - (K : Int) := IntWalk.i64_in _ (by omega)
            have w4 : IntKind.i64.wrap (y - (K : Int) + (xs.length : Int)) = y - (K : Int) + (xs.length : Int) := IntWalk.i64_in _ (by omega)
            have w5 : IntKind.i64.wrap (tq : Int) = (tq : Int) := IntWalk.i64_in _ (by omega)
            have w6 : IntKind.i64.wrap yv = yv := IntWalk.i64_in _ (by omega)
            have e0 : ((xs.length : Int) == 0) = false := beq_eq_false_iff_ne.2 (by omega)
            have hii : (i : Int) < (xs.length : Int) := by omega
            have hti : (tq : Int) < (xs.length : Int) := by omega
            obtain ⟨hc2, hf2⟩ := HROW.out.cell (k := tq) (by have := HD.out; omega)
            generalize tuF xs K i tq = y0 at hc2
            go_wp2
            go_region
            all_goals go_wp2
            all_goals go_roundw
            case rel => exact ⟨i + 1, by omega, by simp, (HROW.out.set (f' := tuF xs K (i + 1)) (by have := HD.out; omega) HNX.out HOT.out).keep rfl, (HB.out.setCell (p := ⟨g, tq, none⟩) (show w.heap.size ≤ g from Nat.le_of_eq HGE.out.symm) _).drew⟩
            case measure => simp [intOf]; omega
          · obtain rfl : i = xs.length := by omega
            clear hrow hb
            go_wp2
            go_ret2
            refine ⟨_, ret_ib rfl HO.out.symm, ?_, HB.out⟩
            rw [HP.out]
            have := OwnI.of_row' HROW.out (xs := turnL xs K) (c := xs.length) (by rw [turnL_len]; exact HD.out) (fun q hq => by
              rw [turnL_at _ _ _ (by have := HD.out; omega)]
              unfold tuF
              rw [if_pos (by unfold src; have := HD.out; split <;> omega)]) (Nat.le_of_eq HGE.out.symm) HROW.out.lt
            rw [← HD.out] at this
            exact this
      · have HO := Lib.hid (show turnOk xs k = false by unfold turnOk; rw [hm, hmx, decide_eq_false hk]; rfl)
        have HP := Lib.hid (show turnP xs k = [] from if_neg (by rw [HO.out]; simp))
        have HIN := Lib.hid (show Calls Try.prog 45 #[.int .i64 k, .int .i64 0, .int .i64 ((xs.length : Int) - 1)] w fun e w' => e = .returned (.bool false) ∧ w = w' by
          by_cases h0 : k < 0
          · exact l1In_no1 _ _ _ _ h0
          · exact l1In_no2 _ _ _ _ (by omega) (by omega))
        clear hm hmax hmx hk
        go_enter Try.func54, Try.ntmps54
        go_wp2_with fail
        (with_reducible refine HM.out.mono ?_)
        rintro e w' ⟨rfl, rfl⟩
        go_wp2_with fail
        (with_reducible refine HIN.out.mono ?_)
        rintro e w' ⟨rfl, rfl⟩
        go_wp2
        go_ret2
        exact ⟨_, ret_ib rfl HO.out.symm, by rw [HP.out]; exact ⟨_, _, rfl, .inl rfl⟩, (Below.refl _ _).alloc (Nat.le_refl _) _⟩
    · have hxs : xs = [] := by
        rcases Nat.eq_zero_or_pos xs.length with h | h
        · exact List.eq_nil_of_length_eq_zero h
        · have h1 := hmt 0 h
          have h2 := h1.1
          have h3 := h1.2.1
          have h4 := h1.2.2.1
          omega
      subst hxs
      have hmx : max (0 : Int) ((([] : List Int).length : Int) - 1) = 0 := by decide
      have HM := Lib.hid (show Calls Try.prog 68 #[.slice A1 0 c1] w fun e w' => e = .returned (.bool true) ∧ w = w' from HM.out)
      by_cases hk : k = 0
      · subst hk
        have HO := Lib.hid (show turnOk [] 0 = true by unfold turnOk; rw [hm, hmx]; rfl)
        have HP := Lib.hid (show turnP [] 0 = [] by unfold turnP; rw [if_pos HO.out]; rfl)
        have HIN := Lib.hid (l1In_yes (0 : Int) 0 0 w (by omega) (by omega))
        clear hm hmax hmx hmt hL
        obtain ⟨i0, hi0, hz0, hz1, hz2⟩ := info_parts info3
        go_enter Try.func54, Try.ntmps54
        go_wp2_with fail
        (with_reducible refine HM.out.mono ?_)
        rintro e w' ⟨rfl, rfl⟩
        go_wp2_with fail
        (with_reducible refine HIN.out.mono ?_)
        rintro e w' ⟨rfl, rfl⟩
        go_wp2_with (at_make; go_must (refine wpList_make_full _ rfl _ _ 22 rfl w.heap.size 3 i0 (.int .i64 0) 1 Try.underlying22 hi0 hz0 hz1 .i64 .i64 (0 : Int) (0 : Int) 0 rfl rfl rfl rfl (by rw [hz2]; omega) (by unfold maxLen; omega) (Nat.le_refl _) ?_); intro w2 hown1 hgrow1)
        have HB2 := Lib.hid ((Below.refl w.heap.size w).grown hgrow1 (Nat.le_refl _) (fun k hk => by cases hk))
        clear hown1 hgrow1
        refine wp_loop_rounds 1 ?_
        rw [rounds_succ]
        go_wp2
        go_ret2
        exact ⟨_, ret_ib rfl HO.out.symm, by rw [HP.out]; exact ⟨_, _, rfl, .inl rfl⟩, HB2.out⟩
      · have HO := Lib.hid (show turnOk [] k = false by unfold turnOk; rw [hm, hmx, decide_eq_false (by omega)]; rfl)
        have HP := Lib.hid (show turnP [] k = [] from if_neg (by rw [HO.out]; simp))
        have HIN := Lib.hid (show Calls Try.prog 45 #[.int .i64 k, .int .i64 0, .int .i64 0] w fun e w' => e = .returned (.bool false) ∧ w = w' by
          by_cases h0 : k < 0
          · exact l1In_no1 _ _ _ _ h0
          · exact l1In_no2 _ _ _ _ (by omega) (by omega))
        clear hm hmax hmx hk hmt hL
        go_enter Try.func54, Try.ntmps54
        go_wp2_with fail
        (with_reducible refine HM.out.mono ?_)
        rintro e w' ⟨rfl, rfl⟩
        go_wp2_with fail
        (with_reducible refine HIN.out.mono ?_)
        rintro e w' ⟨rfl, rfl⟩
        go_wp2
        go_ret2
        exact ⟨_, ret_ib rfl HO.out.symm, by rw [HP.out]; exact ⟨_, _, rfl, .inl rfl⟩, (Below.refl _ _).alloc (Nat.le_refl _) _⟩

/-- u for each point whose partner comes later. -/
def pmL (xs : List Int) : Nat → List UInt8
  | 0 => []
  | j + 1 => pmL xs j ++ [if (j : Int) < xs.getD j 0 then 117 else 100]
theorem pmL_len (xs : List Int) (j : Nat) : (pmL xs j).length = j := by
  induction j with
  | zero => rfl
  | succ j ih => rw [pmL, List.length_append, ih]; rfl
def pomP (xs : List Int) : ByteArray := if (crossP xs == 0) = true then ⟨(pmL xs xs.length).toArray⟩ else ⟨#[]⟩
theorem cross_short {xs : List Int} (h : (crossP xs == 0) = true) : xs.length ≤ 16 := by
  unfold crossP at h
  rcases hm : matchP xs with _ | _
  · rw [hm] at h; simp at h
  · exact (match_yes hm).1

set_option maxRecDepth 100000 in
set_option maxHeartbeats 1600000 in
theorem pathOfMatching (v : Value) (xs : List Int) (lo hi : Nat) (w : World) (hv : OwnI w lo hi v xs) (hhi : hi ≤ w.heap.size) (hl : xs.length ≤ 1099511627776) :
    Calls Try.prog 50 #[v] w fun e w' => e = .returned (.tuple #[.string (pomP xs), .bool (crossP xs == 0)]) ∧ Below w.heap.size w w' := by
  have HN := Lib.hid (fun w' (h : OwnI w' lo hi v xs) => noncrossing v xs lo hi w' h hl)
  obtain ⟨A1, c1, rfl, k1⟩ := id hv
  clear k1
  have HV := Lib.hid hv
  clear hv
  rcases hc : crossP xs == 0 with _ | _
  · have HP := Lib.hid (show pomP xs = ⟨#[]⟩ from if_neg (by simp [hc]))
    rw [hc] at HN
    clear hc
    go_enter Try.func50, Try.ntmps50
    go_wp2
    refine wp_loop_rounds 1 ?_
    rw [rounds_succ]
    by_cases h0 : xs.length = 0
    · have h0' : ¬ (0 : Int) < (xs.length : Int) := by omega
      have HZ := Lib.hid h0
      clear h0
      go_wp2_with fail
      (with_reducible refine (HN.out _ HV.out).mono ?_)
      rintro e w1 ⟨rfl, hb⟩
      go_wp2
      go_ret2
      exact ⟨ret_sb HP.out.symm rfl, hb⟩
    · have h0' : (0 : Int) < (xs.length : Int) := by omega
      have HZ := Lib.hid h0
      clear h0
      go_wp2_with fail
      (with_reducible refine (HN.out _ HV.out).mono ?_)
      rintro e w1 ⟨rfl, hb1⟩
      have z1 := hb1.size
      go_wp2_with fail
      (with_reducible refine (HN.out _ (HV.out.keep hb1 hhi)).mono ?_)
      rintro e w2 ⟨rfl, hb2⟩
      go_wp2
      go_ret2
      exact ⟨ret_sb HP.out.symm rfl, hb1.trans (hb2.mono z1)⟩
  · have HP := Lib.hid (show pomP xs = ⟨(pmL xs xs.length).toArray⟩ from if_pos hc)
    have h16 := cross_short hc
    rw [hc] at HN
    clear hc
    go_enter Try.func50, Try.ntmps50
    go_wp2
    go_loopw [4, 5] (fun x y wr => ∃ j : Nat, j ≤ xs.length ∧ y = .int .i64 j ∧ x = .string ⟨(pmL xs j).toArray⟩ ∧ Below w.heap.size w wr) (fun _ y _ => xs.length - (intOf y).toNat)
    case atStart => exact ⟨0, Nat.zero_le _, rfl, rfl, Below.refl _ _⟩
    case round =>
      obtain ⟨j, hj, rfl, rfl, hb⟩ := hrel
      have HB := Lib.hid hb
      have zr := hb.size
      have hlen : (⟨(pmL xs j).toArray⟩ : ByteArray).size = j := by rw [str_len, pmL_len]
      have HVr := Lib.hid (HV.out.keep hb hhi)
      clear hb
      by_cases hlt : j < xs.length
      · have hji : (j : Int) < (xs.length : Int) := by omega
        have HSU := Lib.hid (show pmL xs (j + 1) = pmL xs j ++ [if (j : Int) < xs.getD j 0 then 117 else 100] from rfl)
        go_wp2_with fail
        (with_reducible refine (HN.out _ HVr.out).mono ?_)
        rintro e w1 ⟨rfl, hb⟩
        have HB1 := Lib.hid (HB.out.trans (hb.mono zr))
        obtain ⟨g1, p1, e1, -, -, hc1, -⟩ := (HVr.out.keep hb (by omega)).cell hlt
        simp only [Value.slice.injEq] at e1
        obtain ⟨rfl, -, rfl⟩ := e1
        clear hb
        generalize xs.getD j 0 = z at hc1 HSU
        by_cases e1 : (j : Int) < z
        · have HE := Lib.hid (HSU.out.trans (by rw [if_pos e1]))
          go_wp2
          refine ⟨⟨j + 1, by omega, by simp, ?_, HB1.out⟩, by simp [intOf]; omega⟩
          rw [HE.out, ← str_snoc]
        · have HE := Lib.hid (HSU.out.trans (by rw [if_neg e1]))
          have e1d : decide ((j : Int) < z) = false := decide_eq_false e1
          go_wp2
          refine ⟨⟨j + 1, by omega, by simp, ?_, HB1.out⟩, by simp [intOf]; omega⟩
          rw [HE.out, ← str_snoc]
      · obtain rfl : j = xs.length := by omega
        go_wp2_with fail
        (with_reducible refine (HN.out _ HVr.out).mono ?_)
        rintro e w1 ⟨rfl, hb⟩
        go_wp2
        go_ret2
        exact ⟨ret_sb HP.out.symm rfl, HB.out.trans (hb.mono zr)⟩

end Go.Proofs.Ytcckpodpgenapaa
