/- Series: what is one, and products; both functions. -/
import Derived.Test.YtbikipacfmaiaaaPoly14
import Derived.Test.YtbikipacfmaiaaaRow10
import Derived.Test.YtbikipacfmaiaaaTabA
import Derived.Lib.MinMax
import Derived.BigRegion
namespace Go.Proofs.Ytbikipacfmaiaaa
open Go.ChangeShapes Go.WideShapes Go.ChangeAt Go.RowKit
set_option linter.unusedVariables false

theorem TabI.alike {w : World} {g m : Nat} {f f' : Nat → Int} (h : TabI w g m f) (ho : ∀ q, q < m → f' q = f q) : TabI w g m f' := by
  obtain ⟨C, h1, h2, h3⟩ := h
  exact ⟨C, h1, h2, fun q hq => by rw [h3 q hq, ho q hq]⟩
/-- A valid series. -/
def finB (xs : List Int) : Bool := inB 1000000 xs && decide (1 ≤ xs.length ∧ xs.length ≤ 12)
theorem fin_parts {xs : List Int} (h : finB xs = true) : inB 1000000 xs = true ∧ 1 ≤ xs.length ∧ xs.length ≤ 12 := by
  unfold finB at h
  rw [Bool.and_eq_true, decide_eq_true_eq] at h
  exact h
theorem in_all {L : Int} {xs : List Int} (h : inB L xs = true) (hL : 0 ≤ L) (q : Nat) : -L ≤ xs.getD q 0 ∧ xs.getD q 0 ≤ L := by
  rcases Nat.lt_or_ge q xs.length with h1 | h1
  · exact (inB_iff L xs).1 h q h1
  · rw [List.getD_eq_getElem?_getD, List.getElem?_eq_none h1]; exact ⟨by simp; omega, by simp; omega⟩
/-- The first k terms of a sum that is a product's term q. -/
def pS (a b : List Int) (q : Nat) : Nat → Int
  | 0 => 0
  | k + 1 => pS a b q k + a.getD k 0 * b.getD (q - k) 0
theorem pS_succ (a b : List Int) (q k : Nat) : pS a b q (k + 1) = pS a b q k + a.getD k 0 * b.getD (q - k) 0 := rfl
theorem pS_bd {a b : List Int} {M : Int} (h : ∀ i j, -M ≤ a.getD i 0 * b.getD j 0 ∧ a.getD i 0 * b.getD j 0 ≤ M) (q : Nat) : ∀ k : Nat, k ≤ 12 → -(12 * M) ≤ pS a b q k ∧ pS a b q k ≤ 12 * M ∧ -((k : Int) * M) ≤ pS a b q k ∧ pS a b q k ≤ (k : Int) * M := by
  intro k hk
  have h0 := h 0 0
  have key : ∀ k : Nat, -((k : Int) * M) ≤ pS a b q k ∧ pS a b q k ≤ (k : Int) * M := by
    intro k
    induction k with
    | zero => simp [pS]
    | succ k ih =>
      have h1 := h k (q - k)
      rw [pS_succ, show (((k + 1 : Nat) : Int)) = (k : Int) + 1 by omega, Int.add_mul]
      generalize a.getD k 0 * b.getD (q - k) 0 = p at *
      generalize (k : Int) * M = z at *
      omega
  have h2 := key k
  have h3 : (k : Int) * M ≤ 12 * M := Int.mul_le_mul_of_nonneg_right (by omega) (by omega)
  exact ⟨by omega, by omega, h2⟩
/-- A product's terms. -/
def tmL (a b : List Int) (n : Nat) : List Int := (List.range n).map fun q => pS a b q (q + 1)
theorem tmL_len (a b : List Int) (n : Nat) : (tmL a b n).length = n := by simp [tmL]
theorem tmL_at (a b : List Int) {n q : Nat} (h : q < n) : (tmL a b n).getD q 0 = pS a b q (q + 1) := by simp [tmL, List.getD, h]
def tmF (a b : List Int) (i : Nat) : Nat → Int := fun q => if q < i then pS a b q (q + 1) else 0
def tmI (a b : List Int) (i k : Nat) : Nat → Int := fun q => if q < i then pS a b q (q + 1) else if q = i then pS a b i k else 0
theorem tmI_zero (a b : List Int) (i : Nat) : tmI a b i 0 = tmF a b i := by
  funext q
  unfold tmI tmF
  split
  · rfl
  · split
    · rfl
    · rfl
theorem tmI_full (a b : List Int) (i : Nat) : tmI a b i (i + 1) = tmF a b (i + 1) := by
  funext q
  unfold tmI tmF
  by_cases h : q < i
  · rw [if_pos h, if_pos (by omega)]
  · rw [if_neg h]
    by_cases e : q = i
    · subst e; rw [if_pos rfl, if_pos (by omega)]
    · rw [if_neg e, if_neg (by omega)]
theorem tmI_here (a b : List Int) (i k : Nat) : tmI a b i k i = pS a b i k := by unfold tmI; rw [if_neg (by omega), if_pos rfl]
theorem tmI_succ (a b : List Int) (i k : Nat) : tmI a b i (k + 1) = upd (tmI a b i k) i (pS a b i k + a.getD k 0 * b.getD (i - k) 0) := by
  funext q
  by_cases e : q = i
  · subst e; rw [upd_at, tmI_here, pS_succ]
  · rw [upd_ne _ _ e]; unfold tmI; rw [if_neg e, if_neg e]
theorem tmF_zero (a b : List Int) : tmF a b 0 = fun _ => 0 := by funext q; unfold tmF; rw [if_neg (by omega)]
/-- The program's way: i rounds, and k of round i. -/
def pgF (a b : List Int) (i : Nat) : Nat → Int := fun q => pS a b q (min i (q + 1))
def pgI (a b : List Int) (i k : Nat) : Nat → Int := fun q => if i ≤ q ∧ q < i + k then pS a b q (i + 1) else pS a b q (min i (q + 1))
theorem pgF_zero (a b : List Int) : pgF a b 0 = fun _ => 0 := by funext q; unfold pgF; rw [Nat.zero_min]; rfl
theorem pgI_zero (a b : List Int) (i : Nat) : pgI a b i 0 = pgF a b i := by funext q; unfold pgI pgF; rw [if_neg (by omega)]
theorem pgI_full (a b : List Int) (i n q : Nat) (hi : i < n) (hq : q < n) : pgF a b (i + 1) q = pgI a b i (n - i) q := by
  unfold pgI pgF
  by_cases h : i ≤ q
  · rw [if_pos (by omega), Nat.min_eq_left (by omega)]
  · rw [if_neg (by omega), Nat.min_eq_right (by omega), Nat.min_eq_right (by omega)]
theorem pgI_here (a b : List Int) (i k : Nat) : pgI a b i k (i + k) = pS a b (i + k) i := by unfold pgI; rw [if_neg (by omega), Nat.min_eq_left (by omega)]
theorem pgI_succ (a b : List Int) (i k : Nat) : pgI a b i (k + 1) = upd (pgI a b i k) (i + k) (pS a b (i + k) i + a.getD i 0 * b.getD k 0) := by
  funext q
  by_cases e : q = i + k
  · subst e; rw [upd_at]; unfold pgI; rw [if_pos (by omega), pS_succ, show i + k - i = k by omega]
  · rw [upd_ne _ _ e]
    unfold pgI
    by_cases h : i ≤ q ∧ q < i + k
    · rw [if_pos h, if_pos (by omega)]
    · rw [if_neg h, if_neg (by omega)]
theorem pgF_full (a b : List Int) (n q : Nat) (hq : q < n) : pgF a b n q = pS a b q (q + 1) := by unfold pgF; rw [Nat.min_eq_right (by omega)]

set_option maxRecDepth 100000 in
set_option maxHeartbeats 800000 in
theorem l30Fine (A : Option Addr) (xs : List Int) (cap lo hi : Nat) (w : World) (ho : OwnI w lo hi (.slice A xs.length cap) xs) (hl : xs.length ≤ 1099511627776) :
    Calls Try.prog 31 #[.slice A xs.length cap] w fun e w' => e = .returned (.bool (finB xs)) ∧ w = w' := by
  have HO := Lib.hid ho
  obtain ⟨n, hn⟩ : ∃ n, n = xs.length := ⟨_, rfl⟩
  have HN := Lib.hid hn
  rw [← hn] at hl ⊢
  clear ho hn
  go_enter Try.func31, Try.ntmps31
  go_wp2
  go_loopw [3] (fun y wr => ∃ i : Nat, i ≤ n ∧ y = .int .i64 i ∧ wr = w ∧ ∀ j, j < i → -1000000 ≤ xs.getD j 0 ∧ xs.getD j 0 ≤ 1000000) (fun y _ => n - (intOf y).toNat)
  case atStart => exact ⟨0, Nat.zero_le _, rfl, rfl, fun j h => absurd h (Nat.not_lt_zero _)⟩
  case round =>
    obtain ⟨i, hi, rfl, rfl, hle⟩ := hrel
    have HLE := Lib.hid hle
    clear hle
    by_cases hlt : i < n
    · obtain ⟨g1, p1, e1, -, -, hc1, -⟩ := HO.out.cell (j := i) (by have := HN.out; omega)
      simp only [Value.slice.injEq] at e1
      obtain ⟨rfl, -, rfl⟩ := e1
      have hii : (i : Int) < (n : Int) := by omega
      by_cases e : -1000000 ≤ xs.getD i 0 ∧ xs.getD i 0 ≤ 1000000
      · have HI := Lib.hid (fun W => l1In_yes (xs.getD i 0) (-1000000) 1000000 W e.1 e.2)
        have HSTEP := Lib.hid (show ∀ j, j < i + 1 → -1000000 ≤ xs.getD j 0 ∧ xs.getD j 0 ≤ 1000000 from fun j hj => by
          by_cases ej : j = i
          · subst ej; exact e
          · exact HLE.out j (by omega))
        clear e
        generalize xs.getD i 0 = x at *
        go_wp2_with fail
        (with_reducible refine (HI.out _).mono ?_)
        rintro e w' ⟨rfl, rfl⟩
        go_wp2
        exact ⟨⟨i + 1, by omega, by simp, by first | rfl | trivial, HSTEP.out⟩, by simp [intOf]; omega⟩
      · have HI := Lib.hid (fun W => l1In_not (xs.getD i 0) (-1000000) 1000000 W e)
        have HP := Lib.hid (show finB xs = false by unfold finB; rw [inB_no (L := 1000000) (i := i) (by have := HN.out; omega) e]; simp)
        clear e
        generalize xs.getD i 0 = x at *
        go_wp2_with fail
        (with_reducible refine (HI.out _).mono ?_)
        rintro e w' ⟨rfl, rfl⟩
        go_wp2
        go_ret
        exact ⟨ret_bool HP.out.symm, rfl⟩
    · obtain rfl : i = n := by omega
      have HIN := Lib.hid (show inB 1000000 xs = true from (inB_iff _ _).2 fun j hj => HLE.out j (by rw [HN.out]; exact hj))
      by_cases h12 : 1 ≤ i ∧ i ≤ 12
      · have HP := Lib.hid (show finB xs = true by unfold finB; rw [HIN.out, ← HN.out, decide_eq_true h12]; rfl)
        have HL := Lib.hid (fun W => l1In_yes (i : Int) 1 12 W (by omega) (by omega))
        go_wp2_with fail
        (with_reducible refine (HL.out _).mono ?_)
        rintro e w' ⟨rfl, rfl⟩
        go_wp2
        go_ret
        exact ⟨ret_bool HP.out.symm, rfl⟩
      · have HP := Lib.hid (show finB xs = false by unfold finB; rw [← HN.out, decide_eq_false h12]; simp)
        have HL := Lib.hid (fun W => l1In_not (i : Int) 1 12 W (by omega))
        go_wp2_with fail
        (with_reducible refine (HL.out _).mono ?_)
        rintro e w' ⟨rfl, rfl⟩
        go_wp2
        go_ret
        exact ⟨ret_bool HP.out.symm, rfl⟩

set_option maxRecDepth 100000 in
set_option maxHeartbeats 800000 in
theorem isSeriesI (A : Option Addr) (xs : List Int) (cap lo hi : Nat) (w : World) (ho : OwnI w lo hi (.slice A xs.length cap) xs) (hhi : hi ≤ w.heap.size) (hl : xs.length ≤ 1099511627776) :
    Calls Try.prog 33 #[.slice A xs.length cap] w fun e w' => e = .returned (.bool (finB xs)) ∧ Below w.heap.size w w' := by
  have HW := Lib.hid (areWithin 1000000 A xs cap lo hi w (by omega) (by omega) ho hhi hl)
  by_cases h1 : 1 ≤ xs.length
  · have d1 : decide ((1 : Int) ≤ (xs.length : Int)) = true := decide_eq_true (by omega)
    have d1' : (1 : Int) ≤ (xs.length : Int) := by omega
    by_cases h2 : xs.length ≤ 12
    · have d2 : decide ((xs.length : Int) ≤ 12) = true := decide_eq_true (by omega)
      have d2' : (xs.length : Int) ≤ 12 := by omega
      have HP := Lib.hid (show finB xs = inB 1000000 xs by unfold finB; rw [decide_eq_true ⟨h1, h2⟩, Bool.and_true])
      generalize inB 1000000 xs = r at *
      clear ho
      go_enter Try.func33, Try.ntmps33
      go_wp2_with fail
      (with_reducible refine HW.out.mono ?_)
      rintro e w' ⟨rfl, hb⟩
      go_wp2
      go_ret
      exact ⟨ret_bool HP.out.symm, hb⟩
    · have d2 : decide ((xs.length : Int) ≤ 12) = false := decide_eq_false (by omega)
      have d2' : ¬ (xs.length : Int) ≤ 12 := by omega
      have HP := Lib.hid (show finB xs = false by unfold finB; rw [decide_eq_false (by omega)]; simp)
      clear ho
      go_enter Try.func33, Try.ntmps33
      go_wp2
      go_ret
      exact ⟨ret_bool HP.out.symm, Below.refl _ _⟩
  · have d1 : decide ((1 : Int) ≤ (xs.length : Int)) = false := decide_eq_false (by omega)
    have d1' : ¬ (1 : Int) ≤ (xs.length : Int) := by omega
    have HP := Lib.hid (show finB xs = false by unfold finB; rw [decide_eq_false (by omega)]; simp)
    clear ho
    go_enter Try.func33, Try.ntmps33
    go_wp2
    go_ret
    exact ⟨ret_bool HP.out.symm, Below.refl _ _⟩

set_option maxRecDepth 100000 in
set_option maxHeartbeats 3200000 in
theorem l30Times (A A' : Option Addr) (xs ys : List Int) (n cap cap' lo hi lo' hi' : Nat) (w : World) (M : Int) (hv : OwnI w lo hi (.slice A n cap) xs) (hu : OwnI w lo' hi' (.slice A' n cap') ys) (hx : xs.length = n) (hy : ys.length = n) (hhi : hi ≤ w.heap.size) (hhu : hi' ≤ w.heap.size) (hn : n ≤ 12)
    (hM : ∀ i j, -M ≤ xs.getD i 0 * ys.getD j 0 ∧ xs.getD i 0 * ys.getD j 0 ≤ M) (hM2 : M ≤ 100000000000000000) :
    Calls Try.prog 32 #[.slice A n cap, .slice A' n cap'] w (AnsI (tmL xs ys n) w) := by
  have HV := Lib.hid hv
  have HU := Lib.hid hu
  have HX := Lib.hid hx
  have HY := Lib.hid hy
  have HPB := Lib.hid (fun q k hk => pS_bd hM q k hk)
  have HMM := Lib.hid hM
  have hM0 := hM 0 0
  have HM1 := Lib.hid (show 0 ≤ M by omega)
  have HZF := Lib.hid (tmF_zero xs ys)
  have HTA := Lib.hid (fun q (h : q < n) => tmL_at xs ys h)
  have HTL := Lib.hid (tmL_len xs ys n)
  have hmn : min (n : Int) (n : Int) = (n : Int) := Int.min_self _
  obtain ⟨i0, hi0, hz0, hz1, hzb⟩ := info_parts info3
  clear hv hu hx hy hM hM0
  go_enter Try.func32, Try.ntmps32
  go_wp2_with (at_make; go_must (refine wpList_make_full _ rfl _ _ 22 rfl w.heap.size 3 i0 (.int .i64 0) 1 Try.underlying22 hi0 hz0 hz1 .i64 .i64 (n : Int) (n : Int) n rfl rfl rfl rfl (by rw [hzb]; omega) (by unfold maxLen; omega) (Nat.le_refl _) ?_); intro w2 hown1 hgrow1)
  have HT0 := Lib.hid (show TabI w2 w.heap.size n (tmF xs ys 0) by rw [HZF.out]; exact TabI.made hown1)
  have HB2 := Lib.hid ((Below.refl w.heap.size w).grown hgrow1 (Nat.le_refl _) (fun k hk => by cases hk))
  clear hown1 hgrow1
  go_wp2
  go_loopw [7] (fun y wr => ∃ i : Nat, i ≤ n ∧ y = .int .i64 i ∧ TabI wr w.heap.size n (tmF xs ys i) ∧ Below w.heap.size w wr) (fun y _ => n - (intOf y).toNat)
  case atStart => exact ⟨0, Nat.zero_le _, rfl, HT0.out, HB2.out⟩
  case round =>
    obtain ⟨i, hi', rfl, htab, hb⟩ := hrel
    have HT := Lib.hid htab
    have HB3 := Lib.hid hb
    clear htab hb HT0 HB2
    by_cases hlt : i < n
    · have hii : (i : Int) < (n : Int) := by omega
      have HT1 := Lib.hid (show TabI wr w.heap.size n (tmI xs ys i 0) by rw [tmI_zero]; exact HT.out)
      have HFULL := Lib.hid (tmI_full xs ys i)
      go_wp2
      go_loopw [8] (fun y wr => ∃ j : Nat, j ≤ i + 1 ∧ y = .int .i64 j ∧ TabI wr w.heap.size n (tmI xs ys i j) ∧ Below w.heap.size w wr) (fun y _ => i + 1 - (intOf y).toNat)
      case atStart => exact ⟨0, Nat.zero_le _, rfl, HT1.out, HB3.out⟩
      case round =>
        obtain ⟨j, hj', rfl, htab, hb⟩ := hrel
        have HT2 := Lib.hid htab
        have HB4 := Lib.hid hb
        clear htab hb
        by_cases hlt2 : j ≤ i
        · have hji : (j : Int) ≤ (i : Int) := by omega
          have hjn : (j : Int) < (n : Int) := by omega
          obtain ⟨m, hm⟩ : ∃ m, m = i - j := ⟨_, rfl⟩
          obtain ⟨g1, p1, e1, -, -, hc1, -⟩ := (HV.out.keep HB4.out hhi).cell (j := j) (by rw [HX.out]; omega)
          obtain ⟨g2, p2, e2, -, -, hc2, -⟩ := (HU.out.keep HB4.out hhu).cell (j := m) (by rw [HY.out]; omega)
          simp only [Value.slice.injEq] at e1 e2
          obtain ⟨rfl, -, rfl⟩ := e1
          obtain ⟨rfl, -, rfl⟩ := e2
          have HNX := Lib.hid (tmI_succ xs ys i j)
          rw [← hm] at HNX
          obtain ⟨hc3, hf3⟩ := HT2.out.cell (j := i) hlt
          rw [tmI_here] at hc3
          have hcv := HPB.out i j (by omega)
          have hxy := HMM.out j m
          generalize xs.getD j 0 = x at *
          generalize ys.getD m 0 = z at *
          generalize pS xs ys i j = c at *
          generalize hp : x * z = p at *
          have v1 : IntKind.i64.wrap p = p := IntWalk.i64_in _ (by omega)
          have v2 : IntKind.i64.wrap (c + p) = c + p := IntWalk.i64_in _ (by omega)
          have hmi : (i : Int) - (j : Int) = (m : Int) := by omega
          have hmn2 : (m : Int) < (n : Int) := by omega
          have hmN : m < n := by omega
          clear hm
          go_wp2
          go_region
          all_goals go_wp2
          all_goals go_roundw
          case rel => exact ⟨j + 1, by omega, by simp, by rw [HNX.out]; exact (HT2.out.set (k := i) hlt _).keep rfl, (HB4.out.setCell (p := ⟨w.heap.size, i, none⟩) (Nat.le_refl _) _).drew⟩
          case measure => simp [intOf]; omega
        · obtain rfl : j = i + 1 := by omega
          rw [HFULL.out] at HT2
          go_wp2
          exact ⟨⟨i + 1, by omega, by simp, HT2.out, HB4.out⟩, by simp [intOf]; omega⟩
    · obtain rfl : i = n := by omega
      have HOW := Lib.hid (show OwnI wr w.heap.size wr.heap.size (.slice (some ⟨w.heap.size, 0, none⟩) i i) (tmL xs ys i) from OwnI.of_tab HT.out HTL.out (Nat.le_refl _) (fun j hj => by rw [HTA.out j hj]; unfold tmF; rw [if_pos hj]) (Nat.le_refl _) HT.out.lt)
      go_wp2
      go_ret
      exact ⟨_, rfl, HOW.out, HB3.out⟩

end Go.Proofs.Ytbikipacfmaiaaa
