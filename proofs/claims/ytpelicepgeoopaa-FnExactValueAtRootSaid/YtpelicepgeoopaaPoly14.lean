/- IsPolynomial, both functions; isWithin, areWithin, trimmed. -/
import Derived.Test.YtpelicepgeoopaaSpec2G
import Derived.Test.YtpelicepgeoopaaSubUp
namespace Go.Proofs.Ytpelicepgeoopaa
open Go.ChangeShapes Go.WideShapes Go.ChangeAt Go.RowKit
set_option linter.unusedVariables false

/-- All numbers from -L to L. -/
def inB (L : Int) (xs : List Int) : Bool := (List.range xs.length).all fun i => decide (-L ≤ xs.getD i 0) && decide (xs.getD i 0 ≤ L)
theorem inB_iff (L : Int) (xs : List Int) : inB L xs = true ↔ ∀ i, i < xs.length → -L ≤ xs.getD i 0 ∧ xs.getD i 0 ≤ L := by
  unfold inB
  rw [List.all_eq_true]
  constructor
  · intro h i hi
    have := h i (List.mem_range.2 hi)
    simpa using this
  · intro h i hi
    have := h i (List.mem_range.1 hi)
    simpa using this
theorem inB_no {L : Int} {xs : List Int} {i : Nat} (hi : i < xs.length) (h : ¬ (-L ≤ xs.getD i 0 ∧ xs.getD i 0 ≤ L)) : inB L xs = false := by
  rcases hb : inB L xs with _ | _
  · rfl
  · exact absurd ((inB_iff L xs).1 hb i hi) h
def lstB (xs : List Int) : Bool := decide (xs.length = 0 ∨ xs.getD (xs.length - 1) 0 ≠ 0)
def plyB (xs : List Int) : Bool := decide (xs.length ≤ 61) && inB 1000000000 xs && lstB xs
/-- What is left without the zeros at the end of the first n numbers. -/
def trN (xs : List Int) : Nat → Nat
  | 0 => 0
  | n + 1 => if xs.getD n 0 = 0 then trN xs n else n + 1
theorem trN_le (xs : List Int) : ∀ n, trN xs n ≤ n
  | 0 => Nat.le_refl _
  | n + 1 => by
    have := trN_le xs n
    rw [trN]; split <;> omega
theorem trN_last (xs : List Int) : ((trN xs xs.length : Nat) == xs.length) = lstB xs := by
  unfold lstB
  rw [Bool.eq_iff_iff, beq_iff_eq, decide_eq_true_eq]
  cases h : xs.length with
  | zero => simp [trN]
  | succ m =>
    rw [trN, Nat.add_sub_cancel]
    have := trN_le xs m
    split
    · rename_i e; constructor
      · intro h2; omega
      · rintro (h2 | h2)
        · omega
        · exact absurd e h2
    · rename_i e; constructor
      · intro _; exact .inr e
      · intro _; rfl

set_option maxRecDepth 100000 in
set_option maxHeartbeats 800000 in
theorem isPolynomial (A : Option Addr) (xs : List Int) (cap lo hi : Nat) (w : World) (ho : OwnI w lo hi (.slice A xs.length cap) xs) (hl : xs.length ≤ 1099511627776) :
    Calls Try.prog 51 #[.slice A xs.length cap] w fun e w' => e = .returned (.bool (plyB xs)) ∧ w = w' := by
  have HO := Lib.hid ho
  obtain ⟨n, hn⟩ : ∃ n, n = xs.length := ⟨_, rfl⟩
  have HN := Lib.hid hn
  rw [← hn] at hl ⊢
  clear ho hn
  go_enter Try.func51, Try.ntmps51
  go_wp2
  go_loopw [3] (fun y wr => ∃ i : Nat, i ≤ n ∧ y = .int .i64 i ∧ wr = w ∧ ∀ j, j < i → -1000000000 ≤ xs.getD j 0 ∧ xs.getD j 0 ≤ 1000000000) (fun y _ => n - (intOf y).toNat)
  case atStart => exact ⟨0, Nat.zero_le _, rfl, rfl, fun j h => absurd h (Nat.not_lt_zero _)⟩
  case round =>
    obtain ⟨i, hi, rfl, rfl, hle⟩ := hrel
    have HLE := Lib.hid hle
    clear hle
    by_cases hlt : i < n
    · obtain ⟨g1, p1, e1, -, -, hc1, -⟩ := HO.out.cell (j := i) (by have := HN.out; omega)
      simp only [Value.slice.injEq] at e1
      obtain ⟨rfl, -, rfl⟩ := e1
      have hii : (i : Int) < (n : Int) := by omega
      by_cases e : -1000000000 ≤ xs.getD i 0 ∧ xs.getD i 0 ≤ 1000000000
      · have HI := Lib.hid (fun W => l1In_yes (xs.getD i 0) (-1000000000) 1000000000 W e.1 e.2)
        have HSTEP := Lib.hid (show ∀ j, j < i + 1 → -1000000000 ≤ xs.getD j 0 ∧ xs.getD j 0 ≤ 1000000000 from fun j hj => by
          by_cases ej : j = i
          · subst ej; exact e
          · exact HLE.out j (by omega))
        clear e
        generalize xs.getD i 0 = x at *
        go_wp2_with fail
        (with_reducible refine (HI.out _).mono ?_)
        rintro e w' ⟨rfl, rfl⟩
        go_wp2
        exact ⟨⟨i + 1, by omega, by simp, by first | rfl | trivial, HSTEP.out⟩, by simp [intOf]; omega⟩
      · have HI := Lib.hid (fun W => l1In_not (xs.getD i 0) (-1000000000) 1000000000 W e)
        have HP := Lib.hid (show plyB xs = false by unfold plyB; rw [inB_no (L := 1000000000) (i := i) (by have := HN.out; omega) e]; simp)
        clear e
        generalize xs.getD i 0 = x at *
        go_wp2_with fail
        (with_reducible refine (HI.out _).mono ?_)
        rintro e w' ⟨rfl, rfl⟩
        go_wp2
        go_ret
        exact ⟨ret_bool HP.out.symm, rfl⟩
    · obtain rfl : i = n := by omega
      have HIN := Lib.hid (show inB 1000000000 xs = true from (inB_iff _ _).2 fun j hj => HLE.out j (by rw [HN.out]; exact hj))
      by_cases h61 : i ≤ 61
      · have h61i : decide ((i : Int) ≤ 61) = true := decide_eq_true (by omega)
        have h61j : (i : Int) ≤ 61 := by omega
        have HP := Lib.hid (show plyB xs = lstB xs by unfold plyB; rw [HIN.out, ← HN.out, decide_eq_true h61]; rfl)
        by_cases h0 : i = 0
        · have hz : ((i : Int) == 0) = true := by simp [h0]
          have HP2 := Lib.hid (HP.out.trans (show lstB xs = true from decide_eq_true (.inl (by rw [← HN.out]; exact h0))))
          go_wp2
          go_ret
          exact ⟨ret_bool HP2.out.symm, rfl⟩
        · have hz : ((i : Int) == 0) = false := beq_eq_false_iff_ne.2 (by omega)
          obtain ⟨m, hm⟩ : ∃ m, m = i - 1 := ⟨_, rfl⟩
          obtain ⟨g1, p1, e1, -, -, hc1, -⟩ := HO.out.cell (j := m) (by have := HN.out; omega)
          simp only [Value.slice.injEq] at e1
          obtain ⟨rfl, -, rfl⟩ := e1
          have hmi : (i : Int) - 1 = (m : Int) := by omega
          have hmlt : (m : Int) < (i : Int) := by omega
          have hm0 : (0 : Int) ≤ (m : Int) := by omega
          have hmw : IntKind.i64.wrap (m : Int) = (m : Int) := IntWalk.i64_in _ (by omega)
          have HP2 := Lib.hid (HP.out.trans (show lstB xs = (xs.getD m 0 != 0) by
            unfold lstB
            rw [Bool.eq_iff_iff, decide_eq_true_eq, bne_iff_ne, ← HN.out, ← hm]
            constructor
            · rintro (h | h)
              · exact absurd h h0
              · exact h
            · exact .inr))
          clear hm h0
          generalize xs.getD m 0 = x at *
          go_wp2
          go_ret
          exact ⟨ret_bool HP2.out.symm, rfl⟩
      · have h61i : decide ((i : Int) ≤ 61) = false := decide_eq_false (by omega)
        have h61j : ¬ (i : Int) ≤ 61 := by omega
        have HP := Lib.hid (show plyB xs = false by unfold plyB; rw [← HN.out, decide_eq_false h61]; rfl)
        go_wp2
        go_ret
        exact ⟨ret_bool HP.out.symm, rfl⟩

set_option maxRecDepth 100000 in
theorem isWithin (x L : Int) (w : World) (h0 : 0 ≤ L) (h1 : L ≤ 1000000000) : Calls Try.prog 44 #[.int .i64 x, .int .i64 L] w fun e w' => e = .returned (.bool (decide (-L ≤ x) && decide (x ≤ L))) ∧ w = w' := by
  have hw : IntKind.i64.wrap (-L) = -L := IntWalk.i64_in _ (by omega)
  by_cases a : -L ≤ x
  · have da : decide (-L ≤ x) = true := decide_eq_true a
    go_enter Try.func44, Try.ntmps44
    go_wp2
    go_ret
    exact ⟨ret_bool (by first | rfl | (rw [da]; simp) | (rw [da]; rfl)), rfl⟩
  · have da : decide (-L ≤ x) = false := decide_eq_false a
    go_enter Try.func44, Try.ntmps44
    go_wp2
    go_ret
    exact ⟨ret_bool (by first | rfl | (rw [da]; simp) | (rw [da]; rfl)), rfl⟩
set_option maxRecDepth 100000 in
theorem areWithin1 (x L : Int) (b : Nat) (w : World) (hc : w.cell? ⟨b, 0, none⟩ = some (.int .i64 L)) (h0 : 0 ≤ L) (h1 : L ≤ 1000000000) : Calls Try.prog 65 #[.int .i64 x, .pointer (some ⟨b, 0, none⟩)] w fun e w' => e = .returned (.bool (!(decide (-L ≤ x) && decide (x ≤ L)))) ∧ w = w' := by
  have HI := Lib.hid (isWithin x L w h0 h1)
  generalize (decide (-L ≤ x) && decide (x ≤ L)) = r at *
  go_enter Try.func65, Try.ntmps65
  go_wp2_with fail
  (with_reducible refine HI.out.mono ?_)
  rintro e w' ⟨rfl, rfl⟩
  go_wp2
  go_ret
  exact ⟨rfl, rfl⟩
set_option maxRecDepth 100000 in
set_option maxHeartbeats 800000 in
theorem indexWithin (L : Int) (b : Nat) (A : Option Addr) (xs : List Int) (cap lo hi : Nat) (w : World) (hc : w.cell? ⟨b, 0, none⟩ = some (.int .i64 L)) (h0 : 0 ≤ L) (h1 : L ≤ 1000000000) (ho : OwnI w lo hi (.slice A xs.length cap) xs) (hl : xs.length ≤ 1099511627776) :
    Calls Try.prog 71 #[.slice A xs.length cap, .func (.func 65) #[] #[.pointer (some ⟨b, 0, none⟩)]] w fun e w' => (∃ r : Int, e = .returned (.int .i64 r) ∧ decide (0 ≤ r) = !inB L xs) ∧ w = w' := by
  have HO := Lib.hid ho
  have HC := Lib.hid hc
  obtain ⟨n, hn⟩ : ∃ n, n = xs.length := ⟨_, rfl⟩
  have HN := Lib.hid hn
  rw [← hn] at hl ⊢
  clear ho hn hc
  go_enter Try.func71, Try.ntmps71
  go_wp2
  go_loopw [8] (fun y wr => ∃ i : Nat, i ≤ n ∧ y = .int .i64 i ∧ wr = w ∧ ∀ j, j < i → -L ≤ xs.getD j 0 ∧ xs.getD j 0 ≤ L) (fun y _ => n - (intOf y).toNat)
  case atStart => exact ⟨0, Nat.zero_le _, rfl, rfl, fun j h => absurd h (Nat.not_lt_zero _)⟩
  case round =>
    obtain ⟨i, hi, rfl, rfl, hle⟩ := hrel
    have HLE := Lib.hid hle
    clear hle
    by_cases hlt : i < n
    · obtain ⟨g1, p1, e1, -, -, hc1, -⟩ := HO.out.cell (j := i) (by have := HN.out; omega)
      simp only [Value.slice.injEq] at e1
      obtain ⟨rfl, -, rfl⟩ := e1
      have hii : (i : Int) < (n : Int) := by omega
      have HW := Lib.hid (areWithin1 (xs.getD i 0) L b wr HC.out h0 h1)
      by_cases e : -L ≤ xs.getD i 0 ∧ xs.getD i 0 ≤ L
      · rw [decide_eq_true e.1, decide_eq_true e.2] at HW
        have HSTEP := Lib.hid (show ∀ j, j < i + 1 → -L ≤ xs.getD j 0 ∧ xs.getD j 0 ≤ L from fun j hj => by
          by_cases ej : j = i
          · subst ej; exact e
          · exact HLE.out j (by omega))
        clear e
        generalize xs.getD i 0 = x at *
        go_wp2_with fail
        (with_reducible refine HW.out.mono ?_)
        rintro e w' ⟨rfl, rfl⟩
        go_wp2
        exact ⟨⟨i + 1, by omega, by simp, by first | rfl | trivial, HSTEP.out⟩, by simp [intOf]; omega⟩
      · rw [show (decide (-L ≤ xs.getD i 0) && decide (xs.getD i 0 ≤ L)) = false by
          rw [Bool.eq_false_iff]; simpa using e] at HW
        have HP := Lib.hid (inB_no (L := L) (xs := xs) (i := i) (by have := HN.out; omega) e)
        clear e
        generalize xs.getD i 0 = x at *
        go_wp2_with fail
        (with_reducible refine HW.out.mono ?_)
        rintro e w' ⟨rfl, rfl⟩
        go_wp2
        go_ret
        exact ⟨⟨_, rfl, by rw [HP.out]; simp⟩, rfl⟩
    · obtain rfl : i = n := by omega
      have HIN := Lib.hid (show inB L xs = true from (inB_iff _ _).2 fun j hj => HLE.out j (by rw [HN.out]; exact hj))
      go_wp2
      go_ret
      exact ⟨⟨_, rfl, by rw [HIN.out]; rfl⟩, rfl⟩
set_option maxRecDepth 100000 in
set_option maxHeartbeats 800000 in
theorem areWithin (L : Int) (A : Option Addr) (xs : List Int) (cap lo hi : Nat) (w : World) (h0 : 0 ≤ L) (h1 : L ≤ 1000000000) (ho : OwnI w lo hi (.slice A xs.length cap) xs) (hhi : hi ≤ w.heap.size) (hl : xs.length ≤ 1099511627776) :
    Calls Try.prog 57 #[.slice A xs.length cap, .int .i64 L] w fun e w' => e = .returned (.bool (inB L xs)) ∧ Below w.heap.size w w' := by
  have HX := Lib.hid (indexWithin L w.heap.size A xs cap lo hi (w.alloc (.cells #[.int .i64 L] 3)) (cell_one _ _ _) h0 h1 (ho.keep ((Below.refl w.heap.size w).alloc (Nat.le_refl _) _) hhi) hl)
  have HCF := Lib.hid (show Calls Try.prog 64 #[.slice A xs.length cap, .func (.func 65) #[] #[.pointer (some ⟨w.heap.size, 0, none⟩)]] (w.alloc (.cells #[.int .i64 L] 3)) (fun e w' => e = .returned (.bool (!inB L xs)) ∧ w' = w.alloc (.cells #[.int .i64 L] 3)) from by
    clear ho
    generalize w.alloc (.cells #[.int .i64 L] 3) = W at *
    go_enter Try.func64, Try.ntmps64
    go_wp2_with fail
    (with_reducible refine HX.out.mono ?_)
    rintro e w' ⟨⟨r, rfl, hr⟩, rfl⟩
    have HR := Lib.hid hr
    clear hr
    go_wp2
    go_ret
    exact ⟨ret_bool HR.out, rfl⟩)
  clear ho HX
  generalize inB L xs = r at *
  go_enter Try.func57, Try.ntmps57
  go_wp2_with fail
  (with_reducible refine HCF.out.mono ?_)
  rintro e w' ⟨rfl, rfl⟩
  go_wp2
  go_ret
  exact ⟨ret_bool (by simp), (Below.refl _ _).alloc (Nat.le_refl _) _⟩

set_option maxRecDepth 100000 in
set_option maxHeartbeats 800000 in
theorem trimmed (A : Option Addr) (xs : List Int) (cap : Nat) (w : World) (hv : SubI w A cap xs) (hl : xs.length ≤ 1099511627776) :
    Calls Try.prog 45 #[.slice A xs.length cap] w fun e w' => e = .returned (.slice A (trN xs xs.length) cap) ∧ w = w' := by
  have HV := Lib.hid hv
  have hcap := hv.1
  obtain ⟨n, hn⟩ : ∃ n, n = xs.length := ⟨_, rfl⟩
  have HN := Lib.hid hn
  rw [← hn] at hl hcap ⊢
  clear hv hn
  by_cases hz : n = 0
  · subst hz
    go_enter Try.func45, Try.ntmps45
    go_wp2
    go_loop [0] (fun y => y = .slice A 0 cap) (fun _ => 0)
    case atStart => rfl
    case round =>
      subst hrel
      go_wp2
      go_ret
      exact ⟨rfl, rfl⟩
  obtain ⟨g, o, hA, -⟩ := HV.out.2 0 (by have := HN.out; omega)
  subst hA
  go_enter Try.func45, Try.ntmps45
  go_wp2
  go_loopw [0] (fun y wr => ∃ k : Nat, k ≤ n ∧ y = .slice (some ⟨g, o, none⟩) k cap ∧ wr = w ∧ trN xs n = trN xs k) (fun y _ => match y with | .slice _ k _ => k | _ => 0)
  case atStart => exact ⟨n, Nat.le_refl _, rfl, rfl, rfl⟩
  case round =>
    obtain ⟨k, hk, rfl, rfl, ht⟩ := hrel
    have HT := Lib.hid ht
    clear ht
    by_cases hk0 : k = 0
    · subst hk0
      go_wp2
      go_ret
      exact ⟨by rw [HT.out]; rfl, rfl⟩
    · obtain ⟨m, hm⟩ : ∃ m, m = k - 1 := ⟨_, rfl⟩
      obtain ⟨g', o', e', hc⟩ := HV.out.2 m (by have := HN.out; omega)
      simp only [Option.some.injEq, Addr.mk.injEq, and_true] at e'
      obtain ⟨rfl, rfl⟩ := e'
      have hki : (0 : Int) < (k : Int) := by omega
      have hmi : (k : Int) - 1 = (m : Int) := by omega
      have hmlt : (m : Int) < (k : Int) := by omega
      have hmw : IntKind.i64.wrap (m : Int) = (m : Int) := IntWalk.i64_in _ (by omega)
      have hsl := fun W => run_upto W (some ⟨g, o, none⟩) k cap m (by omega)
      have HS := Lib.hid (show trN xs k = if xs.getD m 0 = 0 then trN xs m else k by rw [show k = m + 1 by omega]; rfl)
      have HMK := Lib.hid (show m < k ∧ m ≤ n by omega)
      clear hm
      by_cases e : xs.getD m 0 = 0
      · have HS2 := Lib.hid (HS.out.trans (if_pos e))
        rw [e] at hc
        clear e HS
        go_wp2
        exact ⟨⟨m, HMK.out.2, by first | rfl | trivial, by first | rfl | trivial, by rw [HT.out, HS2.out]⟩, HMK.out.1⟩
      · have HS2 := Lib.hid (HS.out.trans (if_neg e))
        have hb : (xs.getD m 0 == 0) = false := beq_eq_false_iff_ne.2 e
        clear e HS
        generalize xs.getD m 0 = x at *
        go_wp2
        go_ret
        exact ⟨by rw [HT.out, HS2.out]; rfl, rfl⟩

set_option maxRecDepth 100000 in
set_option maxHeartbeats 800000 in
theorem isPolynomialI (A : Option Addr) (xs : List Int) (cap lo hi : Nat) (w : World) (ho : OwnI w lo hi (.slice A xs.length cap) xs) (hhi : hi ≤ w.heap.size) (hcap : xs.length ≤ cap) (hl : xs.length ≤ 1099511627776) :
    Calls Try.prog 46 #[.slice A xs.length cap] w fun e w' => e = .returned (.bool (plyB xs)) ∧ Below w.heap.size w w' := by
  by_cases h61 : xs.length ≤ 61
  · have h61i : decide ((xs.length : Int) ≤ 61) = true := decide_eq_true (by omega)
    have h61j : (xs.length : Int) ≤ 61 := by omega
    have HP := Lib.hid (show plyB xs = (inB 1000000000 xs && lstB xs) by unfold plyB; rw [decide_eq_true h61]; rfl)
    have HW := Lib.hid (areWithin 1000000000 A xs cap lo hi w (by omega) (by omega) ho hhi hl)
    rcases hb : inB 1000000000 xs with _ | _
    · have HP2 := Lib.hid (show plyB xs = false by rw [HP.out, hb]; rfl)
      rw [hb] at HW
      clear hb ho
      go_enter Try.func46, Try.ntmps46
      go_wp2_with fail
      (with_reducible refine HW.out.mono ?_)
      rintro e w1 ⟨rfl, hb1⟩
      go_wp2
      go_ret
      exact ⟨ret_bool HP2.out.symm, hb1⟩
    · have HP2 := Lib.hid (show plyB xs = lstB xs by rw [HP.out, hb]; rfl)
      have HT := Lib.hid (fun W (h : Below w.heap.size w W) => trimmed A xs cap W (SubI.own (ho.keep h hhi) hcap) hl)
      have HE := Lib.hid (show (((trN xs xs.length : Nat) : Int) == ((xs.length : Nat) : Int)) = lstB xs by
        rw [← trN_last, Bool.eq_iff_iff, beq_iff_eq, beq_iff_eq]; omega)
      rw [hb] at HW
      clear hb ho
      generalize trN xs xs.length = t at *
      go_enter Try.func46, Try.ntmps46
      go_wp2_with fail
      (with_reducible refine HW.out.mono ?_)
      rintro e w1 ⟨rfl, hb1⟩
      go_wp2_with fail
      (with_reducible refine (HT.out _ hb1).mono ?_)
      rintro e w2 ⟨rfl, rfl⟩
      go_wp2
      go_ret
      first | exact ⟨ret_bool (by rw [HP2.out, ← HE.out]), hb1⟩ | exact ⟨ret_bool (by rw [HP2.out, ← HE.out, Bool.eq_iff_iff]; simp), hb1⟩
  · have h61i : decide ((xs.length : Int) ≤ 61) = false := decide_eq_false (by omega)
    have h61j : ¬ (xs.length : Int) ≤ 61 := by omega
    have HP := Lib.hid (show plyB xs = false by unfold plyB; rw [decide_eq_false h61]; rfl)
    clear ho
    go_enter Try.func46, Try.ntmps46
    go_wp2
    go_ret
    exact ⟨ret_bool HP.out.symm, Below.refl _ _⟩

end Go.Proofs.Ytpelicepgeoopaa
