/- The contracts of the model's l13Same, l16Build, BinaryOfWeights. -/
import Derived.Test.YtbbbnnkkjgikbaaSpec16D
import Derived.Test.YtbbbnnkkjgikbaaSubUp
namespace Go.Proofs.Ytbbbnnkkjgikbaa
open Go.ChangeShapes Go.WideShapes Go.ChangeAt Go.RowKit
open Go.PlainAid (bt bt_nonneg bt_le get_bt bt_end)
set_option linter.unusedVariables false

set_option maxRecDepth 100000 in
set_option maxHeartbeats 1600000 in
theorem l13Same (v u : Value) (xs ys : List Int) (lo hi lo' hi' : Nat) (w : World) (hv : OwnI w lo hi v xs) (hu : OwnI w lo' hi' u ys) (hl : xs.length ≤ 1099511627776) (hl2 : ys.length ≤ 1099511627776) :
    Calls Try.prog 75 #[v, u] w fun e w' => e = .returned (.bool (decide (xs = ys))) ∧ ∃ q, w' = w.drewN q := by
  obtain ⟨A1, c1, rfl, -⟩ := id hv
  obtain ⟨A2, c2, rfl, -⟩ := id hu
  by_cases hlen : xs.length = ys.length
  · have HV := Lib.hid hv
    have HU := Lib.hid hu
    have HL := Lib.hid hlen
    rw [← hlen]
    have hnn : ((xs.length : Int) != (xs.length : Int)) = false := by simp
    obtain ⟨n, hn⟩ : ∃ n, n = xs.length := ⟨_, rfl⟩
    have HN := Lib.hid hn
    rw [← hn] at hl hnn ⊢
    clear hv hu hlen hn hl2
    go_enter Try.func75, Try.ntmps75
    go_wp2
    go_loopw [5] (fun y wr => ∃ (i q : Nat), i ≤ n ∧ y = .int .i64 i ∧ wr = w.drewN q ∧ ∀ j, j < i → xs.getD j 0 = ys.getD j 0) (fun y _ => n - (intOf y).toNat)
    case atStart => exact ⟨0, 0, Nat.zero_le _, rfl, rfl, fun j h => absurd h (Nat.not_lt_zero _)⟩
    case round =>
      obtain ⟨i, q, hi, rfl, rfl, hle⟩ := hrel
      have HLE := Lib.hid hle
      clear hle
      by_cases hlt : i < n
      · obtain ⟨g1, p1, e1, -, -, hc1, -⟩ := HV.out.cell (j := i) (by have := HN.out; omega)
        simp only [Value.slice.injEq] at e1
        obtain ⟨rfl, -, rfl⟩ := e1
        obtain ⟨g2, p2, e2, -, -, hc2, -⟩ := HU.out.cell (j := i) (by have := HN.out; have := HL.out; omega)
        simp only [Value.slice.injEq] at e2
        obtain ⟨rfl, -, rfl⟩ := e2
        have hii : (i : Int) < (n : Int) := by omega
        have HLT := Lib.hid (show xs.getD i 0 = ys.getD i 0 → ∀ j, j < i + 1 → xs.getD j 0 = ys.getD j 0 from fun h j hj => by
          by_cases e : j = i
          · subst e; exact h
          · exact HLE.out j (by omega))
        have HNO := Lib.hid (show xs.getD i 0 ≠ ys.getD i 0 → decide (xs = ys) = false from fun h => decide_eq_false fun e => h (by rw [e]))
        generalize xs.getD i 0 = x at *
        generalize ys.getD i 0 = y at *
        by_cases c : x = y
        · have HL2 := Lib.hid (HLT.out c)
          have cd : (x != y) = false := by simpa using c
          clear c
          go_wp2
          go_quiet (fail)
          go_wp2
          refine ⟨⟨i + 1, q + nq, by omega, by simp, by simp, HL2.out⟩, by simp [intOf]; omega⟩
        · have HN2 := Lib.hid (HNO.out c)
          have cd : (x != y) = true := by simpa using c
          clear c
          go_wp2
          go_quiet (fail)
          go_wp2
          go_ret
          exact ⟨ret_bool HN2.out.symm, _, by first | rfl | exact World.drewN_drewN _ _ _⟩
      · obtain rfl : i = n := by omega
        go_wp2
        go_ret
        refine ⟨ret_bool (decide_eq_true ?_).symm, _, rfl⟩
        have h1 := HN.out
        have h2 := HL.out
        apply List.ext_getElem (by omega)
        intro j h3 h4
        have := HLE.out j (by omega)
        rw [List.getD_eq_getElem?_getD, List.getD_eq_getElem?_getD, List.getElem?_eq_getElem h3, List.getElem?_eq_getElem h4] at this
        exact this
  · have HF := Lib.hid (show decide (xs = ys) = false from decide_eq_false fun e => hlen (by rw [e]))
    have hnn : ((xs.length : Int) != (ys.length : Int)) = true := by simp; omega
    clear hv hu
    go_enter Try.func75, Try.ntmps75
    go_wp2
    go_ret
    exact ⟨ret_bool HF.out.symm, 0, rfl⟩

theorem fst_step {xs : List Int} {n i : Nat} (h : ¬ (xs.length : Int) - 1 ≤ i + xs.getD i 0) : fst xs (n + 1) i = fst xs n (i + 1) := by rw [fst, if_neg h]
theorem fst_hit {xs : List Int} {n i : Nat} (h : (xs.length : Int) - 1 ≤ i + xs.getD i 0) : fst xs (n + 1) i = some i := by rw [fst, if_pos h]
set_option maxRecDepth 100000 in
set_option maxHeartbeats 3200000 in
theorem l16BuildF : ∀ (f : Nat) (xs : List Int), xs.length ≤ f → xs.length ≤ 8 → (∀ y ∈ xs, 0 ≤ y ∧ y ≤ 100) → ∀ (w : World) (A : Option Addr) (cap : Nat), SubI w A cap xs →
    Calls Try.prog 74 #[.slice A xs.length cap] w fun e w' => e = .returned (.string (baL (sh (bwF f xs)))) ∧ ∃ m, w' = w.drewN m := by
  intro f
  induction f with
  | zero =>
    intro xs h h8 hbd w A cap hv
    obtain rfl : xs = [] := List.eq_nil_of_length_eq_zero (by omega)
    simp only [List.length_nil]
    go_enter Try.func74, Try.ntmps74
    go_wp2
    go_loop [3] (fun y => y = .int .i64 0) (fun _ => 0)
    case atStart => rfl
    case round =>
      subst hrel
      go_wp2
      go_ret
      exact ⟨rfl, 0, rfl⟩
  | succ f ih =>
    intro xs h h8 hbd w A cap hv
    have HIH := Lib.hid ih
    have HV := Lib.hid hv
    have HBD := Lib.hid hbd
    have hxc := hv.1
    have HFU := Lib.hid h
    obtain ⟨n, hn⟩ : ∃ n, n = xs.length := ⟨_, rfl⟩
    have HN := Lib.hid hn
    rw [← hn] at h8
    rw [← hn]
    clear ih hv hbd h hn
    go_enter Try.func74, Try.ntmps74
    go_wp2
    go_loopw [3] (fun y wr => ∃ i : Nat, i ≤ n ∧ y = .int .i64 i ∧ wr = w ∧ fst xs n 0 = fst xs (n - i) i) (fun y _ => n - (intOf y).toNat)
    case atStart => exact ⟨0, Nat.zero_le _, rfl, rfl, rfl⟩
    case round =>
      obtain ⟨i, hi, rfl, rfl, hf⟩ := hrel
      have HF := Lib.hid hf
      clear hf
      by_cases hlt : i < n
      · have hii : (i : Int) < (n : Int) := by omega
        obtain ⟨g, o, hA, hc⟩ := HV.out.2 i (by have := HN.out; omega)
        obtain ⟨x0, x1⟩ := HBD.out (xs.getD i 0) (by
          have := HN.out
          rw [List.getD_eq_getElem?_getD, List.getElem?_eq_getElem (by omega)]; exact List.getElem_mem _)
        obtain ⟨q, hq⟩ : ∃ q, q = n - (i + 1) := ⟨_, rfl⟩
        have HQ := Lib.hid (show n - i = q + 1 by omega)
        have HA := Lib.hid hA
        by_cases e : (n : Int) - 1 ≤ i + xs.getD i 0
        · have HB := Lib.hid (show bwF (f + 1) xs = .node (bwF f (xs.take i)) (bwF f (xs.drop (i + 1))) from bwF_some (by
            have h1 := HN.out
            rw [← h1, HF.out, HQ.out]; exact fst_hit (by rw [← h1]; exact e)))
          have hsl := fun W => run_upto W A n cap i (by have := HN.out; omega)
          have hsr := fun W => run_from W A n cap (i + 1) (by omega)
          rw [show (((i + 1 : Nat) : Int)) = (i : Int) + 1 by omega] at hsr
          have HL := Lib.hid (fun m => HIH.out (xs.take i) (by have := HN.out; have := HFU.out; rw [List.length_take]; omega) (by have := HN.out; rw [List.length_take]; omega) (fun y hy => HBD.out y (List.mem_of_mem_take hy)) (wr.drewN m) A cap (HV.out.upto i (by have := HN.out; omega)))
          have HR := Lib.hid (fun m => HIH.out (xs.drop (i + 1)) (by have := HN.out; have := HFU.out; rw [List.length_drop]; omega) (by have := HN.out; rw [List.length_drop]; omega) (fun y hy => HBD.out y (List.mem_of_mem_drop hy)) (wr.drewN m) _ _ (HV.out.from (i + 1) (by have := HN.out; omega)))
          rw [show (xs.take i).length = i by have := HN.out; rw [List.length_take]; omega] at HL
          rw [show (xs.drop (i + 1)).length = n - (i + 1) by have := HN.out; rw [List.length_drop]; omega] at HR
          have zl : (baL (sh (bwF f (xs.take i)))).size ≤ 25 := by have := bwF_nds f (xs.take i); have := HN.out; rw [List.length_take] at *; rw [sz_sh]; omega
          have zr : (baL (sh (bwF f (xs.drop (i + 1))))).size ≤ 25 := by have := bwF_nds f (xs.drop (i + 1)); have := HN.out; rw [List.length_drop] at *; rw [sz_sh]; omega
          have HC := Lib.hid (cat_node (bwF f (xs.take i)) (bwF f (xs.drop (i + 1))))
          rw [← HB.out] at HC
          generalize baL (sh (bwF f (xs.take i))) = SL at *
          generalize baL (sh (bwF f (xs.drop (i + 1)))) = SR at *
          generalize (if cap = i + 1 then A else A.map (·.add (i + 1))) = A2 at *
          generalize cap - (i + 1) = cap2 at *
          generalize n - (i + 1) = n2 at *
          have z1 : ¬ 9223372036854775807 < (⟨#[40]⟩ : ByteArray).size + SL.size := by rw [one_size]; omega
          have z2 : ¬ 9223372036854775807 < (⟨#[40]⟩ ++ SL : ByteArray).size + SR.size := by rw [ByteArray.size_append, one_size]; omega
          have z3 : ¬ 9223372036854775807 < ((⟨#[40]⟩ ++ SL) ++ SR : ByteArray).size + (⟨#[41]⟩ : ByteArray).size := by simp only [ByteArray.size_append, one_size]; omega
          clear hq
          generalize xs.getD i 0 = x at *
          subst hA
          go_wp2
          go_quiet (first | (with_reducible exact quiet_on (HL.out _)) | (with_reducible exact quiet_on (HR.out _)))
          go_wp2
          go_ret
          exact ⟨ret_str HC.out, _, rfl⟩
        · have HS := Lib.hid (show fst xs n 0 = fst xs q (i + 1) by
            rw [HF.out, HQ.out]; exact fst_step (by rw [← HN.out]; exact e))
          have HQ2 := Lib.hid hq
          clear hq
          generalize xs.getD i 0 = x at *
          subst hA
          go_wp2
          exact ⟨⟨i + 1, by omega, by simp, by first | rfl | trivial, by rw [HS.out, HQ2.out]⟩, by simp [intOf]; omega⟩
      · obtain rfl : i = n := by omega
        have HB := Lib.hid (show bwF (f + 1) xs = .leaf from bwF_none (by
          rw [← HN.out, HF.out, Nat.sub_self]; rfl))
        go_wp2
        go_ret
        exact ⟨ret_str (by rw [HB.out]; rfl), 0, rfl⟩

theorem wob_bad {xs : List Int} {i : Nat} (hi : i < xs.length) (h : ¬ (0 ≤ xs.getD i 0 ∧ xs.getD i 0 ≤ (xs.length : Int) - 1 - i)) : wobP xs = ⟨#[]⟩ ∧ wobB xs = false := by
  refine wobP_no (.inr fun t ht => h ?_)
  subst ht
  have := wts_bd t i (by rw [← wts_len]; exact hi)
  rw [wts_len] at *
  omega
theorem wob_bw {xs : List Int} (h8 : xs.length ≤ 8) : (decide (wts (bwF xs.length xs) = xs) = true ∧ wobP xs = baL (sh (bwF xs.length xs)) ∧ wobB xs = true) ∨ (decide (wts (bwF xs.length xs) = xs) = false ∧ wobP xs = ⟨#[]⟩ ∧ wobB xs = false) := by
  by_cases e : wts (bwF xs.length xs) = xs
  · left
    obtain ⟨T, hT⟩ : ∃ T, T = bwF xs.length xs := ⟨_, rfl⟩
    rw [← hT] at e ⊢
    have hn : nds T ≤ 8 := by rw [← wts_len, e]; exact h8
    have := wobP_yes hn
    rw [e] at this
    exact ⟨decide_eq_true e, this.1, this.2⟩
  · right
    refine ⟨decide_eq_false e, wobP_no (.inr fun t ht => e ?_)⟩
    have hn : nds t ≤ xs.length := by rw [ht, wts_len]; exact Nat.le_refl _
    have := bw_wts t xs.length hn
    rw [← ht] at this
    rw [this, ← ht]

set_option maxRecDepth 100000 in
set_option maxHeartbeats 1600000 in
theorem binaryOfWeights (A : Option Addr) (xs : List Int) (cap lo hi : Nat) (w : World) (ho : OwnI w lo hi (.slice A xs.length cap) xs) (hhi : hi ≤ w.heap.size) (hcap : xs.length ≤ cap) (hwf : ∀ y ∈ xs, (Lit.int .i64 y).wf = true) (hl : xs.length ≤ 1048576) :
    Calls Try.prog 29 #[.slice A xs.length cap] w fun e w' => e = .returned (.tuple #[.string (wobP xs), .bool (wobB xs)]) ∧ Below w.heap.size w w' := by
  have HO := Lib.hid ho
  obtain ⟨n, hn⟩ : ∃ n, n = xs.length := ⟨_, rfl⟩
  have HN := Lib.hid hn
  rw [← hn]
  rw [← hn] at hl
  clear ho hwf hn
  go_enter Try.func29, Try.ntmps29
  go_wp2
  go_loopw [4] (fun y wr => ∃ i : Nat, i ≤ n ∧ y = .int .i64 i ∧ wr = w ∧ ∀ j, j < i → 0 ≤ xs.getD j 0 ∧ xs.getD j 0 ≤ (n : Int) - 1 - j) (fun y _ => n - (intOf y).toNat)
  case atStart => exact ⟨0, Nat.zero_le _, rfl, rfl, fun j h => absurd h (Nat.not_lt_zero _)⟩
  case round =>
    obtain ⟨i, hi, rfl, rfl, hle⟩ := hrel
    have HLE := Lib.hid hle
    clear hle
    by_cases hlt : i < n
    · obtain ⟨g1, p1, e1, -, -, hc1, -⟩ := HO.out.cell (j := i) (by have := HN.out; omega)
      simp only [Value.slice.injEq] at e1
      obtain ⟨rfl, -, rfl⟩ := e1
      have hii : (i : Int) < (n : Int) := by omega
      obtain ⟨q, hq⟩ : ∃ q : Nat, q = n - 1 - i := ⟨_, rfl⟩
      have g1' : (n : Int) - 1 - (i : Int) = (q : Int) := by omega
      have HQ := Lib.hid (show (q : Int) = (n : Int) - 1 - (i : Int) by omega)
      have hqn : q ≤ 1048576 := by omega
      by_cases e : 0 ≤ xs.getD i 0 ∧ xs.getD i 0 ≤ (q : Int)
      · have HI := Lib.hid (fun W => l1In_yes (xs.getD i 0) 0 (q : Int) W e.1 e.2)
        have HSTEP := Lib.hid (show ∀ j, j < i + 1 → 0 ≤ xs.getD j 0 ∧ xs.getD j 0 ≤ (n : Int) - 1 - j from fun j hj => by
          by_cases ej : j = i
          · subst ej; rw [← HQ.out]; exact e
          · exact HLE.out j (by omega))
        clear e hq
        generalize xs.getD i 0 = x at *
        go_wp2_with fail
        (with_reducible refine (HI.out _).mono ?_)
        rintro e w' ⟨rfl, rfl⟩
        go_wp2
        exact ⟨⟨i + 1, by omega, by simp, by first | rfl | trivial, HSTEP.out⟩, by simp [intOf]; omega⟩
      · have HI := Lib.hid (fun W => l1In_not (xs.getD i 0) 0 (q : Int) W e)
        have HP := Lib.hid (wob_bad (xs := xs) (i := i) (by have := HN.out; omega) (by rw [← HN.out, ← HQ.out]; exact e))
        clear e hq
        generalize xs.getD i 0 = x at *
        go_wp2_with fail
        (with_reducible refine (HI.out _).mono ?_)
        rintro e w' ⟨rfl, rfl⟩
        go_wp2
        go_ret2
        exact ⟨ret_sb HP.out.1.symm HP.out.2.symm, Below.refl _ _⟩
    · obtain rfl : i = n := by omega
      by_cases h8 : 8 < i
      · have HP := Lib.hid (wobP_no (xs := xs) (.inl (by rw [← HN.out]; exact h8)))
        have h8i : (8 : Int) < (i : Int) := by omega
        go_wp2
        go_ret2
        exact ⟨ret_sb HP.out.1.symm HP.out.2.symm, Below.refl _ _⟩
      · have h8i : ¬ (8 : Int) < (i : Int) := by omega
        have HB := Lib.hid (l16BuildF xs.length xs (Nat.le_refl _) (by rw [← HN.out]; omega) (fun y hy => by
          obtain ⟨k, hk, rfl⟩ := List.getElem_of_mem hy
          have h1 := HLE.out k (by rw [HN.out]; exact hk)
          rw [List.getD_eq_getElem?_getD, List.getElem?_eq_getElem hk, Option.getD_some] at h1
          omega) wr A cap (SubI.own HO.out hcap))
        have hn8 : nds (bwF xs.length xs) ≤ 8 := by have := bwF_nds xs.length xs; have := HN.out; omega
        have HW := Lib.hid (fun W => weightsOf (baL (sh (bwF xs.length xs))) W (by rw [sz_sh]; omega))
        rw [wtsP_sh hn8] at HW
        have HWL := Lib.hid (show (wts (bwF xs.length xs)).length ≤ 8 by rw [wts_len]; exact hn8)
        have HD := Lib.hid (wob_bw (xs := xs) (by rw [← HN.out]; omega))
        clear hn8
        generalize bwF xs.length xs = T at *
        rw [← HN.out] at HB
        generalize baL (sh T) = ST at *
        generalize wts T = ws at *
        go_wp2_with fail
        (with_reducible refine HB.out.mono ?_)
        rintro e w1 ⟨rfl, q1, rfl⟩
        go_wp2_with fail
        (with_reducible refine (HW.out _).mono ?_)
        rintro e w2 ⟨v2, rfl, o2, hb2⟩
        have HB2 := Lib.hid (show Below wr.heap.size wr w2 from (below_drewN (Below.refl _ _) q1).trans hb2)
        have HS := Lib.hid (l13Same v2 (.slice A xs.length cap) ws xs _ _ _ _ w2 o2 ((HO.out.keep HB2.out hhi)) (by have := HWL.out; omega) (by rw [← HN.out]; omega))
        rw [← HN.out] at HS
        obtain ⟨A2, c2, rfl, -⟩ := id o2
        clear o2 hb2
        rcases HD.out with ⟨d1, d2, d3⟩ | ⟨d1, d2, d3⟩
        · rw [d1] at HS
          have HP := Lib.hid (And.intro d2 d3)
          clear d1 d2 d3
          go_wp2_with fail
          (with_reducible refine HS.out.mono ?_)
          rintro e w3 ⟨rfl, q3, rfl⟩
          go_wp2
          go_ret2
          exact ⟨ret_sb HP.out.1.symm HP.out.2.symm, below_drewN HB2.out _⟩
        · rw [d1] at HS
          have HP := Lib.hid (And.intro d2 d3)
          clear d1 d2 d3
          go_wp2_with fail
          (with_reducible refine HS.out.mono ?_)
          rintro e w3 ⟨rfl, q3, rfl⟩
          go_wp2
          go_ret2
          exact ⟨ret_sb HP.out.1.symm HP.out.2.symm, below_drewN HB2.out _⟩

end Go.Proofs.Ytbbbnnkkjgikbaa
