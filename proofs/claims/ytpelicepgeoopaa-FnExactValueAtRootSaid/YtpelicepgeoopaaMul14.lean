/- The model's MultiplyPolynomials. -/
import Derived.Test.YtpelicepgeoopaaAdd14
import Derived.BigRegion
namespace Go.Proofs.Ytpelicepgeoopaa
open Go.ChangeShapes Go.WideShapes Go.ChangeAt Go.RowKit
set_option linter.unusedVariables false

/-- What the first i numbers of a give, times b, at q. -/
def cvF (a b : List Int) : Nat → Nat → Int
  | 0, _ => 0
  | i + 1, q => cvF a b i q + if i ≤ q ∧ q < i + b.length then a.getD i 0 * b.getD (q - i) 0 else 0
def cvI (a b : List Int) (i j : Nat) : Nat → Int := fun q => cvF a b i q + if i ≤ q ∧ q < i + j then a.getD i 0 * b.getD (q - i) 0 else 0
theorem cvI_zero (a b : List Int) (i : Nat) : cvI a b i 0 = cvF a b i := by funext q; unfold cvI; rw [if_neg (by omega)]; omega
theorem cvI_full (a b : List Int) (i : Nat) : cvI a b i b.length = cvF a b (i + 1) := rfl
theorem cvI_here (a b : List Int) (i j : Nat) : cvI a b i j (i + j) = cvF a b i (i + j) := by unfold cvI; rw [if_neg (by omega)]; omega
theorem cvI_succ (a b : List Int) (i j : Nat) : cvI a b i (j + 1) = upd (cvI a b i j) (i + j) (cvF a b i (i + j) + a.getD i 0 * b.getD j 0) := by
  funext q
  by_cases e : q = i + j
  · subst e; rw [upd_at]; unfold cvI; rw [if_pos (by omega), show i + j - i = j by omega]
  · rw [upd_ne _ _ e]
    unfold cvI
    by_cases h2 : i ≤ q ∧ q < i + j
    · rw [if_pos h2, if_pos (by omega)]
    · rw [if_neg h2, if_neg (by omega)]
theorem mul_small {x y : Int} (h1 : -100000 ≤ x) (h2 : x ≤ 100000) (h3 : -100000 ≤ y) (h4 : y ≤ 100000) : -10000000000 ≤ x * y ∧ x * y ≤ 10000000000 := by
  have : (x * y).natAbs ≤ 100000 * 100000 := by rw [Int.natAbs_mul]; exact Nat.mul_le_mul (by omega) (by omega)
  omega
theorem cvF_le {a b : List Int} (ha : inB 100000 a = true) (hb : inB 100000 b = true)   : ∀ (i q : Nat), -(10000000000 * (i : Int)) ≤ cvF a b i q ∧ cvF a b i q ≤ 10000000000 * (i : Int) := by
  intro i
  induction i with
  | zero => intro q; exact ⟨Int.le_refl _, Int.le_refl _⟩
  | succ i ih =>
    intro q
    have h := ih q
    rw [cvF]
    split
    · have h1 := inB_at ha (by omega) i
      have h2 := inB_at hb (by omega) (q - i)
      have := mul_small h1.1 h1.2 h2.1 h2.2
      omega
    · omega
/-- A factor. -/
def facB (xs : List Int) : Bool := inB 100000 xs && plyB xs
def mulR (a b : List Int) : List Int := (List.range (a.length + b.length - 1)).map (cvF a b a.length)
theorem mulR_len (a b : List Int) : (mulR a b).length = a.length + b.length - 1 := by simp [mulR]
theorem mulR_at (a b : List Int) {q : Nat} (h : q < a.length + b.length - 1) : (mulR a b).getD q 0 = cvF a b a.length q := by simp [mulR, List.getD, h]
def mulL (a b : List Int) : List Int := if a.length = 0 ∨ b.length = 0 then [] else trL (mulR a b)
def mulOk (a b : List Int) : Bool := facB a && facB b && decide (a.length + b.length ≤ 62) && plyB (mulL a b)
def mulP (a b : List Int) : List Int := if mulOk a b = true then mulL a b else []
theorem mulL_le (a b : List Int) : (mulL a b).length ≤ a.length + b.length := by
  unfold mulL
  split
  · simp
  · have := trL_le (mulR a b)
    rw [mulR_len] at this
    omega
theorem mulP_len (a b : List Int) : (mulP a b).length ≤ 61 := by
  unfold mulP
  split
  · rename_i h
    unfold mulOk at h
    rw [Bool.and_eq_true] at h
    exact (ply_yes h.2).1
  · simp

set_option maxRecDepth 100000 in
set_option maxHeartbeats 800000 in
theorem l14Small (A : Option Addr) (xs : List Int) (cap lo hi : Nat) (w : World) (ho : OwnI w lo hi (.slice A xs.length cap) xs) (hl : xs.length ≤ 1099511627776) :
    Calls Try.prog 36 #[.slice A xs.length cap] w fun e w' => e = .returned (.bool (facB xs)) ∧ w = w' := by
  have HO := Lib.hid ho
  have HPL := Lib.hid (isPolynomial A xs cap lo hi w ho hl)
  obtain ⟨n, hn⟩ : ∃ n, n = xs.length := ⟨_, rfl⟩
  have HN := Lib.hid hn
  rw [← hn] at hl HPL ⊢
  clear ho hn
  go_enter Try.func36, Try.ntmps36
  go_wp2
  go_loopw [3] (fun y wr => ∃ i : Nat, i ≤ n ∧ y = .int .i64 i ∧ wr = w ∧ ∀ j, j < i → -100000 ≤ xs.getD j 0 ∧ xs.getD j 0 ≤ 100000) (fun y _ => n - (intOf y).toNat)
  case atStart => exact ⟨0, Nat.zero_le _, rfl, rfl, fun j h => absurd h (Nat.not_lt_zero _)⟩
  case round =>
    obtain ⟨i, hi, rfl, rfl, hle⟩ := hrel
    have HLE := Lib.hid hle
    clear hle
    by_cases hlt : i < n
    · obtain ⟨g1, p1, e1, -, -, hc1, -⟩ := HO.out.cell (j := i) (by have := HN.out; omega)
      simp only [Value.slice.injEq] at e1
      obtain ⟨rfl, -, rfl⟩ := e1
      have hii : (i : Int) < (n : Int) := by omega
      by_cases e : -100000 ≤ xs.getD i 0 ∧ xs.getD i 0 ≤ 100000
      · have HI := Lib.hid (fun W => l1In_yes (xs.getD i 0) (-100000) 100000 W e.1 e.2)
        have HSTEP := Lib.hid (show ∀ j, j < i + 1 → -100000 ≤ xs.getD j 0 ∧ xs.getD j 0 ≤ 100000 from fun j hj => by
          by_cases ej : j = i
          · subst ej; exact e
          · exact HLE.out j (by omega))
        clear e
        generalize xs.getD i 0 = x at *
        go_wp2_with fail
        (with_reducible refine (HI.out _).mono ?_)
        rintro e w' ⟨rfl, rfl⟩
        go_wp2
        exact ⟨⟨i + 1, by omega, by simp, by first | rfl | trivial, HSTEP.out⟩, by simp [intOf]; omega⟩
      · have HI := Lib.hid (fun W => l1In_not (xs.getD i 0) (-100000) 100000 W e)
        have HP := Lib.hid (show facB xs = false by unfold facB; rw [inB_no (L := 100000) (i := i) (by have := HN.out; omega) e]; simp)
        clear e
        generalize xs.getD i 0 = x at *
        go_wp2_with fail
        (with_reducible refine (HI.out _).mono ?_)
        rintro e w' ⟨rfl, rfl⟩
        go_wp2
        go_ret
        exact ⟨ret_bool HP.out.symm, rfl⟩
    · obtain rfl : i = n := by omega
      have HIN := Lib.hid (show inB 100000 xs = true from (inB_iff _ _).2 fun j hj => HLE.out j (by rw [HN.out]; exact hj))
      have HP := Lib.hid (show facB xs = plyB xs by unfold facB; rw [HIN.out]; rfl)
      go_wp2_with fail
      (with_reducible refine HPL.out.mono ?_)
      rintro e w' ⟨rfl, rfl⟩
      go_wp2
      go_ret
      exact ⟨ret_bool HP.out.symm, rfl⟩

set_option maxRecDepth 100000 in
set_option maxHeartbeats 3200000 in
theorem l14Times (A A' : Option Addr) (xs ys : List Int) (cap cap' lo hi lo' hi' : Nat) (w : World) (hv : OwnI w lo hi (.slice A xs.length cap) xs) (hu : OwnI w lo' hi' (.slice A' ys.length cap') ys) (hhi : hi ≤ w.heap.size) (hhu : hi' ≤ w.heap.size) (hs : xs.length + ys.length ≤ 62) (ha : inB 100000 xs = true) (hb : inB 100000 ys = true) :
    Calls Try.prog 29 #[.slice A xs.length cap, .slice A' ys.length cap'] w (AnsI (mulL xs ys) w) := by
  have HV := Lib.hid hv
  have HU := Lib.hid hu
  by_cases h0 : xs.length = 0
  · have HM := Lib.hid (show mulL xs ys = [] from if_pos (.inl h0))
    have hz : ((xs.length : Int) == 0) = true := by simp [h0]
    have hz2 : (xs.length : Int) = 0 := by omega
    clear hv hu ha hb
    go_enter Try.func29, Try.ntmps29
    go_wp2
    go_ret
    exact ⟨_, rfl, by rw [HM.out]; exact ⟨_, _, rfl, .inl rfl⟩, (Below.refl _ _).alloc (Nat.le_refl _) _⟩
  by_cases h0' : ys.length = 0
  · have HM := Lib.hid (show mulL xs ys = [] from if_pos (.inr h0'))
    have hz : ((xs.length : Int) == 0) = false := beq_eq_false_iff_ne.2 (by omega)
    have hz2 : ((ys.length : Int) == 0) = true := by simp [h0']
    clear hv hu ha hb
    go_enter Try.func29, Try.ntmps29
    go_wp2
    go_ret
    exact ⟨_, rfl, by rw [HM.out]; exact ⟨_, _, rfl, .inl rfl⟩, (Below.refl _ _).alloc (Nat.le_refl _) _⟩
  have HMM := Lib.hid (show mulL xs ys = trL (mulR xs ys) from if_neg (by omega))
  have hz : ((xs.length : Int) == 0) = false := beq_eq_false_iff_ne.2 (by omega)
  have hz2 : ((ys.length : Int) == 0) = false := beq_eq_false_iff_ne.2 (by omega)
  have HBX := Lib.hid (fun q => inB_at ha (by omega) q)
  have HBY := Lib.hid (fun q => inB_at hb (by omega) q)
  have HCV := Lib.hid (fun i q => cvF_le ha hb i q)
  obtain ⟨M, hM⟩ : ∃ M : Nat, M = xs.length + ys.length - 1 := ⟨_, rfl⟩
  have HLEN := Lib.hid (show (mulR xs ys).length = M by rw [mulR_len, hM])
  have HAT := Lib.hid (fun q (h : q < M) => mulR_at xs ys (q := q) (by omega))
  have HTR := Lib.hid (fun W (h : OwnI W w.heap.size W.heap.size (.slice (some ⟨w.heap.size, 0, none⟩) M M) (mulR xs ys)) (hh : w.heap.size < W.heap.size) => l14Trim w.heap.size (mulR xs ys) M w.heap.size W.heap.size W (by rw [HLEN.out]; exact h) (Nat.le_refl _) hh (by rw [HLEN.out]; exact Nat.le_refl _) (by rw [HLEN.out]; omega))
  rw [HLEN.out] at HTR
  have hMi : (xs.length : Int) + (ys.length : Int) - 1 = (M : Int) := by omega
  have hMw : IntKind.i64.wrap (M : Int) = (M : Int) := IntWalk.i64_in _ (by omega)
  have hSw : IntKind.i64.wrap ((xs.length : Int) + (ys.length : Int)) = (xs.length : Int) + (ys.length : Int) := IntWalk.i64_in _ (by omega)
  have hMN := Lib.hid hM
  have hMl : M ≤ 61 := by omega
  obtain ⟨i0, hi0, hz0, hz1, hzb⟩ := info_parts info3
  clear hv hu ha hb hM h0 h0'
  go_enter Try.func29, Try.ntmps29
  go_wp2_with (at_make; go_must (refine wpList_make_full _ rfl _ _ 22 rfl w.heap.size 3 i0 (.int .i64 0) 1 Try.underlying22 hi0 hz0 hz1 .i64 .i64 (M : Int) (M : Int) M rfl rfl rfl rfl (by rw [hzb]; omega) (by unfold maxLen; omega) (Nat.le_refl _) ?_); intro w2 hown1 hgrow1)
  have HT0 := Lib.hid (show TabI w2 w.heap.size M (cvF xs ys 0) from TabI.made hown1)
  have HB2 := Lib.hid ((Below.refl w.heap.size w).grown hgrow1 (Nat.le_refl _) (fun k hk => by cases hk))
  clear hown1 hgrow1
  go_wp2
  go_loopw [6] (fun y wr => ∃ i : Nat, i ≤ xs.length ∧ y = .int .i64 i ∧ TabI wr w.heap.size M (cvF xs ys i) ∧ Below w.heap.size w wr) (fun y _ => xs.length - (intOf y).toNat)
  case atStart => exact ⟨0, Nat.zero_le _, rfl, HT0.out, HB2.out⟩
  case round =>
    obtain ⟨i, hi', rfl, htab, hb⟩ := hrel
    have HT := Lib.hid htab
    have HB3 := Lib.hid hb
    clear htab hb HT0 HB2
    by_cases hlt : i < xs.length
    · have hii : (i : Int) < (xs.length : Int) := by omega
      have HT1 := Lib.hid (show TabI wr w.heap.size M (cvI xs ys i 0) by rw [cvI_zero]; exact HT.out)
      have HFULL := Lib.hid (cvI_full xs ys i)
      have hiM : i + ys.length ≤ M := by have := hMN.out; omega
      have HC1 := Lib.hid (fun W (h : Below w.heap.size w W) => (HV.out.keep h hhi).cell hlt)
      go_wp2
      go_loopw [7] (fun y wr => ∃ j : Nat, j ≤ ys.length ∧ y = .int .i64 j ∧ TabI wr w.heap.size M (cvI xs ys i j) ∧ Below w.heap.size w wr) (fun y _ => ys.length - (intOf y).toNat)
      case atStart => exact ⟨0, Nat.zero_le _, rfl, HT1.out, HB3.out⟩
      case round =>
        obtain ⟨j, hj', rfl, htab, hb⟩ := hrel
        have HT2 := Lib.hid htab
        have HB4 := Lib.hid hb
        clear htab hb
        by_cases hlt2 : j < ys.length
        · have hji : (j : Int) < (ys.length : Int) := by omega
          obtain ⟨g1, p1, e1, -, -, hc1, -⟩ := HC1.out _ HB4.out
          obtain ⟨g2, p2, e2, -, -, hc2, -⟩ := (HU.out.keep HB4.out hhu).cell hlt2
          simp only [Value.slice.injEq] at e1 e2
          obtain ⟨rfl, -, rfl⟩ := e1
          obtain ⟨rfl, -, rfl⟩ := e2
          have HNX := Lib.hid (cvI_succ xs ys i j)
          obtain ⟨t, ht⟩ : ∃ t, t = i + j := ⟨_, rfl⟩
          obtain ⟨hc3, hf3⟩ := HT2.out.cell (j := t) (by omega)
          rw [ht, cvI_here, ← ht] at hc3
          rw [← ht] at HNX
          have hcv := HCV.out i t
          have hbx := HBX.out i
          have hby := HBY.out j
          generalize xs.getD i 0 = x at *
          generalize ys.getD j 0 = z at *
          generalize cvF xs ys i t = c at *
          have hxz := mul_small hbx.1 hbx.2 hby.1 hby.2
          generalize hp : x * z = p at *
          have v1 : IntKind.i64.wrap p = p := IntWalk.i64_in _ (by omega)
          have v2 : IntKind.i64.wrap (c + p) = c + p := IntWalk.i64_in _ (by omega)
          have hti : (i : Int) + (j : Int) = (t : Int) := by omega
          have htM : (t : Int) < (M : Int) := by omega
          have htN : t < M := by omega
          clear ht
          go_wp2
          go_region
          all_goals go_wp2
          all_goals go_roundw
          case rel => exact ⟨j + 1, by omega, by simp, by rw [HNX.out]; exact (HT2.out.set (k := t) htN _).keep rfl, (HB4.out.setCell (p := ⟨w.heap.size, t, none⟩) (Nat.le_refl _) _).drew⟩
          case measure => simp [intOf]; omega
        · obtain rfl : j = ys.length := by omega
          rw [HFULL.out] at HT2
          go_wp2
          exact ⟨⟨i + 1, by omega, by simp, HT2.out, HB4.out⟩, by simp [intOf]; omega⟩
    · obtain rfl : i = xs.length := by omega
      have HOW := Lib.hid (show OwnI wr w.heap.size wr.heap.size (.slice (some ⟨w.heap.size, 0, none⟩) M M) (mulR xs ys) from OwnI.of_tab HT.out HLEN.out (Nat.le_refl _) HAT.out (Nat.le_refl _) HT.out.lt)
      have hltw := HT.out.lt
      go_wp2_with fail
      (with_reducible refine (HTR.out _ HOW.out hltw).mono ?_)
      rintro e w4 ⟨v4, rfl, ho, hb⟩
      have HO4 := Lib.hid ho
      have HB5 := Lib.hid (HB3.out.trans (hb.mono HB3.out.size))
      have z5 := HB3.out.size
      clear ho hb
      go_wp2
      go_ret
      exact ⟨_, rfl, by rw [HMM.out]; exact HO4.out.wide z5 (Nat.le_refl _), HB5.out⟩

end Go.Proofs.Ytpelicepgeoopaa
