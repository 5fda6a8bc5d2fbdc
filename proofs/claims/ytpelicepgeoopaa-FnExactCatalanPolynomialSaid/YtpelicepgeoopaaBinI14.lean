/- Gaussian binomials: the program's gaussian, and BinomialPolynomial of both. -/
import Derived.Test.YtpelicepgeoopaaBin14
namespace Go.Proofs.Ytpelicepgeoopaa
open Go.ChangeShapes Go.WideShapes Go.ChangeAt Go.RowKit
set_option linter.unusedVariables false

theorem gs_zero (n : Nat) : gsP n 0 = [1] := by cases n with
  | zero => rfl
  | succ n => rw [gsP, if_pos (.inl rfl)]
theorem gs_full (n : Nat) : gsP n n = [1] := by cases n with
  | zero => rfl
  | succ n => rw [gsP, if_pos (.inr rfl)]
theorem gs_inB {m j : Nat} (hm : m < 15) (hj : j < m + 1) : inB 100000 (gsP m j) = true := by
  rw [inB_iff]
  intro q _
  have := gs_at (q := q) hm hj
  omega
theorem own_oneG (w : World) (b : Nat) (hb : b = w.heap.size) : OwnI (w.alloc (.cells #[.int .i64 1] 3)) w.heap.size (w.alloc (.cells #[.int .i64 1] 3)).heap.size (.slice (some ⟨b, 0, none⟩) 1 1) [1] := by
  subst hb
  refine ⟨_, 1, rfl, .inr ⟨w.heap.size, #[.int .i64 1], Nat.le_refl _, by simp, rfl, by rw [show ∀ o, (w.alloc o).heap = w.heap.push o from fun _ => rfl]; simp, fun j hj => ?_⟩⟩
  match j, hj with
  | 0, _ => rfl

/-- Ints in memory of their own, with room for them. -/
def AnsIC (xs : List Int) (w : World) (e : Ending) (w' : World) : Prop := ∃ A c, e = .returned (.slice A xs.length c) ∧ xs.length ≤ c ∧ OwnI w' w.heap.size w'.heap.size (.slice A xs.length c) xs ∧ Below w.heap.size w w'

set_option maxRecDepth 100000 in
set_option maxHeartbeats 3200000 in
theorem gaussianF : ∀ n k : Nat, n < 15 → k ≤ n → ∀ w, Calls Try.prog 24 #[.int .i64 (n : Int), .int .i64 (k : Int)] w (AnsIC (gsP n k) w) := by
  intro n
  induction n with
  | zero =>
    intro k _ hk w
    obtain rfl : k = 0 := by omega
    go_enter Try.func24, Try.ntmps24
    go_wp2
    go_ret
    exact ⟨_, _, rfl, Nat.le_refl _, own_oneG w _ rfl, (Below.refl _ _).alloc (Nat.le_refl _) _⟩
  | succ n ih =>
    intro k hn hk w
    have HIH := Lib.hid ih
    clear ih
    by_cases hk0 : k = 0
    · subst hk0
      have HP := Lib.hid (gs_zero (n + 1))
      go_enter Try.func24, Try.ntmps24
      go_wp2
      go_ret
      rw [HP.out]
      exact ⟨_, _, rfl, Nat.le_refl _, own_oneG w _ rfl, (Below.refl _ _).alloc (Nat.le_refl _) _⟩
    · obtain ⟨m, hm⟩ : ∃ m, m = n + 1 := ⟨_, rfl⟩
      rw [← hm]
      have hk0i : ((k : Int) == 0) = false := beq_eq_false_iff_ne.2 (by omega)
      by_cases hkn : k = m
      · have HP := Lib.hid (gs_full m)
        subst hkn
        have hkk : ((k : Int) == (k : Int)) = true := by simp
        clear hm hk0
        go_enter Try.func24, Try.ntmps24
        go_wp2
        go_ret
        rw [HP.out]
        exact ⟨_, _, rfl, Nat.le_refl _, own_oneG w _ rfl, (Below.refl _ _).alloc (Nat.le_refl _) _⟩
      · have hkk : ((k : Int) == (m : Int)) = false := beq_eq_false_iff_ne.2 (by omega)
        have hm1 : (m : Int) - 1 = (n : Int) := by omega
        obtain ⟨j, hj⟩ : ∃ j, j = k - 1 := ⟨_, rfl⟩
        have hk1 : (k : Int) - 1 = (j : Int) := by omega
        obtain ⟨d, hd⟩ : ∃ d, d = m - k := ⟨_, rfl⟩
        have hmd : (m : Int) - (k : Int) = (d : Int) := by omega
        have HP := Lib.hid (show gsP m k = trL (adL (gsP n k) (tmL 1 d (gsP n j))) by rw [hm, gsP, if_neg (by omega), hd, hj, hm])
        have HC1 := Lib.hid (fun W => HIH.out k (by omega) (by omega) W)
        have HC2 := Lib.hid (fun W => HIH.out j (by omega) (by omega) W)
        obtain ⟨l1, l2⟩ := gs_len n (by omega) k (by omega)
        obtain ⟨l3, l4⟩ := gs_len n (by omega) j (by omega)
        have L1 : (gsP n k).length ≤ 50 := by omega
        have L3 : (gsP n j).length ≤ 50 := by omega
        have HIN := Lib.hid (gs_inB (m := n) (j := j) (by omega) (by omega))
        have HB1 := Lib.hid (fun q => gs_at (m := n) (j := k) (q := q) (by omega) (by omega))
        have HB2 := Lib.hid (fun q => gs_at (m := n) (j := j) (q := q) (by omega) (by omega))
        have hd14 : d ≤ 14 := by omega
        have HTL := Lib.hid (tmL_len 1 d (gsP n j))
        clear hm hj hd hk0 hkn l1 l2 l3 l4
        go_enter Try.func24, Try.ntmps24
        go_wp2_with fail
        (with_reducible refine (HC1.out _).mono ?_)
        rintro e w1 ⟨A1, c1, rfl, hc1, ho1, hb1⟩
        have HO1 := Lib.hid ho1
        have HBB1 := Lib.hid hb1
        have hz1 := hb1.size
        clear ho1 hb1
        go_wp2_with fail
        (with_reducible refine (HC2.out _).mono ?_)
        rintro e w2 ⟨A2, c2, rfl, hc2, ho2, hb2⟩
        have HO2 := Lib.hid ho2
        have HO12 := Lib.hid (HO1.out.keep hb2 (Nat.le_refl _))
        have HBB2 := Lib.hid (HBB1.out.trans (hb2.mono hz1))
        have hz2 := hb2.size
        clear ho2 hb2
        have HT := Lib.hid (termTimes 1 d A2 (gsP n j) c2 w1.heap.size w2.heap.size w2 HO2.out (Nat.le_refl _) (by omega) (by omega) (by omega) (by omega) HIN.out)
        go_wp2_with fail
        (with_reducible refine HT.out.mono ?_)
        rintro e w3 ⟨v3, rfl, ho3, hb3⟩
        obtain ⟨A3, c3, e3, -⟩ := id ho3
        subst e3
        have hz3 := hb3.size
        have HPL := Lib.hid (plusI A1 A3 (gsP n k) (tmL 1 d (gsP n j)) c1 c3 _ _ _ _ w3 100000 (by omega) (by omega) (HO12.out.keep hb3 hz2) ho3 (by omega) (Nat.le_refl _) (by omega) (by rw [HTL.out]; omega) (fun q => by have := HB1.out q; omega) (fun q => by
          by_cases hq : q < d + (gsP n j).length
          · rw [tmL_at 1 d (gsP n j) hq]
            unfold tmF
            split
            · have := HB2.out (q - d); omega
            · omega
          · rw [List.getD_eq_getElem?_getD, List.getElem?_eq_none (by rw [HTL.out]; omega)]
            exact ⟨by decide, by decide⟩))
        have HBB3 := Lib.hid (HBB2.out.trans (hb3.mono (by omega)))
        clear ho3 hb3
        go_wp2_with fail
        (with_reducible refine HPL.out.mono ?_)
        rintro e w4 ⟨A4, c4, rfl, hc4, ho4, hb4⟩
        have HO4 := Lib.hid (ho4.wide (show w.heap.size ≤ w3.heap.size by omega) (Nat.le_refl _))
        have HBB4 := Lib.hid (HBB3.out.trans (hb4.mono (by omega)))
        clear ho4 hb4
        go_wp2
        go_ret
        rw [HP.out]
        exact ⟨_, _, rfl, hc4, HO4.out, HBB4.out⟩

def gbOk (n k : Int) : Bool := decide (0 ≤ n ∧ n ≤ 14 ∧ 0 ≤ k ∧ k ≤ n)
def gbP (n k : Int) : List Int := if gbOk n k = true then gsP n.toNat k.toNat else []
theorem gbP_len (n k : Int) : (gbP n k).length ≤ 1048576 := by
  unfold gbP
  split
  · rename_i h
    have h2 := of_decide_eq_true h
    obtain ⟨l1, l2⟩ := gs_len n.toNat (by omega) k.toNat (by omega)
    omega
  · simp

set_option maxRecDepth 100000 in
theorem binomialPolynomial (n k : Int) (w : World) : Calls Try.prog 8 #[.int .i64 n, .int .i64 k] w (AnsIB (gbP n k) (gbOk n k) w) := by
  by_cases h1 : 0 ≤ n ∧ n ≤ 14
  · have HI1 := Lib.hid (fun W => l1In_yes n 0 14 W h1.1 h1.2)
    by_cases h2 : 0 ≤ k ∧ k ≤ n
    · have HO := Lib.hid (show gbOk n k = true from decide_eq_true (by omega))
      have HP := Lib.hid (show gbP n k = gsP n.toNat k.toNat from if_pos HO.out)
      have HI2 := Lib.hid (fun W => l1In_yes k 0 n W h2.1 h2.2)
      obtain ⟨a, rfl⟩ : ∃ a : Nat, n = (a : Int) := ⟨n.toNat, by omega⟩
      obtain ⟨b, rfl⟩ : ∃ b : Nat, k = (b : Int) := ⟨k.toNat, by omega⟩
      rw [Int.toNat_natCast, Int.toNat_natCast] at HP
      have HC := Lib.hid (fun W => l14Binomial a b (by omega) (by omega) W)
      clear h1 h2
      go_enter Try.func8, Try.ntmps8
      go_wp2_with fail
      (with_reducible refine (HI1.out _).mono ?_)
      rintro e w' ⟨rfl, rfl⟩
      go_wp2_with fail
      (with_reducible refine (HI2.out _).mono ?_)
      rintro e w' ⟨rfl, rfl⟩
      go_wp2_with fail
      (with_reducible refine (HC.out _).mono ?_)
      rintro e w2 ⟨v2, rfl, ho, hb⟩
      go_wp2
      go_ret2
      exact ⟨_, ret_ib rfl HO.out.symm, by rw [HP.out]; exact ho, hb⟩
    · have HO := Lib.hid (show gbOk n k = false from decide_eq_false (by omega))
      have HP := Lib.hid (show gbP n k = [] from if_neg (by simp [HO.out]))
      have HI2 := Lib.hid (fun W => l1In_not k 0 n W h2)
      clear h1 h2
      go_enter Try.func8, Try.ntmps8
      go_wp2_with fail
      (with_reducible refine (HI1.out _).mono ?_)
      rintro e w' ⟨rfl, rfl⟩
      go_wp2_with fail
      (with_reducible refine (HI2.out _).mono ?_)
      rintro e w' ⟨rfl, rfl⟩
      go_wp2
      go_ret2
      exact ⟨_, ret_ib rfl HO.out.symm, by rw [HP.out]; exact ⟨_, _, rfl, .inl rfl⟩, (Below.refl _ _).alloc (Nat.le_refl _) _⟩
  · have HO := Lib.hid (show gbOk n k = false from decide_eq_false (by omega))
    have HP := Lib.hid (show gbP n k = [] from if_neg (by simp [HO.out]))
    have HI1 := Lib.hid (fun W => l1In_not n 0 14 W h1)
    clear h1
    go_enter Try.func8, Try.ntmps8
    go_wp2_with fail
    (with_reducible refine (HI1.out _).mono ?_)
    rintro e w' ⟨rfl, rfl⟩
    go_wp2
    go_ret2
    exact ⟨_, ret_ib rfl HO.out.symm, by rw [HP.out]; exact ⟨_, _, rfl, .inl rfl⟩, (Below.refl _ _).alloc (Nat.le_refl _) _⟩

set_option maxRecDepth 100000 in
theorem binomialPolynomialI (n k : Int) (w : World) : Calls Try.prog 9 #[.int .i64 n, .int .i64 k] w (AnsIB (gbP n k) (gbOk n k) w) := by
  by_cases h1 : 0 ≤ n ∧ n ≤ 14 ∧ 0 ≤ k ∧ k ≤ n
  · have HO := Lib.hid (show gbOk n k = true from decide_eq_true h1)
    have HP := Lib.hid (show gbP n k = gsP n.toNat k.toNat from if_pos HO.out)
    obtain ⟨a, rfl⟩ : ∃ a : Nat, n = (a : Int) := ⟨n.toNat, by omega⟩
    obtain ⟨b, rfl⟩ : ∃ b : Nat, k = (b : Int) := ⟨k.toNat, by omega⟩
    rw [Int.toNat_natCast, Int.toNat_natCast] at HP
    have HC := Lib.hid (fun W => gaussianF a b (by omega) (by omega) W)
    have h2 : ¬ ((a : Int) < 0) := by omega
    have h3 : ¬ ((14 : Int) < (a : Int)) := by omega
    have h4 : ¬ ((b : Int) < 0) := by omega
    have h5 : ¬ ((a : Int) < (b : Int)) := by omega
    clear h1
    go_enter Try.func9, Try.ntmps9
    go_wp2_with fail
    (with_reducible refine (HC.out _).mono ?_)
    rintro e w2 ⟨A2, c2, rfl, hc2, ho, hb⟩
    go_wp2
    go_ret2
    exact ⟨_, ret_ib rfl HO.out.symm, by rw [HP.out]; exact ho, hb⟩
  · have HO := Lib.hid (show gbOk n k = false from decide_eq_false h1)
    have HP := Lib.hid (show gbP n k = [] from if_neg (by simp [HO.out]))
    by_cases h2 : n < 0
    · clear h1
      go_enter Try.func9, Try.ntmps9
      go_wp2
      go_ret2
      exact ⟨_, ret_ib rfl HO.out.symm, by rw [HP.out]; exact ⟨_, _, rfl, .inl rfl⟩, Below.refl _ _⟩
    · by_cases h3 : 14 < n
      · clear h1
        go_enter Try.func9, Try.ntmps9
        go_wp2
        go_ret2
        exact ⟨_, ret_ib rfl HO.out.symm, by rw [HP.out]; exact ⟨_, _, rfl, .inl rfl⟩, Below.refl _ _⟩
      · by_cases h4 : k < 0
        · clear h1
          go_enter Try.func9, Try.ntmps9
          go_wp2
          go_ret2
          exact ⟨_, ret_ib rfl HO.out.symm, by rw [HP.out]; exact ⟨_, _, rfl, .inl rfl⟩, Below.refl _ _⟩
        · have h5 : n < k := by omega
          clear h1
          go_enter Try.func9, Try.ntmps9
          go_wp2
          go_ret2
          exact ⟨_, ret_ib rfl HO.out.symm, by rw [HP.out]; exact ⟨_, _, rfl, .inl rfl⟩, Below.refl _ _⟩

end Go.Proofs.Ytpelicepgeoopaa
