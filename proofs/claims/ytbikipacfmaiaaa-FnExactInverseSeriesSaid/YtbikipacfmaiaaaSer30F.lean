/- InverseSeries, both functions (written by tools/mk30f.py). -/
import Derived.Test.YtbikipacfmaiaaaSer30B
namespace Go.Proofs.Ytbikipacfmaiaaa
open Go.ChangeShapes Go.WideShapes Go.ChangeAt Go.RowKit
set_option linter.unusedVariables false

/-- The first k terms of the sum that makes an inverse's term n. -/
def iS (a : List Int) (f : Nat → Int) (n : Nat) : Nat → Int
  | 0 => 0
  | k + 1 => iS a f n k + a.getD (k + 1) 0 * f (n - (k + 1))
theorem iS_succ (a : List Int) (f : Nat → Int) (n k : Nat) : iS a f n (k + 1) = iS a f n k + a.getD (k + 1) 0 * f (n - (k + 1)) := rfl
theorem iS_congr {a : List Int} {f g : Nat → Int} {n : Nat} (h : ∀ j, j < n → f j = g j) : ∀ k, k ≤ n → iS a f n k = iS a g n k := by
  intro k
  induction k with
  | zero => intro _; rfl
  | succ k ih => intro hk; rw [iS_succ, iS_succ, ih (by omega), h (n - (k + 1)) (by omega)]
/-- The inverse's first terms. -/
def ivL (a : List Int) : Nat → List Int
  | 0 => [a.getD 0 0]
  | i + 1 => ivL a i ++ [-(a.getD 0 0) * iS a (fun j => (ivL a i).getD j 0) (i + 1) (i + 1)]
theorem ivL_len (a : List Int) : ∀ i, (ivL a i).length = i + 1
  | 0 => rfl
  | i + 1 => by rw [ivL, List.length_append, ivL_len a i]; rfl
theorem ivL_step (a : List Int) (i j : Nat) (h : j ≤ i) : (ivL a (i + 1)).getD j 0 = (ivL a i).getD j 0 := by
  rw [ivL, List.getD_eq_getElem?_getD, List.getElem?_append_left (by rw [ivL_len]; omega), ← List.getD_eq_getElem?_getD]
theorem ivL_pre (a : List Int) (j : Nat) : ∀ d, (ivL a (j + d)).getD j 0 = (ivL a j).getD j 0
  | 0 => rfl
  | d + 1 => by rw [← Nat.add_assoc, ivL_step a (j + d) j (by omega), ivL_pre a j d]
/-- Term j of the inverse. -/
def ivT (a : List Int) (j : Nat) : Int := (ivL a j).getD j 0
theorem ivL_at (a : List Int) {i j : Nat} (h : j ≤ i) : (ivL a i).getD j 0 = ivT a j := by
  have := ivL_pre a j (i - j)
  rwa [show j + (i - j) = i by omega] at this
theorem ivT_zero (a : List Int) : ivT a 0 = a.getD 0 0 := rfl
theorem ivT_succ (a : List Int) (i : Nat) : ivT a (i + 1) = -(a.getD 0 0) * iS a (ivT a) (i + 1) (i + 1) := by
  have h : ivT a (i + 1) = -(a.getD 0 0) * iS a (fun j => (ivL a i).getD j 0) (i + 1) (i + 1) := by
    show (ivL a (i + 1)).getD (i + 1) 0 = _
    rw [ivL, List.getD_eq_getElem?_getD, List.getElem?_append_right (by rw [ivL_len]; omega), ivL_len]
    simp
  rw [h, iS_congr (f := fun j => (ivL a i).getD j 0) (g := ivT a) (fun j hj => ivL_at a (by omega)) (i + 1) (Nat.le_refl _)]
def ivR (a : List Int) (n : Nat) : List Int := (List.range n).map (ivT a)
theorem ivR_len (a : List Int) (n : Nat) : (ivR a n).length = n := by simp [ivR]
theorem ivR_at (a : List Int) {n q : Nat} (h : q < n) : (ivR a n).getD q 0 = ivT a q := by simp [ivR, List.getD, h]
theorem ivR_succ (a : List Int) (n : Nat) : ivR a (n + 1) = ivR a n ++ [ivT a n] := by simp [ivR, List.range_succ]
theorem p11 (n : Nat) : (11 : Int) ^ (n + 1) = 11 * 11 ^ n := by rw [Int.pow_succ]; omega
theorem p11_pos : ∀ n : Nat, (1 : Int) ≤ 11 ^ n
  | 0 => by decide
  | n + 1 => by rw [p11]; have := p11_pos n; omega
theorem iS_bd {a : List Int} {f : Nat → Int} {n : Nat} (ha : ∀ q, -10 ≤ a.getD q 0 ∧ a.getD q 0 ≤ 10) (hf : ∀ j, j < n → -((11 : Int) ^ j) ≤ f j ∧ f j ≤ 11 ^ j) : ∀ k, k ≤ n → -((11 : Int) ^ n - 11 ^ (n - k)) ≤ iS a f n k ∧ iS a f n k ≤ 11 ^ n - 11 ^ (n - k) := by
  intro k
  induction k with
  | zero => intro _; simp [iS]
  | succ k ih =>
    intro hk
    have h1 := ih (by omega)
    have h2 := ha (k + 1)
    have h3 := hf (n - (k + 1)) (by omega)
    obtain ⟨m, hm⟩ : ∃ m, n - (k + 1) = m := ⟨_, rfl⟩
    rw [show n - k = m + 1 by omega, p11 m] at h1
    rw [iS_succ, hm]
    rw [hm] at h3
    have hp := p11_pos m
    generalize (11 : Int) ^ m = P at *
    generalize (11 : Int) ^ n = R at *
    generalize iS a f n k = s at *
    generalize f m = y at *
    generalize a.getD (k + 1) 0 = x at *
    have : (x * y).natAbs ≤ 10 * P.toNat := by rw [Int.natAbs_mul]; exact Nat.mul_le_mul (by omega) (by omega)
    omega
theorem ivT_bd {a : List Int} (ha : ∀ q, -10 ≤ a.getD q 0 ∧ a.getD q 0 ≤ 10) (h0 : a.getD 0 0 = 1 ∨ a.getD 0 0 = -1) (n : Nat) : -((11 : Int) ^ n) ≤ ivT a n ∧ ivT a n ≤ 11 ^ n := by
  induction n using Nat.strongRecOn with
  | _ n ih =>
    rcases n with _ | n
    · rw [ivT_zero]; rcases h0 with e | e <;> rw [e] <;> decide
    · have hb := iS_bd ha (fun j hj => ih j hj) (n + 1) (Nat.le_refl _)
      rw [Nat.sub_self] at hb
      have e1 : (11 : Int) ^ 0 = 1 := rfl
      rw [ivT_succ]
      generalize iS a (ivT a) (n + 1) (n + 1) = s at *
      generalize (11 : Int) ^ (n + 1) = P at *
      rcases h0 with e | e <;> rw [e] <;> omega
theorem p11_le : ∀ n : Nat, n < 13 → (11 : Int) ^ n ≤ 3138428376721 := by decide
theorem ivT_in {a : List Int} (ha : ∀ q, -10 ≤ a.getD q 0 ∧ a.getD q 0 ≤ 10) (h0 : a.getD 0 0 = 1 ∨ a.getD 0 0 = -1) (n : Nat) (hn : n ≤ 12) : -3138428376721 ≤ ivT a n ∧ ivT a n ≤ 3138428376721 := by
  have h1 := ivT_bd ha h0 n
  have h2 := p11_le n (by omega)
  omega
theorem iS_in {a : List Int} (ha : ∀ q, -10 ≤ a.getD q 0 ∧ a.getD q 0 ≤ 10) (h0 : a.getD 0 0 = 1 ∨ a.getD 0 0 = -1) (n k : Nat) (hn : n ≤ 12) (hk : k ≤ n) : -3138428376721 ≤ iS a (ivT a) n k ∧ iS a (ivT a) n k ≤ 3138428376721 := by
  have h1 := iS_bd ha (fun j _ => ivT_bd ha h0 j) k hk
  have h2 := p11_le n (by omega)
  have h3 := p11_pos (n - k)
  omega
def ivGood (a : List Int) : Prop := finB a = true ∧ (a.getD 0 0 = 1 ∨ a.getD 0 0 = -1) ∧ inB 10 a = true
instance (a : List Int) : Decidable (ivGood a) := by unfold ivGood; infer_instance
def ivOk (a : List Int) : Bool := decide (ivGood a)
def ivP (a : List Int) : List Int := if ivOk a = true then ivR a a.length else []
theorem ivP_len (a : List Int) : (ivP a).length ≤ 12 := by
  unfold ivP
  split
  · rename_i h
    have h2 : ivGood a := of_decide_eq_true h
    rw [ivR_len]; exact (fin_parts h2.1).2.2
  · simp
/-- The inverse's first n terms, and zeros. -/
def ivZ (a : List Int) (n : Nat) : Nat → Int := fun q => if q < n then ivT a q else 0
def ivZL (a : List Int) (n N : Nat) : List Int := (List.range N).map (ivZ a n)
theorem ivZL_len (a : List Int) (n N : Nat) : (ivZL a n N).length = N := by simp [ivZL]
theorem ivZL_at (a : List Int) (n : Nat) {N q : Nat} (h : q < N) : (ivZL a n N).getD q 0 = ivZ a n q := by simp [ivZL, List.getD, h]
theorem ivZ_succ (a : List Int) (n : Nat) : ivZ a (n + 1) = upd (ivZ a n) n (ivT a n) := by
  funext q
  by_cases e : q = n
  · subst e; rw [upd_at]; unfold ivZ; rw [if_pos (by omega)]
  · rw [upd_ne _ _ e]; unfold ivZ
    by_cases h : q < n
    · rw [if_pos h, if_pos (by omega)]
    · rw [if_neg h, if_neg (by omega)]
theorem ivZ_zero (a : List Int) : ivZ a 0 = fun _ => 0 := by funext q; unfold ivZ; rw [if_neg (by omega)]
/-- A product's term n is the sum without its first term, where the inverse's term n is 0 still. -/
theorem pS_iS (a o : List Int) (n : Nat) : ∀ k, pS a o n (k + 1) = a.getD 0 0 * o.getD n 0 + iS a (fun j => o.getD j 0) n k
  | 0 => by rw [pS_succ, pS, Nat.sub_zero, iS]; omega
  | k + 1 => by rw [pS_succ, pS_iS a o n k, iS_succ]; omega
theorem pS_iv (a : List Int) {n N : Nat} (h : n < N) : pS a (ivZL a n N) n (n + 1) = iS a (ivT a) n n := by
  rw [pS_iS, ivZL_at a n h]
  have e : ivZ a n n = 0 := by unfold ivZ; rw [if_neg (by omega)]
  rw [e, Int.mul_zero, Int.zero_add]
  exact iS_congr (fun j hj => by rw [ivZL_at a n (show j < N by omega)]; unfold ivZ; rw [if_pos hj]) n (Nat.le_refl _)
theorem ivZ_in {a : List Int} (ha : ∀ q, -10 ≤ a.getD q 0 ∧ a.getD q 0 ≤ 10) (h0 : a.getD 0 0 = 1 ∨ a.getD 0 0 = -1) (n N q : Nat) (hn : n ≤ 12) : -3138428376721 ≤ (ivZL a n N).getD q 0 ∧ (ivZL a n N).getD q 0 ≤ 3138428376721 := by
  by_cases h : q < N
  · rw [ivZL_at a n h]; unfold ivZ
    split
    · exact ivT_in ha h0 q (by omega)
    · omega
  · rw [List.getD_eq_getElem?_getD, List.getElem?_eq_none (by rw [ivZL_len]; omega)]; exact ⟨by decide, by decide⟩
theorem iv_mul {a : List Int} (ha : ∀ q, -10 ≤ a.getD q 0 ∧ a.getD q 0 ≤ 10) (h0 : a.getD 0 0 = 1 ∨ a.getD 0 0 = -1) (n N : Nat) (hn : n ≤ 12) (i j : Nat) : -(31384283767210 : Int) ≤ a.getD i 0 * (ivZL a n N).getD j 0 ∧ a.getD i 0 * (ivZL a n N).getD j 0 ≤ 31384283767210 := by
  have h1 := ha i
  have h2 := ivZ_in ha h0 n N j hn
  have : (a.getD i 0 * (ivZL a n N).getD j 0).natAbs ≤ 10 * 3138428376721 := by rw [Int.natAbs_mul]; exact Nat.mul_le_mul (by omega) (by omega)
  omega

set_option maxRecDepth 100000 in
set_option maxHeartbeats 3200000 in
theorem inverseSeries (A : Option Addr) (xs : List Int) (cap lo hi : Nat) (w : World) (hv : OwnI w lo hi (.slice A xs.length cap) xs) (hhi : hi ≤ w.heap.size) (hl : xs.length ≤ 1099511627776) :
    Calls Try.prog 18 #[.slice A xs.length cap] w (AnsIB (ivP xs) (ivOk xs) w) := by
  have HM := Lib.hid (l30Fine A xs cap lo hi w hv hl)
  have HV := Lib.hid hv
  rcases hx : finB xs with _ | _
  · have HO := Lib.hid (show ivOk xs = false from decide_eq_false fun h => by rw [h.1] at hx; cases hx)
    have HP := Lib.hid (show ivP xs = [] from if_neg (by rw [HO.out]; simp))
    rw [hx] at HM
    clear hx hv
    go_enter Try.func18, Try.ntmps18
    go_wp2_with fail
    (with_reducible refine HM.out.mono ?_)
    rintro e w' ⟨rfl, rfl⟩
    go_wp2
    go_ret2
    exact ⟨_, ret_ib rfl HO.out.symm, by rw [HP.out]; exact ⟨_, _, rfl, .inl rfl⟩, (Below.refl _ _).alloc (Nat.le_refl _) _⟩
  · obtain ⟨p1, p2, p3⟩ := fin_parts hx
    obtain ⟨n, hn⟩ : ∃ n, Hid (n = xs.length) := ⟨_, Lib.hid rfl⟩
    rw [← hn.out] at p2 p3
    rw [hx] at HM
    have HX := Lib.hid hx
    obtain ⟨g1, p1', e1, -, -, hc0, -⟩ := hv.cell (j := 0) (by rw [← hn.out]; omega)
    rw [← hn.out] at e1 HM ⊢
    simp only [Value.slice.injEq] at e1
    obtain ⟨rfl, -, rfl⟩ := e1
    have hn0 : (0 : Int) < (n : Int) := by omega
    clear p1 hx hv
    by_cases ha : xs.getD 0 0 = 1
    · rw [ha] at hc0
      have HC := Lib.hid ha
      have H01 := Lib.hid (show xs.getD 0 0 = 1 ∨ xs.getD 0 0 = -1 from .inl ha)
      clear ha
      go_enter Try.func18, Try.ntmps18
      go_wp2_with fail
      (with_reducible refine HM.out.mono ?_)
      rintro e w' ⟨rfl, rfl⟩
      go_wp2
      go_loopw [4] (fun y wr => ∃ i : Nat, i ≤ n ∧ y = .int .i64 i ∧ w = wr ∧ ∀ j, j < i → -10 ≤ xs.getD j 0 ∧ xs.getD j 0 ≤ 10) (fun y _ => n - (intOf y).toNat)
      case atStart => exact ⟨0, Nat.zero_le _, rfl, rfl, fun j h => absurd h (Nat.not_lt_zero _)⟩
      case round =>
        obtain ⟨i, hi, rfl, rfl, hle⟩ := hrel
        have HLE := Lib.hid hle
        clear hle
        by_cases hlt : i < n
        · obtain ⟨g2, p2', e2, -, -, hc1, -⟩ := HV.out.cell (j := i) (by rw [← hn.out]; exact hlt)
          rw [← hn.out] at e2
          simp only [Value.slice.injEq, Option.some.injEq, Addr.mk.injEq] at e2
          obtain ⟨⟨rfl, -⟩, -⟩ := e2
          have hii : (i : Int) < (n : Int) := by omega
          by_cases e : -10 ≤ xs.getD i 0 ∧ xs.getD i 0 ≤ 10
          · have HI := Lib.hid (fun W => l1In_yes (xs.getD i 0) (-10) 10 W e.1 e.2)
            have HSTEP := Lib.hid (show ∀ j, j < i + 1 → -10 ≤ xs.getD j 0 ∧ xs.getD j 0 ≤ 10 from fun j hj => by
              by_cases ej : j = i
              · subst ej; exact e
              · exact HLE.out j (by omega))
            clear e
            generalize xs.getD i 0 = x at *
            go_wp2_with fail
            (with_reducible refine (HI.out _).mono ?_)
            rintro e w' ⟨rfl, rfl⟩
            go_wp2
            exact ⟨⟨i + 1, by omega, by simp, by first | rfl | trivial, HSTEP.out⟩, by simp [intOf]; omega⟩
          · have HI := Lib.hid (fun W => l1In_not (xs.getD i 0) (-10) 10 W e)
            have HO := Lib.hid (show ivOk xs = false from decide_eq_false fun h => by have h3 := h.2.2; rw [inB_no (L := 10) (i := i) (by rw [← hn.out]; exact hlt) e] at h3; cases h3)
            have HP := Lib.hid (show ivP xs = [] from if_neg (by rw [HO.out]; simp))
            clear e
            generalize xs.getD i 0 = x at *
            go_wp2_with fail
            (with_reducible refine (HI.out _).mono ?_)
            rintro e w' ⟨rfl, rfl⟩
            go_wp2
            go_ret2
            exact ⟨_, ret_ib rfl HO.out.symm, by rw [HP.out]; exact ⟨_, _, rfl, .inl rfl⟩, (Below.refl _ _).alloc (Nat.le_refl _) _⟩
        · obtain rfl : i = n := by omega
          have HIN := Lib.hid (show inB 10 xs = true from (inB_iff _ _).2 fun j hj => HLE.out j (by rw [hn.out]; exact hj))
          have HO := Lib.hid (show ivOk xs = true from decide_eq_true ⟨HX.out, H01.out, HIN.out⟩)
          have HP := Lib.hid (show ivP xs = ivR xs i by unfold ivP; rw [if_pos HO.out, hn.out])
          have HA := Lib.hid (fun q => in_all HIN.out (by omega) q)
          have HTI := Lib.hid (fun n hn => ivT_in HA.out H01.out n hn)
          have HSI := Lib.hid (fun n k hn hk => iS_in HA.out H01.out n k hn hk)
          have HR1 := Lib.hid (show ivR xs 1 = [1] by show [ivT xs 0] = _; rw [ivT_zero, HC.out])
          go_wp2
          go_loopw [5, 6] (fun v y wr => ∃ m : Nat, 1 ≤ m ∧ m ≤ i ∧ y = .int .i64 m ∧ wr.ownsRow w.heap.size 3 1 v (ivR xs m).length ((ivR xs m).map (Value.int .i64)) ∧ Below w.heap.size w wr) (fun _ y _ => i - (intOf y).toNat)
          case atStart => exact ⟨1, Nat.le_refl _, p2, rfl, by rw [HR1.out]; exact World.ownsRow_lit w #[.int .i64 1] 1 (Nat.le_refl _) (by unfold maxLen; omega) rfl, (Below.refl _ _).alloc (Nat.le_refl _) _⟩
          case round =>
            obtain ⟨m, hm1, hmi, rfl, hown, hb⟩ := hrel
            have HOWN := Lib.hid hown
            have HB := Lib.hid hb
            have hB := hb.size
            clear hown hb
            by_cases hlt2 : m < i
            · have hmii : (m : Int) < (i : Int) := by omega
              obtain ⟨m', hm'⟩ : ∃ m', m = m' + 1 := ⟨m - 1, by omega⟩
              have HTS := Lib.hid (show ivT xs m = -(1) * iS xs (ivT xs) m m by rw [hm', ivT_succ, HC.out])
              have HLN := Lib.hid (ivR_len xs m)
              have HNX := Lib.hid (ivR_succ xs m)
              have HOI := Lib.hid (OwnI.of_row HOWN.out)
              rw [HLN.out] at HOWN
              clear hm'
              obtain ⟨wo, rfl⟩ : ∃ wo, wo = wr := ⟨_, rfl⟩
              go_wp2
              go_loopw [7, 8] (fun x y w2 => ∃ j q : Nat, j ≤ m ∧ y = .int .i64 ((j : Int) + 1) ∧ x = .int .i64 (iS xs (ivT xs) m j) ∧ w2 = wo.drewN q) (fun _ y _ => m + 1 - (intOf y).toNat)
              case atStart => exact ⟨0, 0, Nat.zero_le _, rfl, rfl, rfl⟩
              case round =>
                obtain ⟨j, q, hj, rfl, rfl, hw2⟩ := hrel
                have HW := Lib.hid hw2
                have HB2 := Lib.hid (show Below w.heap.size w wr by rw [hw2]; exact below_drewN HB.out q)
                have HO2 := Lib.hid (show wr.ownsRow w.heap.size 3 1 u5 m ((ivR xs m).map (Value.int .i64)) by rw [hw2]; exact HOWN.out)
                have HOI2 := Lib.hid (show OwnI wr w.heap.size wr.heap.size u5 (ivR xs m) by rw [hw2]; exact HOI.out)
                have hB2 : w.heap.size ≤ wr.heap.size := HB2.out.size
                clear hw2
                by_cases hlt3 : j + 1 ≤ m
                · have hji : (j : Int) + 1 ≤ (m : Int) := by omega
                  have hjn : (j : Int) + 1 < (i : Int) := by omega
                  obtain ⟨t, ht⟩ : ∃ t, t = m - (j + 1) := ⟨_, rfl⟩
                  have hti : (m : Int) - ((j : Int) + 1) = (t : Int) := by omega
                  have htm : (t : Int) < (m : Int) := by omega
                  obtain ⟨g2, p2', e2, -, -, hc1, -⟩ := (HV.out.keep HB2.out hhi).cell (j := j + 1) (by rw [← hn.out]; omega)
                  obtain ⟨g3, p3', e3, -, -, hc2, -⟩ := HOI2.out.cell (j := t) (by rw [ivR_len]; omega)
                  rw [← hn.out] at e2
                  rw [ivR_len] at e3
                  simp only [Value.slice.injEq, Option.some.injEq, Addr.mk.injEq] at e2
                  obtain ⟨⟨rfl, -⟩, -⟩ := e2
                  subst e3
                  rw [ivR_at xs (by omega)] at hc2
                  have HNS := Lib.hid (iS_succ xs (ivT xs) m j)
                  rw [← ht] at HNS
                  have b1 := HSI.out m j (by omega) (by omega)
                  have b2 := HTI.out t (by omega)
                  have b3 := HA.out (j + 1)
                  generalize xs.getD (j + 1) 0 = x at *
                  generalize ivT xs t = z at *
                  generalize iS xs (ivT xs) m j = c at *
                  have b4 : (x * z).natAbs ≤ 10 * 3138428376721 := by rw [Int.natAbs_mul]; exact Nat.mul_le_mul (by omega) (by omega)
                  generalize hp : x * z = p at *
                  have v1 : IntKind.i64.wrap p = p := IntWalk.i64_in _ (by omega)
                  have v2 : IntKind.i64.wrap (c + p) = c + p := IntWalk.i64_in _ (by omega)
                  clear ht
                  go_wp2
                  go_quiet (fail)
                  go_wp2
                  exact ⟨⟨j + 1, q + nq, by omega, by simp, by rw [HNS.out], by rw [HW.out, World.drewN_drewN]⟩, by simp [intOf]; omega⟩
                · obtain rfl : j = m := by omega
                  have b1 := HSI.out j j (by omega) (Nat.le_refl _)
                  have HCD := Lib.hid (((HV.out.keep HB2.out hhi).cell (j := 0) (by rw [← hn.out]; omega)))
                  obtain ⟨g2, p2', e2, -, -, hc1, -⟩ := HCD.out
                  rw [← hn.out] at e2
                  simp only [Value.slice.injEq, Option.some.injEq, Addr.mk.injEq] at e2
                  obtain ⟨⟨rfl, -⟩, -⟩ := e2
                  rw [HC.out] at hc1
                  have HFIN := Lib.hid HTS.out
                  generalize iS xs (ivT xs) j j = c at *
                  have v1 : IntKind.i64.wrap c = c := IntWalk.i64_in _ (by omega)
                  have v2 : IntKind.i64.wrap (-c) = -c := IntWalk.i64_in _ (by omega)
                  have v3 : IntKind.i64.wrap (-1 * c) = -1 * c := IntWalk.i64_in _ (by omega)
                  have v4 : IntKind.i64.wrap (1 * c) = 1 * c := IntWalk.i64_in _ (by omega)
                  have hji : ¬ (j : Int) + 1 ≤ (j : Int) := by omega
                  generalize hL : ivR xs j = L at *
                  go_wp2_with (at_builtin; go_must (refine wpAppInt rfl _ _ rfl w.heap.size u5 _ L rfl (World.ownsRow.alloc HO2.out _) wr.heap.size _ _ rfl (cell_one _ _ _) (by omega) (base_up hB2) ?_); intro v' w' hown' hg')
                  exact ⟨⟨j + 1, by omega, by omega, by simp, by rw [HNX.out, List.length_append, HLN.out]; first | exact hown' | (rw [HFIN.out]; first | exact hown' | simpa using hown'), (HB2.out.alloc hB2 _).grown hg' (base_up hB2) (fun k hk => (HO2.out.lt k hk).1)⟩, by simp [intOf]; omega⟩
            · obtain rfl : m = i := by omega
              have HOW := Lib.hid (OwnI.of_row HOWN.out)
              go_wp2
              go_ret2
              exact ⟨_, ret_ib rfl HO.out.symm, by rw [HP.out]; exact HOW.out, HB.out⟩
    by_cases hb : xs.getD 0 0 = -1
    · rw [hb] at hc0
      have HC := Lib.hid hb
      have H01 := Lib.hid (show xs.getD 0 0 = 1 ∨ xs.getD 0 0 = -1 from .inr hb)
      clear ha hb
      go_enter Try.func18, Try.ntmps18
      go_wp2_with fail
      (with_reducible refine HM.out.mono ?_)
      rintro e w' ⟨rfl, rfl⟩
      go_wp2
      go_loopw [4] (fun y wr => ∃ i : Nat, i ≤ n ∧ y = .int .i64 i ∧ w = wr ∧ ∀ j, j < i → -10 ≤ xs.getD j 0 ∧ xs.getD j 0 ≤ 10) (fun y _ => n - (intOf y).toNat)
      case atStart => exact ⟨0, Nat.zero_le _, rfl, rfl, fun j h => absurd h (Nat.not_lt_zero _)⟩
      case round =>
        obtain ⟨i, hi, rfl, rfl, hle⟩ := hrel
        have HLE := Lib.hid hle
        clear hle
        by_cases hlt : i < n
        · obtain ⟨g2, p2', e2, -, -, hc1, -⟩ := HV.out.cell (j := i) (by rw [← hn.out]; exact hlt)
          rw [← hn.out] at e2
          simp only [Value.slice.injEq, Option.some.injEq, Addr.mk.injEq] at e2
          obtain ⟨⟨rfl, -⟩, -⟩ := e2
          have hii : (i : Int) < (n : Int) := by omega
          by_cases e : -10 ≤ xs.getD i 0 ∧ xs.getD i 0 ≤ 10
          · have HI := Lib.hid (fun W => l1In_yes (xs.getD i 0) (-10) 10 W e.1 e.2)
            have HSTEP := Lib.hid (show ∀ j, j < i + 1 → -10 ≤ xs.getD j 0 ∧ xs.getD j 0 ≤ 10 from fun j hj => by
              by_cases ej : j = i
              · subst ej; exact e
              · exact HLE.out j (by omega))
            clear e
            generalize xs.getD i 0 = x at *
            go_wp2_with fail
            (with_reducible refine (HI.out _).mono ?_)
            rintro e w' ⟨rfl, rfl⟩
            go_wp2
            exact ⟨⟨i + 1, by omega, by simp, by first | rfl | trivial, HSTEP.out⟩, by simp [intOf]; omega⟩
          · have HI := Lib.hid (fun W => l1In_not (xs.getD i 0) (-10) 10 W e)
            have HO := Lib.hid (show ivOk xs = false from decide_eq_false fun h => by have h3 := h.2.2; rw [inB_no (L := 10) (i := i) (by rw [← hn.out]; exact hlt) e] at h3; cases h3)
            have HP := Lib.hid (show ivP xs = [] from if_neg (by rw [HO.out]; simp))
            clear e
            generalize xs.getD i 0 = x at *
            go_wp2_with fail
            (with_reducible refine (HI.out _).mono ?_)
            rintro e w' ⟨rfl, rfl⟩
            go_wp2
            go_ret2
            exact ⟨_, ret_ib rfl HO.out.symm, by rw [HP.out]; exact ⟨_, _, rfl, .inl rfl⟩, (Below.refl _ _).alloc (Nat.le_refl _) _⟩
        · obtain rfl : i = n := by omega
          have HIN := Lib.hid (show inB 10 xs = true from (inB_iff _ _).2 fun j hj => HLE.out j (by rw [hn.out]; exact hj))
          have HO := Lib.hid (show ivOk xs = true from decide_eq_true ⟨HX.out, H01.out, HIN.out⟩)
          have HP := Lib.hid (show ivP xs = ivR xs i by unfold ivP; rw [if_pos HO.out, hn.out])
          have HA := Lib.hid (fun q => in_all HIN.out (by omega) q)
          have HTI := Lib.hid (fun n hn => ivT_in HA.out H01.out n hn)
          have HSI := Lib.hid (fun n k hn hk => iS_in HA.out H01.out n k hn hk)
          have HR1 := Lib.hid (show ivR xs 1 = [(-1)] by show [ivT xs 0] = _; rw [ivT_zero, HC.out])
          go_wp2
          go_loopw [5, 6] (fun v y wr => ∃ m : Nat, 1 ≤ m ∧ m ≤ i ∧ y = .int .i64 m ∧ wr.ownsRow w.heap.size 3 1 v (ivR xs m).length ((ivR xs m).map (Value.int .i64)) ∧ Below w.heap.size w wr) (fun _ y _ => i - (intOf y).toNat)
          case atStart => exact ⟨1, Nat.le_refl _, p2, rfl, by rw [HR1.out]; exact World.ownsRow_lit w #[.int .i64 (-1)] 1 (Nat.le_refl _) (by unfold maxLen; omega) rfl, (Below.refl _ _).alloc (Nat.le_refl _) _⟩
          case round =>
            obtain ⟨m, hm1, hmi, rfl, hown, hb⟩ := hrel
            have HOWN := Lib.hid hown
            have HB := Lib.hid hb
            have hB := hb.size
            clear hown hb
            by_cases hlt2 : m < i
            · have hmii : (m : Int) < (i : Int) := by omega
              obtain ⟨m', hm'⟩ : ∃ m', m = m' + 1 := ⟨m - 1, by omega⟩
              have HTS := Lib.hid (show ivT xs m = -((-1)) * iS xs (ivT xs) m m by rw [hm', ivT_succ, HC.out])
              have HLN := Lib.hid (ivR_len xs m)
              have HNX := Lib.hid (ivR_succ xs m)
              have HOI := Lib.hid (OwnI.of_row HOWN.out)
              rw [HLN.out] at HOWN
              clear hm'
              obtain ⟨wo, rfl⟩ : ∃ wo, wo = wr := ⟨_, rfl⟩
              go_wp2
              go_loopw [7, 8] (fun x y w2 => ∃ j q : Nat, j ≤ m ∧ y = .int .i64 ((j : Int) + 1) ∧ x = .int .i64 (iS xs (ivT xs) m j) ∧ w2 = wo.drewN q) (fun _ y _ => m + 1 - (intOf y).toNat)
              case atStart => exact ⟨0, 0, Nat.zero_le _, rfl, rfl, rfl⟩
              case round =>
                obtain ⟨j, q, hj, rfl, rfl, hw2⟩ := hrel
                have HW := Lib.hid hw2
                have HB2 := Lib.hid (show Below w.heap.size w wr by rw [hw2]; exact below_drewN HB.out q)
                have HO2 := Lib.hid (show wr.ownsRow w.heap.size 3 1 u5 m ((ivR xs m).map (Value.int .i64)) by rw [hw2]; exact HOWN.out)
                have HOI2 := Lib.hid (show OwnI wr w.heap.size wr.heap.size u5 (ivR xs m) by rw [hw2]; exact HOI.out)
                have hB2 : w.heap.size ≤ wr.heap.size := HB2.out.size
                clear hw2
                by_cases hlt3 : j + 1 ≤ m
                · have hji : (j : Int) + 1 ≤ (m : Int) := by omega
                  have hjn : (j : Int) + 1 < (i : Int) := by omega
                  obtain ⟨t, ht⟩ : ∃ t, t = m - (j + 1) := ⟨_, rfl⟩
                  have hti : (m : Int) - ((j : Int) + 1) = (t : Int) := by omega
                  have htm : (t : Int) < (m : Int) := by omega
                  obtain ⟨g2, p2', e2, -, -, hc1, -⟩ := (HV.out.keep HB2.out hhi).cell (j := j + 1) (by rw [← hn.out]; omega)
                  obtain ⟨g3, p3', e3, -, -, hc2, -⟩ := HOI2.out.cell (j := t) (by rw [ivR_len]; omega)
                  rw [← hn.out] at e2
                  rw [ivR_len] at e3
                  simp only [Value.slice.injEq, Option.some.injEq, Addr.mk.injEq] at e2
                  obtain ⟨⟨rfl, -⟩, -⟩ := e2
                  subst e3
                  rw [ivR_at xs (by omega)] at hc2
                  have HNS := Lib.hid (iS_succ xs (ivT xs) m j)
                  rw [← ht] at HNS
                  have b1 := HSI.out m j (by omega) (by omega)
                  have b2 := HTI.out t (by omega)
                  have b3 := HA.out (j + 1)
                  generalize xs.getD (j + 1) 0 = x at *
                  generalize ivT xs t = z at *
                  generalize iS xs (ivT xs) m j = c at *
                  have b4 : (x * z).natAbs ≤ 10 * 3138428376721 := by rw [Int.natAbs_mul]; exact Nat.mul_le_mul (by omega) (by omega)
                  generalize hp : x * z = p at *
                  have v1 : IntKind.i64.wrap p = p := IntWalk.i64_in _ (by omega)
                  have v2 : IntKind.i64.wrap (c + p) = c + p := IntWalk.i64_in _ (by omega)
                  clear ht
                  go_wp2
                  go_quiet (fail)
                  go_wp2
                  exact ⟨⟨j + 1, q + nq, by omega, by simp, by rw [HNS.out], by rw [HW.out, World.drewN_drewN]⟩, by simp [intOf]; omega⟩
                · obtain rfl : j = m := by omega
                  have b1 := HSI.out j j (by omega) (Nat.le_refl _)
                  have HCD := Lib.hid (((HV.out.keep HB2.out hhi).cell (j := 0) (by rw [← hn.out]; omega)))
                  obtain ⟨g2, p2', e2, -, -, hc1, -⟩ := HCD.out
                  rw [← hn.out] at e2
                  simp only [Value.slice.injEq, Option.some.injEq, Addr.mk.injEq] at e2
                  obtain ⟨⟨rfl, -⟩, -⟩ := e2
                  rw [HC.out] at hc1
                  have HFIN := Lib.hid HTS.out
                  generalize iS xs (ivT xs) j j = c at *
                  have v1 : IntKind.i64.wrap c = c := IntWalk.i64_in _ (by omega)
                  have v2 : IntKind.i64.wrap (-c) = -c := IntWalk.i64_in _ (by omega)
                  have v3 : IntKind.i64.wrap (-1 * c) = -1 * c := IntWalk.i64_in _ (by omega)
                  have v4 : IntKind.i64.wrap (1 * c) = 1 * c := IntWalk.i64_in _ (by omega)
                  have hji : ¬ (j : Int) + 1 ≤ (j : Int) := by omega
                  generalize hL : ivR xs j = L at *
                  go_wp2_with (at_builtin; go_must (refine wpAppInt rfl _ _ rfl w.heap.size u5 _ L rfl (World.ownsRow.alloc HO2.out _) wr.heap.size _ _ rfl (cell_one _ _ _) (by omega) (base_up hB2) ?_); intro v' w' hown' hg')
                  exact ⟨⟨j + 1, by omega, by omega, by simp, by rw [HNX.out, List.length_append, HLN.out]; first | exact hown' | (rw [HFIN.out]; first | exact hown' | simpa using hown'), (HB2.out.alloc hB2 _).grown hg' (base_up hB2) (fun k hk => (HO2.out.lt k hk).1)⟩, by simp [intOf]; omega⟩
            · obtain rfl : m = i := by omega
              have HOW := Lib.hid (OwnI.of_row HOWN.out)
              go_wp2
              go_ret2
              exact ⟨_, ret_ib rfl HO.out.symm, by rw [HP.out]; exact HOW.out, HB.out⟩
    have HO := Lib.hid (show ivOk xs = false from decide_eq_false fun h => h.2.1.elim ha hb)
    have HP := Lib.hid (show ivP xs = [] from if_neg (by rw [HO.out]; simp))
    have hne1 : (xs.getD 0 0 != 1) = true := by simpa using ha
    have hne2 : (xs.getD 0 0 == 1) = false := beq_eq_false_iff_ne.2 ha
    have hne3 : (xs.getD 0 0 != -1) = true := by simpa using hb
    have hne4 : (xs.getD 0 0 == -1) = false := beq_eq_false_iff_ne.2 hb
    clear ha hb
    generalize xs.getD 0 0 = x at *
    go_enter Try.func18, Try.ntmps18
    go_wp2_with fail
    (with_reducible refine HM.out.mono ?_)
    rintro e w' ⟨rfl, rfl⟩
    go_wp2
    go_ret2
    exact ⟨_, ret_ib rfl HO.out.symm, by rw [HP.out]; exact ⟨_, _, rfl, .inl rfl⟩, (Below.refl _ _).alloc (Nat.le_refl _) _⟩

set_option maxRecDepth 100000 in
set_option maxHeartbeats 3200000 in
theorem inverseI (A : Option Addr) (xs : List Int) (n cap lo hi : Nat) (w : World) (hv : OwnI w lo hi (.slice A n cap) xs) (hx : xs.length = n) (hhi : hi ≤ w.heap.size) (h1 : 1 ≤ n) (h12 : n ≤ 12) (ha : ∀ q, -10 ≤ xs.getD q 0 ∧ xs.getD q 0 ≤ 10) (h0 : xs.getD 0 0 = 1 ∨ xs.getD 0 0 = -1) :
    Calls Try.prog 36 #[.slice A n cap] w (AnsI (ivR xs n) w) := by
  have HV := Lib.hid hv
  have HX := Lib.hid hx
  have HA := Lib.hid ha
  have H0 := Lib.hid h0
  have HSI := Lib.hid (fun n k hn hk => iS_in ha h0 n k hn hk)
  have HMU := Lib.hid (fun m hm i j => iv_mul ha h0 m n hm i j)
  have HZ0 := Lib.hid (ivZ_zero xs)
  have HZ1 := Lib.hid (show ivZ xs 1 = upd (ivZ xs 0) 0 (xs.getD 0 0) by rw [ivZ_succ, ivT_zero])
  have HRA := Lib.hid (fun q (h : q < n) => ivR_at xs h)
  have HRL := Lib.hid (ivR_len xs n)
  have HZL := Lib.hid (fun m => ivZL_len xs m n)
  have HZA := Lib.hid (fun m q (h : q < n) => ivZL_at xs m h)
  obtain ⟨g1, p1', e1, -, hg1, hc0, -⟩ := hv.cell (j := 0) (by rw [hx]; omega)
  simp only [Value.slice.injEq] at e1
  obtain ⟨rfl, -, rfl⟩ := e1
  have HC0 := Lib.hid hc0
  have hn0 : (0 : Int) < (n : Int) := by omega
  obtain ⟨c, hcc⟩ : ∃ c, Hid (c = xs.getD 0 0) := ⟨_, Lib.hid rfl⟩
  rw [← hcc.out] at hc0 HC0 HZ1 h0
  have HCC := Lib.hid h0
  have HG1 := Lib.hid (show g1 < w.heap.size by omega)
  obtain ⟨i0, hi0, hz0, hz1, hzb⟩ := info_parts info3
  clear hv hx ha h0 hc0 hg1
  go_enter Try.func36, Try.ntmps36
  go_wp2_with (at_make; go_must (refine wpList_make_full _ rfl _ _ 38 rfl w.heap.size 3 i0 (.int .i64 0) 1 Try.underlying38 hi0 hz0 hz1 .i64 .i64 (n : Int) (n : Int) n rfl rfl rfl rfl (by rw [hzb]; omega) (by unfold maxLen; omega) (Nat.le_refl _) ?_); intro w2 hown1 hgrow1; go_must (have HT0 := Lib.hid (show TabI w2 w.heap.size n (ivZ xs 0) from HZ0.out ▸ TabI.made hown1); have HB2 := Lib.hid ((Below.refl w.heap.size w).grown hgrow1 (Nat.le_refl _) (fun k hk => nomatch hk)); have hc0 := (HB2.out.cell (p := ⟨g1, 0, none⟩) HG1.out).trans HC0.out; obtain ⟨hc3, hf3⟩ := HT0.out.cell (j := 0) (Nat.lt_of_lt_of_le Nat.zero_lt_one h1); have HT1 := Lib.hid (show TabI (w2.setCell ⟨w.heap.size, 0, none⟩ (.int .i64 c)) w.heap.size n (ivZ xs 1) from HZ1.out ▸ HT0.out.set (k := 0) (Nat.lt_of_lt_of_le Nat.zero_lt_one h1) c); have HB3 := Lib.hid (HB2.out.setCell (p := ⟨w.heap.size, 0, none⟩) (Nat.le_refl _) (.int .i64 c)); clear hown1 hgrow1))
  clear hc0 hc3 hf3
  go_loopw [4] (fun y wr => ∃ m : Nat, 1 ≤ m ∧ m ≤ n ∧ y = .int .i64 m ∧ TabI wr w.heap.size n (ivZ xs m) ∧ Below w.heap.size w wr) (fun y _ => n - (intOf y).toNat)
  case atStart => exact ⟨1, Nat.le_refl _, h1, rfl, HT1.out, HB3.out⟩
  case round =>
    obtain ⟨m, hm1, hmn, rfl, htab, hb⟩ := hrel
    have HT := Lib.hid htab
    have HB4 := Lib.hid hb
    have hltw := htab.lt
    clear htab hb HT0 HB2 HT1 HB3
    by_cases hlt : m < n
    · have hmi : (m : Int) < (n : Int) := by omega
      have hmi2 : (m : Int) < (n : Int) := by omega
      obtain ⟨m', hm'⟩ : ∃ m', m = m' + 1 := ⟨m - 1, by omega⟩
      have HTS := Lib.hid (show ivT xs m = -c * iS xs (ivT xs) m m by rw [hm', ivT_succ, ← hcc.out])
      have HNX := Lib.hid (ivZ_succ xs m)
      have HOV := Lib.hid (show OwnI wr.drew w.heap.size wr.drew.heap.size (.slice (some ⟨w.heap.size, 0, none⟩) n n) (ivZL xs m n) from OwnI.of_tab (HT.out.keep rfl) (HZL.out m) (Nat.le_refl _) (fun j hj => HZA.out m j hj) (Nat.le_refl _) hltw)
      have HTM := Lib.hid (timesI (some ⟨g1, 0, none⟩) (some ⟨w.heap.size, 0, none⟩) xs (ivZL xs m n) n cap n lo hi w.heap.size wr.drew.heap.size wr.drew 31384283767210 (HV.out.keep HB4.out.drew hhi) HOV.out HX.out (HZL.out m) (Nat.le_trans hhi HB4.out.drew.size) (Nat.le_refl _) h12 (Nat.le_refl _) (HMU.out m (by omega)) (by omega))
      have hc0 := (HB4.out.cell (p := ⟨g1, 0, none⟩) HG1.out).trans HC0.out
      have HPS := Lib.hid (show (tmL xs (ivZL xs m n) n).getD m 0 = iS xs (ivT xs) m m by rw [tmL_at _ _ hlt, pS_iv xs hlt])
      have b1 := HSI.out m m (by omega) (Nat.le_refl _)
      have HTL := Lib.hid (tmL_len xs (ivZL xs m n) n)
      clear hm'
      generalize iS xs (ivT xs) m m = s at *
      generalize ivT xs m = tm at *
      generalize tmL xs (ivZL xs m n) n = TL at *
      have v1 : IntKind.i64.wrap (-c) = -c := by rcases HCC.out with e | e <;> rw [e] <;> rfl
      have v2 : IntKind.i64.wrap (-c * s) = -c * s := by rcases HCC.out with e | e <;> rw [e] <;> exact IntWalk.i64_in _ (by omega)
      have HG2 := Lib.hid (show g1 < wr.drew.heap.size from Nat.lt_of_lt_of_le HG1.out HB4.out.size)
      have HMN := Lib.hid (show m < TL.length by rw [HTL.out]; exact hlt)
      have hn0n : 0 < n := by omega
      have hn0i : (0 : Int) < (n : Int) := by omega
      have hn0d : decide ((0 : Int) < (n : Int)) = true := decide_eq_true hn0i
      go_wp2_with fail
      go_region_law (go_simp; go_at_call 34; (with_reducible refine HTM.out.mono ?_); rintro e w4 ⟨c4, g4, hc4, hg4, rfl, ho, hb⟩; obtain ⟨g5, p5, e5, -, -, hc5, -⟩ := ho.cell (j := m) HMN.out; simp only [Value.slice.injEq, Option.some.injEq, Addr.mk.injEq] at e5; obtain ⟨⟨rfl, -⟩, -⟩ := e5; rw [HPS.out] at hc5; have hd0 := (hb.cell (p := ⟨g1, 0, none⟩) HG2.out).trans (show wr.drew.cell? ⟨g1, 0, none⟩ = some (.int .i64 c) from hc0); have HT4 := Lib.hid ((HT.out.keep (w' := wr.drew) rfl).keep (hb.block _ hltw)); have HB5 := Lib.hid (HB4.out.drew.trans (hb.mono HB4.out.size)); obtain ⟨hc3, hf3⟩ := HT4.out.cell (j := m) hlt; clear ho hb)
      all_goals go_wp2
      all_goals go_roundw
      all_goals first | exact ⟨m + 1, by omega, by omega, by simp, by rw [HNX.out, HTS.out]; exact HT4.out.set (k := m) hlt _, HB5.out.setCell (p := ⟨w.heap.size, m, none⟩) (Nat.le_refl _) _⟩ | (simp [intOf]; omega)
    · obtain rfl : m = n := by omega
      have HOW := Lib.hid (show OwnI wr w.heap.size wr.heap.size (.slice (some ⟨w.heap.size, 0, none⟩) m m) (ivR xs m) from OwnI.of_tab HT.out HRL.out (Nat.le_refl _) (fun j hj => by rw [HRA.out j hj]; unfold ivZ; rw [if_pos hj]) (Nat.le_refl _) hltw)
      go_wp2
      go_ret
      exact ⟨_, rfl, HOW.out, HB4.out⟩

set_option maxRecDepth 100000 in
set_option maxHeartbeats 3200000 in
theorem inverseSeriesI (A : Option Addr) (xs : List Int) (cap lo hi : Nat) (w : World) (hv : OwnI w lo hi (.slice A xs.length cap) xs) (hhi : hi ≤ w.heap.size) (hcap : xs.length ≤ cap) (hl : xs.length ≤ 1099511627776) :
    Calls Try.prog 19 #[.slice A xs.length cap] w (AnsIB (ivP xs) (ivOk xs) w) := by
  have HM := Lib.hid (isSeriesI A xs cap lo hi w hv hhi hl)
  have HW := Lib.hid (fun W (h : Below w.heap.size w W) => areWithin 10 A xs cap lo hi W (by omega) (by omega) (hv.keep h hhi) (Nat.le_trans hhi h.size) hl)
  have HV := Lib.hid hv
  rcases hx : finB xs with _ | _
  · have HO := Lib.hid (show ivOk xs = false from decide_eq_false fun h => by rw [h.1] at hx; cases hx)
    have HP := Lib.hid (show ivP xs = [] from if_neg (by rw [HO.out]; simp))
    rw [hx] at HM
    clear hx hv
    go_enter Try.func19, Try.ntmps19
    go_wp2_with fail
    (with_reducible refine HM.out.mono ?_)
    rintro e w' ⟨rfl, hb⟩
    go_wp2
    go_ret2
    exact ⟨_, ret_ib rfl HO.out.symm, by rw [HP.out]; exact ⟨_, _, rfl, .inl rfl⟩, hb⟩
  · obtain ⟨p1, p2, p3⟩ := fin_parts hx
    obtain ⟨n, hn⟩ : ∃ n, Hid (n = xs.length) := ⟨_, Lib.hid rfl⟩
    rw [← hn.out] at p2 p3 hcap
    rw [← hn.out] at HW
    rw [hx] at HM
    have HX := Lib.hid hx
    obtain ⟨g1, p1', e1, -, hg1, hc0, -⟩ := hv.cell (j := 0) (by rw [← hn.out]; omega)
    rw [← hn.out] at e1 HM ⊢
    simp only [Value.slice.injEq] at e1
    obtain ⟨rfl, -, rfl⟩ := e1
    have HC0 := Lib.hid hc0
    have HG1 := Lib.hid (show g1 < w.heap.size by omega)
    have hn0 : (0 : Int) < (n : Int) := by omega
    have hn0n : 0 < n := by omega
    have HINV := Lib.hid (fun W (h : Below w.heap.size w W) (hb : inB 10 xs = true) h0 => inverseI (some ⟨g1, 0, none⟩) xs n cap lo hi W (by have := hv.keep h hhi; rw [← hn.out] at this; exact this) hn.out.symm (Nat.le_trans hhi h.size) p2 p3 (fun q => in_all hb (by omega) q) h0)
    clear p1 hx hv hc0 hg1
    by_cases ha : xs.getD 0 0 = 1
    · rw [ha] at HC0
      have H01 := Lib.hid (show xs.getD 0 0 = 1 ∨ xs.getD 0 0 = -1 from .inl ha)
      clear ha
      rcases hb10 : inB 10 xs with _ | _
      · have HO := Lib.hid (show ivOk xs = false from decide_eq_false fun h => by have h3 := h.2.2; rw [hb10] at h3; cases h3)
        have HP := Lib.hid (show ivP xs = [] from if_neg (by rw [HO.out]; simp))
        rw [hb10] at HW
        clear hb10
        go_enter Try.func19, Try.ntmps19
        go_wp2_with fail
        (with_reducible refine HM.out.mono ?_)
        rintro e w1 ⟨rfl, hb⟩
        have HB1 := Lib.hid hb
        have hc0 := (hb.cell (p := ⟨g1, 0, none⟩) HG1.out).trans HC0.out
        clear hb
        go_wp2_with fail
        (with_reducible refine (HW.out _ ?h).mono ?_)
        case h => exact HB1.out
        rintro e w2 ⟨rfl, hb⟩
        have HB2 := Lib.hid (HB1.out.trans (hb.mono HB1.out.size))
        clear hb
        go_wp2
        go_ret2
        exact ⟨_, ret_ib rfl HO.out.symm, by rw [HP.out]; exact ⟨_, _, rfl, .inl rfl⟩, HB2.out⟩
      · have HO := Lib.hid (show ivOk xs = true from decide_eq_true ⟨HX.out, H01.out, hb10⟩)
        have HP := Lib.hid (show ivP xs = ivR xs n by unfold ivP; rw [if_pos HO.out, hn.out])
        have HIV := Lib.hid (fun W h => HINV.out W h hb10 H01.out)
        rw [hb10] at HW
        clear hb10 HINV
        go_enter Try.func19, Try.ntmps19
        go_wp2_with fail
        (with_reducible refine HM.out.mono ?_)
        rintro e w1 ⟨rfl, hb⟩
        have HB1 := Lib.hid hb
        have hc0 := (hb.cell (p := ⟨g1, 0, none⟩) HG1.out).trans HC0.out
        clear hb
        go_wp2_with fail
        (with_reducible refine (HW.out _ ?h).mono ?_)
        case h => exact HB1.out
        rintro e w2 ⟨rfl, hb⟩
        have HB2 := Lib.hid (HB1.out.trans (hb.mono HB1.out.size))
        clear hb
        go_wp2_with fail
        (with_reducible refine (HIV.out _ ?h).mono ?_)
        case h => exact HB2.out
        rintro e w3 ⟨v3, rfl, ho, hb⟩
        have HO3 := Lib.hid (ho.wide HB2.out.size (Nat.le_refl _))
        have HB3 := Lib.hid (HB2.out.trans (hb.mono HB2.out.size))
        clear ho hb
        go_wp2
        go_ret2
        exact ⟨_, ret_ib rfl HO.out.symm, by rw [HP.out]; exact HO3.out, HB3.out⟩
    by_cases hb : xs.getD 0 0 = -1
    · rw [hb] at HC0
      have H01 := Lib.hid (show xs.getD 0 0 = 1 ∨ xs.getD 0 0 = -1 from .inr hb)
      clear ha hb
      rcases hb10 : inB 10 xs with _ | _
      · have HO := Lib.hid (show ivOk xs = false from decide_eq_false fun h => by have h3 := h.2.2; rw [hb10] at h3; cases h3)
        have HP := Lib.hid (show ivP xs = [] from if_neg (by rw [HO.out]; simp))
        rw [hb10] at HW
        clear hb10
        go_enter Try.func19, Try.ntmps19
        go_wp2_with fail
        (with_reducible refine HM.out.mono ?_)
        rintro e w1 ⟨rfl, hb⟩
        have HB1 := Lib.hid hb
        have hc0 := (hb.cell (p := ⟨g1, 0, none⟩) HG1.out).trans HC0.out
        clear hb
        go_wp2_with fail
        (with_reducible refine (HW.out _ ?h).mono ?_)
        case h => exact HB1.out
        rintro e w2 ⟨rfl, hb⟩
        have HB2 := Lib.hid (HB1.out.trans (hb.mono HB1.out.size))
        clear hb
        go_wp2
        go_ret2
        exact ⟨_, ret_ib rfl HO.out.symm, by rw [HP.out]; exact ⟨_, _, rfl, .inl rfl⟩, HB2.out⟩
      · have HO := Lib.hid (show ivOk xs = true from decide_eq_true ⟨HX.out, H01.out, hb10⟩)
        have HP := Lib.hid (show ivP xs = ivR xs n by unfold ivP; rw [if_pos HO.out, hn.out])
        have HIV := Lib.hid (fun W h => HINV.out W h hb10 H01.out)
        rw [hb10] at HW
        clear hb10 HINV
        go_enter Try.func19, Try.ntmps19
        go_wp2_with fail
        (with_reducible refine HM.out.mono ?_)
        rintro e w1 ⟨rfl, hb⟩
        have HB1 := Lib.hid hb
        have hc0 := (hb.cell (p := ⟨g1, 0, none⟩) HG1.out).trans HC0.out
        clear hb
        go_wp2_with fail
        (with_reducible refine (HW.out _ ?h).mono ?_)
        case h => exact HB1.out
        rintro e w2 ⟨rfl, hb⟩
        have HB2 := Lib.hid (HB1.out.trans (hb.mono HB1.out.size))
        clear hb
        go_wp2_with fail
        (with_reducible refine (HIV.out _ ?h).mono ?_)
        case h => exact HB2.out
        rintro e w3 ⟨v3, rfl, ho, hb⟩
        have HO3 := Lib.hid (ho.wide HB2.out.size (Nat.le_refl _))
        have HB3 := Lib.hid (HB2.out.trans (hb.mono HB2.out.size))
        clear ho hb
        go_wp2
        go_ret2
        exact ⟨_, ret_ib rfl HO.out.symm, by rw [HP.out]; exact HO3.out, HB3.out⟩
    have HO := Lib.hid (show ivOk xs = false from decide_eq_false fun h => h.2.1.elim ha hb)
    have HP := Lib.hid (show ivP xs = [] from if_neg (by rw [HO.out]; simp))
    have hne1 : (xs.getD 0 0 != 1) = true := by simpa using ha
    have hne2 : (xs.getD 0 0 == 1) = false := beq_eq_false_iff_ne.2 ha
    have hne3 : (xs.getD 0 0 != -1) = true := by simpa using hb
    have hne4 : (xs.getD 0 0 == -1) = false := beq_eq_false_iff_ne.2 hb
    clear ha hb HINV
    generalize xs.getD 0 0 = x at *
    go_enter Try.func19, Try.ntmps19
    go_wp2_with fail
    (with_reducible refine HM.out.mono ?_)
    rintro e w1 ⟨rfl, hb⟩
    have hc0 := (hb.cell (p := ⟨g1, 0, none⟩) HG1.out).trans HC0.out
    go_wp2
    go_ret2
    exact ⟨_, ret_ib rfl HO.out.symm, by rw [HP.out]; exact ⟨_, _, rfl, .inl rfl⟩, hb⟩

end Go.Proofs.Ytbikipacfmaiaaa
