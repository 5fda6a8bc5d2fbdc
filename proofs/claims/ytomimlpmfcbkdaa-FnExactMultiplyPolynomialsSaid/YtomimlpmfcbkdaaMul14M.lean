/- The program's MultiplyPolynomials. -/
import Derived.Test.YtomimlpmfcbkdaaMul14S
namespace Go.Proofs.Ytomimlpmfcbkdaa
open Go.ChangeShapes Go.WideShapes Go.ChangeAt Go.RowKit
set_option linter.unusedVariables false

theorem adL_all (S p : List Int) (q : Nat) : (adL S p).getD q 0 = S.getD q 0 + p.getD q 0 := by
  rcases Nat.lt_or_ge q (max S.length p.length) with h | h
  · exact adL_at S p h
  · rw [getD_out (S := adL S p) (by unfold adL; rw [adI_len]; exact h), getD_out (S := S) (by omega), getD_out (S := p) (by omega)]; rfl
theorem tmL_all (c : Int) (p : Nat) (b : List Int) (q : Nat) : (tmL c p b).getD q 0 = if p ≤ q ∧ q < p + b.length then c * b.getD (q - p) 0 else 0 := by
  rcases Nat.lt_or_ge q (p + b.length) with h | h
  · exact tmL_at c p b h
  · rw [getD_out (S := tmL c p b) (by rw [tmL_len]; exact h), if_neg (by omega)]
theorem sm_at (xs ys : List Int) : ∀ t, t ≤ xs.length → ∀ q, (smP (tmsL xs ys) t).getD q 0 = cvF xs ys t q := by
  intro t
  induction t with
  | zero => intro _ q; simp [smP, cvF]
  | succ t ih =>
    intro ht q
    rw [smP, adL_all, ih (by omega) q, tmsL_at xs ys (by omega), tmL_all, cvF]
theorem sm_len (xs ys : List Int) : ∀ t, t ≤ xs.length → (smP (tmsL xs ys) t).length = if t = 0 then 0 else t - 1 + ys.length := by
  intro t
  induction t with
  | zero => intro _; rfl
  | succ t ih =>
    intro ht
    have e := ih (by omega)
    rw [smP, if_neg (by omega)]
    unfold adL
    rw [adI_len, e, tmsL_at xs ys (by omega), tmL_len]
    split <;> omega
theorem trN_none (xs : List Int) : ∀ k, (∀ q, q < k → xs.getD q 0 = 0) → trN xs k = 0 := by
  intro k
  induction k with
  | zero => intro _; rfl
  | succ k ih => intro h; rw [trN, if_pos (h k (by omega)), ih fun q hq => h q (by omega)]
theorem cvF_none (xs ys : List Int) (h : ys.length = 0) : ∀ t q, cvF xs ys t q = 0 := by
  intro t
  induction t with
  | zero => intro q; rfl
  | succ t ih => intro q; rw [cvF, ih, if_neg (by omega)]; rfl
theorem sm_trim (xs ys : List Int) : trL (smP (tmsL xs ys) xs.length) = mulL xs ys := by
  have hl := sm_len xs ys xs.length (Nat.le_refl _)
  have ha := sm_at xs ys xs.length (Nat.le_refl _)
  unfold mulL
  by_cases h0 : xs.length = 0
  · rw [if_pos (.inl h0)]
    rw [if_pos h0] at hl
    rw [List.eq_nil_of_length_eq_zero hl]; rfl
  by_cases h1 : ys.length = 0
  · rw [if_pos (.inr h1)]
    unfold trL
    rw [trN_none _ _ fun q _ => by rw [ha, cvF_none xs ys h1]]; rfl
  rw [if_neg (by omega)]
  rw [if_neg h0] at hl
  congr 1
  have hm := mulR_len xs ys
  refine List.ext_getElem (by omega) fun q g1 g2 => ?_
  have e1 := ha q
  have e2 := mulR_at xs ys (q := q) (by omega)
  rw [List.getD_eq_getElem?_getD, List.getElem?_eq_getElem g1, Option.getD_some] at e1
  rw [List.getD_eq_getElem?_getD, List.getElem?_eq_getElem g2, Option.getD_some] at e2
  rw [e1, e2]

set_option maxRecDepth 100000 in
set_option maxHeartbeats 3200000 in
theorem multiplyPolynomialsI (A A' : Option Addr) (xs ys : List Int) (cap cap' lo hi lo' hi' : Nat) (w : World) (hv : OwnI w lo hi (.slice A xs.length cap) xs) (hu : OwnI w lo' hi' (.slice A' ys.length cap') ys) (hhi : hi ≤ w.heap.size) (hhu : hi' ≤ w.heap.size) (hcap : xs.length ≤ cap) (hcap' : ys.length ≤ cap') (hl : xs.length ≤ 1099511627776) (hl' : ys.length ≤ 1099511627776) :
    Calls Try.prog 17 #[.slice A xs.length cap, .slice A' ys.length cap'] w (AnsIB (mulP xs ys) (mulOk xs ys) w) := by
  have HB0 := Lib.hid ((Below.refl w.heap.size w).alloc (Nat.le_refl _) (.cells #[.slice A' ys.length cap'] 22))
  have HC0 := Lib.hid (cell_one w (.slice A' ys.length cap') 22)
  have HSZ := Lib.hid (show (w.alloc (.cells #[.slice A' ys.length cap'] 22)).heap.size = w.heap.size + 1 by show (w.heap.push _).size = _; simp)
  have hszl : w.heap.size ≤ (w.alloc (.cells #[.slice A' ys.length cap'] 22)).heap.size := HB0.out.size
  have HV := Lib.hid (hv.keep HB0.out hhi)
  have HU := Lib.hid (hu.keep HB0.out hhu)
  generalize hW : w.alloc (.cells #[.slice A' ys.length cap'] 22) = W at *
  have HM := Lib.hid (isFactorI A xs cap lo hi W HV.out (by omega) hcap hl)
  have HN := Lib.hid (fun W1 (h : Below W.heap.size W W1) => isFactorI A' ys cap' lo' hi' W1 (HU.out.keep h (by omega)) (by have := h.size; omega) hcap' hl')
  have HCC := Lib.hid (fun W1 (h : Below W.heap.size W W1) => (h.cell (p := ⟨w.heap.size, 0, none⟩) (by show w.heap.size < _; have := HSZ.out; omega)).trans HC0.out)
  clear hv hu
  rcases hx : facB xs with _ | _
  · have HO := Lib.hid (show mulOk xs ys = false by unfold mulOk; rw [hx]; rfl)
    have HP := Lib.hid (show mulP xs ys = [] from if_neg (by rw [HO.out]; simp))
    rw [hx] at HM
    clear hx
    go_enter Try.func17, Try.ntmps17
    go_wp2_with fail
    (with_reducible refine HM.out.mono ?_)
    rintro e w1 ⟨rfl, hb⟩
    have HB1 := Lib.hid hb
    have hc1 := HCC.out _ hb
    clear hb
    go_wp2
    go_ret2
    exact ⟨_, ret_ib rfl HO.out.symm, by rw [HP.out]; exact ⟨_, _, rfl, .inl rfl⟩, HB0.out.trans (HB1.out.mono hszl)⟩
  rcases hy : facB ys with _ | _
  · have HO := Lib.hid (show mulOk xs ys = false by unfold mulOk; rw [hx, hy]; rfl)
    have HP := Lib.hid (show mulP xs ys = [] from if_neg (by rw [HO.out]; simp))
    rw [hx] at HM
    rw [hy] at HN
    clear hx hy
    go_enter Try.func17, Try.ntmps17
    go_wp2_with fail
    (with_reducible refine HM.out.mono ?_)
    rintro e w1 ⟨rfl, hb⟩
    have HB1 := Lib.hid hb
    have hc1 := HCC.out _ hb
    clear hb
    go_wp2_with fail
    (with_reducible refine (HN.out _ HB1.out).mono ?_)
    rintro e w2 ⟨rfl, hb⟩
    have HB2 := Lib.hid (HB1.out.trans (hb.mono HB1.out.size))
    have hc2 := HCC.out _ HB2.out
    clear hb
    go_wp2
    go_ret2
    exact ⟨_, ret_ib rfl HO.out.symm, by rw [HP.out]; exact ⟨_, _, rfl, .inl rfl⟩, HB0.out.trans (HB2.out.mono hszl)⟩
  have hSw : IntKind.i64.wrap ((xs.length : Int) + (ys.length : Int)) = (xs.length : Int) + (ys.length : Int) := IntWalk.i64_in _ (by omega)
  by_cases hs : xs.length + ys.length ≤ 62
  · have hxx := hx
    have hyy := hy
    unfold facB at hxx hyy
    rw [Bool.and_eq_true] at hxx hyy
    have HTM := Lib.hid (fun W2 (h : Below W.heap.size W W2) => termsOf A xs cap lo hi W2 (HV.out.keep h (by omega)) (by have := h.size; omega) (by omega))
    have HSM := Lib.hid (fun b W3 (h : Below W.heap.size W W3) (ht : TmA W3 b xs.length xs.length xs) => sumOfTerms b xs.length w.heap.size xs.length A' xs ys cap' lo' hi' W3 (tmsL xs ys) rfl (by simp [tmsL]) 1000000000000 (by omega) (by omega) ht (HCC.out _ h) (by have := h.size; have := HSZ.out; omega) (HU.out.keep h (by omega)) (by have := h.size; omega) (by omega) (by omega) hxx.1 hyy.1
      (fun t ht q => by rw [sm_at xs ys t ht]; have := cvF_le hxx.1 hyy.1 t q; omega)
      (fun j q hj => by
        rw [tmsL_at xs ys hj, tmL_all]
        split
        · have h1 := inB_at hxx.1 (by omega) j
          have h2 := inB_at hyy.1 (by omega) (q - j)
          have := mul_small h1.1 h1.2 h2.1 h2.2
          omega
        · omega)
      (fun t ht => by rw [sm_len xs ys t ht]; split <;> omega))
    rw [sm_trim] at HSM
    have HOK := Lib.hid (show mulOk xs ys = plyB (mulL xs ys) by unfold mulOk; rw [hx, hy, decide_eq_true hs]; rfl)
    have HTL := Lib.hid (mulL_le xs ys)
    have HPO := Lib.hid (fun A c lo hi W (h : OwnI W lo hi (.slice A (mulL xs ys).length c) (mulL xs ys)) (hh : hi ≤ W.heap.size) (hc : (mulL xs ys).length ≤ c) => isPolynomialI A (mulL xs ys) c lo hi W h hh hc (by have := HTL.out; omega))
    have hsi : ¬ (62 : Int) < (xs.length : Int) + (ys.length : Int) := by omega
    have hsd : decide ((62 : Int) < (xs.length : Int) + (ys.length : Int)) = false := decide_eq_false hsi
    rw [hx] at HM
    rw [hy] at HN
    clear hx hy hxx hyy
    rcases hq : plyB (mulL xs ys) with _ | _
    · have HO := Lib.hid (HOK.out.trans hq)
      have HP := Lib.hid (show mulP xs ys = [] from if_neg (by rw [HO.out]; simp))
      rw [hq] at HPO
      clear hq
      go_enter Try.func17, Try.ntmps17
      go_wp2_with fail
      (with_reducible refine HM.out.mono ?_)
      rintro e w1 ⟨rfl, hb⟩
      have HB1 := Lib.hid hb
      have hc1 := HCC.out _ hb
      clear hb
      go_wp2_with fail
      (with_reducible refine (HN.out _ HB1.out).mono ?_)
      rintro e w2 ⟨rfl, hb⟩
      have HB2 := Lib.hid (HB1.out.trans (hb.mono HB1.out.size))
      have hc2 := HCC.out _ HB2.out
      clear hb
      go_wp2_with fail
      (with_reducible refine (HTM.out _ HB2.out).mono ?_)
      rintro e w3 ⟨rfl, ht, hb⟩
      have HT3 := Lib.hid ht
      have HB3 := Lib.hid (HB2.out.trans (hb.mono HB2.out.size))
      clear ht hb
      go_wp2_with fail
      (with_reducible refine (HSM.out _ _ HB3.out HT3.out).mono ?_)
      rintro e w4 ⟨A4, c4, rfl, hcc, ho, hb⟩
      have HC4 := Lib.hid hcc
      have HO4 := Lib.hid ho
      have HB4 := Lib.hid (HB3.out.trans (hb.mono HB3.out.size))
      have z3 := HB3.out.size
      clear hcc ho hb
      go_wp2_with fail
      (with_reducible refine (HPO.out _ _ _ _ _ HO4.out (Nat.le_refl _) HC4.out).mono ?_)
      rintro e w5 ⟨rfl, hb⟩
      have HO5 := Lib.hid ((HO4.out.keep hb (Nat.le_refl _)).wide (show w.heap.size ≤ _ by omega) hb.size)
      have HB5 := Lib.hid (HB4.out.trans (hb.mono HB4.out.size))
      clear hb
      go_wp2
      go_ret2
      exact ⟨_, ret_ib rfl HO.out.symm, by rw [HP.out]; exact ⟨_, _, rfl, .inl rfl⟩, HB0.out.trans (HB5.out.mono hszl)⟩
    · have HO := Lib.hid (HOK.out.trans hq)
      have HP := Lib.hid (show mulP xs ys = mulL xs ys from if_pos HO.out)
      rw [hq] at HPO
      clear hq
      go_enter Try.func17, Try.ntmps17
      go_wp2_with fail
      (with_reducible refine HM.out.mono ?_)
      rintro e w1 ⟨rfl, hb⟩
      have HB1 := Lib.hid hb
      have hc1 := HCC.out _ hb
      clear hb
      go_wp2_with fail
      (with_reducible refine (HN.out _ HB1.out).mono ?_)
      rintro e w2 ⟨rfl, hb⟩
      have HB2 := Lib.hid (HB1.out.trans (hb.mono HB1.out.size))
      have hc2 := HCC.out _ HB2.out
      clear hb
      go_wp2_with fail
      (with_reducible refine (HTM.out _ HB2.out).mono ?_)
      rintro e w3 ⟨rfl, ht, hb⟩
      have HT3 := Lib.hid ht
      have HB3 := Lib.hid (HB2.out.trans (hb.mono HB2.out.size))
      clear ht hb
      go_wp2_with fail
      (with_reducible refine (HSM.out _ _ HB3.out HT3.out).mono ?_)
      rintro e w4 ⟨A4, c4, rfl, hcc, ho, hb⟩
      have HC4 := Lib.hid hcc
      have HO4 := Lib.hid ho
      have HB4 := Lib.hid (HB3.out.trans (hb.mono HB3.out.size))
      have z3 := HB3.out.size
      clear hcc ho hb
      go_wp2_with fail
      (with_reducible refine (HPO.out _ _ _ _ _ HO4.out (Nat.le_refl _) HC4.out).mono ?_)
      rintro e w5 ⟨rfl, hb⟩
      have HO5 := Lib.hid ((HO4.out.keep hb (Nat.le_refl _)).wide (show w.heap.size ≤ _ by omega) hb.size)
      have HB5 := Lib.hid (HB4.out.trans (hb.mono HB4.out.size))
      clear hb
      go_wp2
      go_ret2
      exact ⟨_, ret_ib rfl HO.out.symm, by rw [HP.out]; exact HO5.out, HB0.out.trans (HB5.out.mono hszl)⟩
  · have HO := Lib.hid (show mulOk xs ys = false by unfold mulOk; rw [decide_eq_false hs]; simp)
    have HP := Lib.hid (show mulP xs ys = [] from if_neg (by rw [HO.out]; simp))
    have hsi : (62 : Int) < (xs.length : Int) + (ys.length : Int) := by omega
    have hsd : decide ((62 : Int) < (xs.length : Int) + (ys.length : Int)) = true := decide_eq_true hsi
    rw [hx] at HM
    rw [hy] at HN
    clear hx hy
    go_enter Try.func17, Try.ntmps17
    go_wp2_with fail
    (with_reducible refine HM.out.mono ?_)
    rintro e w1 ⟨rfl, hb⟩
    have HB1 := Lib.hid hb
    have hc1 := HCC.out _ hb
    clear hb
    go_wp2_with fail
    (with_reducible refine (HN.out _ HB1.out).mono ?_)
    rintro e w2 ⟨rfl, hb⟩
    have HB2 := Lib.hid (HB1.out.trans (hb.mono HB1.out.size))
    have hc2 := HCC.out _ HB2.out
    clear hb
    go_wp2
    go_ret2
    exact ⟨_, ret_ib rfl HO.out.symm, by rw [HP.out]; exact ⟨_, _, rfl, .inl rfl⟩, HB0.out.trans (HB2.out.mono hszl)⟩

end Go.Proofs.Ytomimlpmfcbkdaa
