/- The program's BlocksOf: a table whose rows grow. -/
import Derived.Test.YtpkfgjlbkiiciaaImpl8A
import Derived.Test.YtpkfgjlbkiiciaaTbl
namespace Go.Proofs.Ytpkfgjlbkiiciaa
open Go.ChangeShapes Go.WideShapes Go.ChangeAt Go.RowKit
set_option linter.unusedVariables false

/-- The blocks of the first i elements. -/
def blN (xs : List Int) : Nat → List (List Int)
  | 0 => []
  | i + 1 => (if xs.getD i 0 = (ptN xs i : Int) then blN xs i ++ [[]] else blN xs i).set (xs.getD i 0).toNat
      ((if xs.getD i 0 = (ptN xs i : Int) then blN xs i ++ [[]] else blN xs i).getD (xs.getD i 0).toNat [] ++ [(i : Int)])
theorem blN_len (xs : List Int) (i : Nat) : (blN xs i).length = ptN xs i := by
  induction i with
  | zero => rfl
  | succ i ih => rw [blN, List.length_set, ptN]; split <;> simp [ih]
theorem blN_row (xs : List Int) (i : Nat) : ∀ j, ((blN xs i).getD j []).length ≤ i := by
  induction i with
  | zero => intro j; simp [blN]
  | succ i ih =>
    intro j
    have hx : ∀ j, ((if xs.getD i 0 = (ptN xs i : Int) then blN xs i ++ [[]] else blN xs i).getD j []).length ≤ i := fun j => by
      split
      · by_cases e : j < (blN xs i).length
        · rw [getD_app_l _ _ _ _ e]; exact ih j
        · by_cases e2 : j = (blN xs i).length
          · rw [e2, getD_app_e]; exact Nat.zero_le _
          · rw [List.getD_eq_getElem?_getD, List.getElem?_eq_none (by rw [List.length_append, List.length_singleton]; omega)]; exact Nat.zero_le _
      · exact ih j
    rw [blN]
    generalize (if xs.getD i 0 = (ptN xs i : Int) then blN xs i ++ [[]] else blN xs i) = l at *
    by_cases e : j = (xs.getD i 0).toNat
    · by_cases e2 : j < l.length
      · rw [← e, getD_set_me _ _ _ _ e2, List.length_append, List.length_singleton]
        have := hx j; omega
      · rw [List.getD_eq_getElem?_getD, List.getElem?_eq_none (by rw [List.length_set]; omega)]; exact Nat.zero_le _
    · rw [getD_set_ot _ _ _ _ _ e]
      have := hx j; omega
def blP (xs : List Int) : List (List Int) := if prtB xs then blN xs xs.length else []

set_option maxRecDepth 100000 in
set_option maxHeartbeats 3200000 in
theorem blocksOfI (A : Option Addr) (xs : List Int) (cap lo hi : Nat) (w : World) (hv : OwnI w lo hi (.slice A xs.length cap) xs) (hhi : hi ≤ w.heap.size) (hwf : ∀ y ∈ xs, (Lit.int .i64 y).wf = true) :
    Calls Try.prog 48 #[.slice A xs.length cap] w fun e w' => ∃ v vs, e = .returned v ∧ Tb w' w.heap.size v vs (blP xs) ∧ Below w.heap.size w w' := by
  have HP := Lib.hid (isPartitionI A xs cap lo hi w hv hhi hwf)
  have HV := Lib.hid hv
  clear hv
  rcases h8 : prtB xs with _ | _
  · rw [h8] at HP
    have HBP := Lib.hid (show blP xs = [] by unfold blP; rw [h8]; rfl)
    clear h8
    go_enter Try.func48, Try.ntmps48
    go_wp2_with fail
    (with_reducible refine HP.out.mono ?_)
    rintro e w1 ⟨rfl, hb⟩
    have HB := Lib.hid hb
    clear hb
    go_wp2
    go_ret
    exact ⟨nilV, [], rfl, by rw [HBP.out]; exact Tb.nil _ _, HB.out⟩
  · have hlen : xs.length ≤ 8 := (prt_yes h8).1
    have HOK := Lib.hid (prt_yes h8).2
    rw [h8] at HP
    have HBP := Lib.hid (show blP xs = blN xs xs.length by unfold blP; rw [h8]; rfl)
    clear h8
    go_enter Try.func48, Try.ntmps48
    go_wp2_with fail
    (with_reducible refine HP.out.mono ?_)
    rintro e w1 ⟨rfl, hb⟩
    have HB0 := Lib.hid hb
    clear hb HP
    go_wp2
    go_loopw [3, 11] (fun u y wr => ∃ (i : Nat) (vs : List Value), i ≤ xs.length ∧ y = .int .i64 i ∧ Tb wr w.heap.size u vs (blN xs i) ∧ Below w.heap.size w wr) (fun _ y _ => xs.length - (intOf y).toNat)
    case atStart => exact ⟨0, [], Nat.zero_le _, rfl, Tb.nil _ _, HB0.out⟩
    case round =>
      obtain ⟨i, vs, hi1, rfl, ht, hb⟩ := hrel
      have HT := Lib.hid ht
      have HB := Lib.hid hb
      have hB := hb.size
      obtain ⟨A3, c3, hu3⟩ := ht.form
      clear ht hb HB0
      by_cases hlt : i < xs.length
      · obtain ⟨g, c, e', -, -, hc, -⟩ := (HV.out.keep HB.out hhi).cell hlt
        simp only [Value.slice.injEq] at e'
        obtain ⟨rfl, -, -⟩ := e'
        have hii : (i : Int) < (xs.length : Int) := by omega
        have hpt := ptN_le xs i
        have hbl := blN_len xs i
        have hok := HOK.out i hlt
        have HRN0 := Lib.hid (show blN xs (i + 1) = (if xs.getD i 0 = (ptN xs i : Int) then blN xs i ++ [[]] else blN xs i).set (xs.getD i 0).toNat
          ((if xs.getD i 0 = (ptN xs i : Int) then blN xs i ++ [[]] else blN xs i).getD (xs.getD i 0).toNat [] ++ [(i : Int)]) from rfl)
        have HRW := Lib.hid (blN_row xs i)
        generalize blN xs i = ls at *
        generalize hk : (xs.getD i 0).toNat = k at *
        have hyk : xs.getD i 0 = (k : Int) := by omega
        rw [hyk] at hc HRN0 hok
        clear hyk hk
        have HLT := Lib.hid (fun b hb => (HT.out.own.lt b hb).1)
        have hl8 : ls.length ≤ 8 := by omega
        by_cases e : (k : Int) = (ptN xs i : Int)
        · have he : ((k : Int) == (ls.length : Int)) = true := by simp; omega
          obtain ⟨ls1, HLS⟩ : ∃ ls1, Hid (ls1 = ls ++ [[]]) := ⟨_, Lib.hid rfl⟩
          have HRN := Lib.hid (show blN xs (i + 1) = ls1.set k (ls1.getD k [] ++ [(i : Int)]) by rw [HRN0.out, if_pos e, HLS.out])
          have HKL := Lib.hid (show k < ls1.length by rw [HLS.out, List.length_append, List.length_singleton]; omega)
          have hkl : (k : Int) < (ls1.length : Int) := by have := HKL.out; omega
          have HR8 := Lib.hid (show (ls1.getD k []).length ≤ 1099511627776 by
            rw [HLS.out]
            by_cases e : k < ls.length
            · rw [getD_app_l _ _ _ _ e]; have := HRW.out k; omega
            · rw [show k = ls.length by have := HKL.out; rw [HLS.out, List.length_append, List.length_singleton] at this; omega, getD_app_e]; exact Nat.zero_le _)
          clear HRN0 hok hbl hpt e
          subst hu3
          go_wp2_with (first | (at_builtin; refine wpAppTb rfl _ _ rfl w.heap.size _ vs ls rfl (HT.out.alloc _) wr.heap.size _ nilV rfl (cell_one _ _ _) rfl (World.ownsRow_nil _ _ _ _) (fun j hj => .inl rfl) (by omega) (by simp; omega) ?_; intro v1 w1 ht1 hg1; go_must (have hB1 := ((HB.out.alloc hB _).grown hg1 (by simp; omega) (fun b hb => HLT.out b hb)); rw [← HLS.out] at ht1; obtain ⟨vs1, HVS⟩ : ∃ vs1, Hid (vs1 = vs ++ [nilV]) := ⟨_, Lib.hid rfl⟩; rw [← HVS.out] at ht1; obtain ⟨o, c1, he1, ho1, ho2, hcell1, hfr1⟩ := ht1.cell (j := k) HKL.out; subst he1; have HTK := Lib.hid ht1; have HBW := Lib.hid hB1; have hBW := hB1.size; obtain ⟨rv, HRV⟩ : ∃ rv, Hid (rv = vs1.getD k nilV) := ⟨_, Lib.hid rfl⟩; obtain ⟨r, HR⟩ : ∃ r, Hid (r = ls1.getD k []) := ⟨_, Lib.hid rfl⟩; rw [← HRV.out] at hcell1; have HROW := Lib.hid (by have h := ht1.row k HKL.out; rw [← HRV.out, ← HR.out] at h; exact h); have HLO := Lib.hid (fun b (hb : rv.ownBlock = some b) => (World.ownsRow.lt HROW.out b hb).1); clear ht1 hg1 hB1)) | (at_builtin; refine wpAppIntAt rfl _ _ rfl w.heap.size rv _ r rfl (World.ownsRow.alloc HROW.out _) _ _ (i : Int) rfl (cell_one _ _ _) (by rw [HR.out]; exact HR8.out) (by simp; omega) ?_; intro v2 w2 hown2 hg2 hat2; go_must (obtain ⟨g2, c2, hv2, -, -⟩ := World.ownsRow.form hown2 (by omega); subst hv2; have HO2 := Lib.hid hown2; have HG2 := Lib.hid hg2; have HA2 := Lib.hid hat2; have hfr2 := Tb.free (HTK.out.alloc _) HKL.out (by rw [← HRV.out]; exact hg2); have hce2 := Tb.read (HTK.out.alloc _) HKL.out (by rw [← HRV.out]; exact hg2); rw [← HRV.out] at hce2; clear hown2 hg2 hat2)))
          have hz2 : w1.heap.size + 1 ≤ w2.heap.size := (by have h := HG2.out.size; simpa using h)
          go_roundw
          case rel => exact ⟨i + 1, vs1.set k _, by omega, by simp, by rw [HRN.out, HR.out]; exact Tb.put (HTK.out.alloc _) HKL.out (by rw [← HR.out]; exact HO2.out) (by rw [← HRV.out]; exact HG2.out) (by rw [← HRV.out]; exact HA2.out), ((HBW.out.alloc hBW _).grown HG2.out (by simp; omega) (fun b hb => HLO.out b hb)).setCell (by exact ho1) _⟩
          case measure => simp [intOf]; omega
        · have he : ((k : Int) == (ls.length : Int)) = false := by simp; omega
          obtain ⟨ls1, HLS⟩ : ∃ ls1, Hid (ls1 = ls) := ⟨_, Lib.hid rfl⟩
          obtain ⟨vs1, HVS⟩ : ∃ vs1, Hid (vs1 = vs) := ⟨_, Lib.hid rfl⟩
          have HRN := Lib.hid (show blN xs (i + 1) = ls1.set k (ls1.getD k [] ++ [(i : Int)]) by rw [HRN0.out, if_neg e, HLS.out])
          have HKL := Lib.hid (show k < ls1.length by rw [HLS.out]; omega)
          have hkl : (k : Int) < (ls1.length : Int) := by have := HKL.out; omega
          have HR8 := Lib.hid (show (ls1.getD k []).length ≤ 1099511627776 by rw [HLS.out]; have := HRW.out k; omega)
          rw [← HLS.out, ← HVS.out] at HT
          have ht1 := HT.out
          have hB1 := HB.out
          rw [← HLS.out] at he hl8 hu3
          clear HRN0 hok hbl hpt e
          obtain ⟨o, c1, he1, ho1, ho2, hcell1, hfr1⟩ := ht1.cell (j := k) HKL.out; subst he1; have HTK := Lib.hid ht1; have HBW := Lib.hid hB1; have hBW := hB1.size; obtain ⟨rv, HRV⟩ : ∃ rv, Hid (rv = vs1.getD k nilV) := ⟨_, Lib.hid rfl⟩; obtain ⟨r, HR⟩ : ∃ r, Hid (r = ls1.getD k []) := ⟨_, Lib.hid rfl⟩; rw [← HRV.out] at hcell1; have HROW := Lib.hid (by have h := ht1.row k HKL.out; rw [← HRV.out, ← HR.out] at h; exact h); have HLO := Lib.hid (fun b (hb : rv.ownBlock = some b) => (World.ownsRow.lt HROW.out b hb).1)
          clear ht1 hB1
          go_wp2_with (at_builtin; go_must (refine wpAppIntAt rfl _ _ rfl w.heap.size rv _ r rfl (World.ownsRow.alloc HROW.out _) _ _ (i : Int) rfl (cell_one _ _ _) (by rw [HR.out]; exact HR8.out) (by simp; omega) ?_); intro v2 w2 hown2 hg2 hat2; go_must (obtain ⟨g2, c2, hv2, -, -⟩ := World.ownsRow.form hown2 (by omega); subst hv2; have HO2 := Lib.hid hown2; have HG2 := Lib.hid hg2; have HA2 := Lib.hid hat2; have hfr2 := Tb.free (HTK.out.alloc _) HKL.out (by rw [← HRV.out]; exact hg2); have hce2 := Tb.read (HTK.out.alloc _) HKL.out (by rw [← HRV.out]; exact hg2); rw [← HRV.out] at hce2; clear hown2 hg2 hat2))
          have hz2 : wr.heap.size + 1 ≤ w2.heap.size := (by have h := HG2.out.size; simpa using h)
          go_roundw
          case rel => exact ⟨i + 1, vs1.set k _, by omega, by simp, by rw [HRN.out, HR.out]; exact Tb.put (HTK.out.alloc _) HKL.out (by rw [← HR.out]; exact HO2.out) (by rw [← HRV.out]; exact HG2.out) (by rw [← HRV.out]; exact HA2.out), ((HBW.out.alloc hBW _).grown HG2.out (by simp; omega) (fun b hb => HLO.out b hb)).setCell (by exact ho1) _⟩
          case measure => simp [intOf]; omega
      · obtain rfl : i = xs.length := by omega
        have HTE := Lib.hid (show Tb wr w.heap.size u3 vs (blP xs) by rw [HBP.out]; exact HT.out)
        go_wp2
        go_ret
        exact ⟨_, vs, rfl, HTE.out, HB.out⟩

end Go.Proofs.Ytpkfgjlbkiiciaa
