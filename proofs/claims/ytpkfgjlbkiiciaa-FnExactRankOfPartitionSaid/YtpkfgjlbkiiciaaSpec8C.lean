/- The model's BlocksOf: a table whose rows grow, in a drawn region. -/
import Derived.Test.YtpkfgjlbkiiciaaImpl8E
import Derived.Test.YtpkfgjlbkiiciaaImpl8B
namespace Go.Proofs.Ytpkfgjlbkiiciaa
open Go.ChangeShapes Go.WideShapes Go.ChangeAt Go.RowKit
set_option linter.unusedVariables false

theorem sb_kept {W w' : World} {g i o k : Nat} {x y : Value} (hg : w'.heap[g]? = W.heap[g]?) (ho : w'.heap[o]? = W.heap[o]?) (h : W.cell? ⟨g, i, none⟩ = some x ∧ W.cell? ⟨o, k, none⟩ = some y ∧ W.frozen? ⟨o, k, none⟩ = false) : w'.cell? ⟨g, i, none⟩ = some x ∧ w'.cell? ⟨o, k, none⟩ = some y ∧ w'.frozen? ⟨o, k, none⟩ = false :=
  ⟨(World.cell?_of_block (a := ⟨g, i, none⟩) hg).trans h.1, (World.cell?_of_block (a := ⟨o, k, none⟩) ho).trans h.2.1, (World.frozen?_of_block (a := ⟨o, k, none⟩) ho).trans h.2.2⟩
theorem sb_al {W : World} {g i o k : Nat} {x y : Value} (h : W.cell? ⟨g, i, none⟩ = some x ∧ W.cell? ⟨o, k, none⟩ = some y ∧ W.frozen? ⟨o, k, none⟩ = false) (b : Obj) : (W.alloc b).cell? ⟨g, i, none⟩ = some x ∧ (W.alloc b).cell? ⟨o, k, none⟩ = some y ∧ (W.alloc b).frozen? ⟨o, k, none⟩ = false :=
  sb_kept (Below.heap_alloc _ _ _ (World.block_lt_of_cell? _ _ h.1)) (Below.heap_alloc _ _ _ (World.block_lt_of_cell? _ _ h.2.1)) h
theorem sb_gr {W w' : World} {row : Option Nat} {g i o k : Nat} {x y : Value} (hgr : W.grownBy w' row) (hg : row ≠ some g) (ho : row ≠ some o) (h : W.cell? ⟨g, i, none⟩ = some x ∧ W.cell? ⟨o, k, none⟩ = some y ∧ W.frozen? ⟨o, k, none⟩ = false) : w'.cell? ⟨g, i, none⟩ = some x ∧ w'.cell? ⟨o, k, none⟩ = some y ∧ w'.frozen? ⟨o, k, none⟩ = false :=
  sb_kept (hgr.block _ (World.block_lt_of_cell? _ _ h.1) (Ne.symm hg)) (hgr.block _ (World.block_lt_of_cell? _ _ h.2.1) (Ne.symm ho)) h
/-- One int appended to a row of this call's own, in a region; where the new row lies. -/
theorem stepAppAt {w : World} {ops : Array Oper} {o : Oper} {a : Act} {K : Act → World → Prop} {Q : Exit → Act → World → Prop} {E : Prop} (hgd : o.guard = none) (s x : Operand)
    (ho : o.op = .call { callee := .builtin .append, args := #[s, x], argTypes := #[22, 22] })
    (base : Nat) (v : Value) (n : Nat) (xs : List Int) (hs : a.eval s = v) (hown : w.ownsRow base 3 1 v n (xs.map (Value.int .i64)))
    (b c : Nat) (y : Int) (hx : a.eval x = .slice (some ⟨b, 0, none⟩) 1 c) (hcell : w.cell? ⟨b, 0, none⟩ = some (.int .i64 y))
    (hn : n ≤ 1099511627776) (hbase : base ≤ w.heap.size)
    (h : ∀ v' w', w'.ownsRow base 3 1 v' (n + 1) ((xs ++ [y]).map (Value.int .i64)) → w.grownBy w' v.ownBlock → (v'.ownBlock = v.ownBlock ∨ v'.ownBlock = some w.heap.size) → K (a.put o.dst v') w') :
    if Region.wanted o (yielded ops a.tmps) = true then Oper.wp Try.prog o a w K Q else E := by
  have hw : Region.wanted o (yielded ops a.tmps) = true := by simp [Region.wanted, hgd]
  rw [if_pos hw]
  obtain ⟨i0, hi, hz0, hz1, hz2⟩ := info_parts info3
  obtain ⟨v', w', hr, h2, h3, h4, h5⟩ := run_append_own_at (P := Try.prog) w base 22 o.type 3 i0 (.int .i64 0) 1 8 Try.underlying22 hi hz0 hz1 hz2 rfl (by decide) v n _ hown ⟨b, 0, none⟩ 1 c [.int .i64 y] rfl (fun j u hj => by
    match j, hj with
    | 0, hj => simp at hj; subst hj; simpa [Addr.add] using hcell) (fun u hu => by simp at hu; subst hu; rfl) (by unfold maxLen; omega) (by omega) hbase
  unfold Oper.wp execOp
  simp only [ho, resolve, invoke, builtin, Sem.run_bind, Sem.run_pure, Result.andThen_ok, List.map_toArray, List.map_cons, List.map_nil, hs, hx, hr]
  exact h v' w' (by simpa using h2) h3 h5

set_option maxRecDepth 100000 in
set_option maxHeartbeats 3200000 in
theorem blocksOf (A : Option Addr) (xs : List Int) (cap lo hi : Nat) (w : World) (hv : OwnI w lo hi (.slice A xs.length cap) xs) (hhi : hi ≤ w.heap.size) (hl : xs.length ≤ 1099511627776) :
    Calls Try.prog 26 #[.slice A xs.length cap] w fun e w' => ∃ v vs, e = .returned v ∧ Tb w' w.heap.size v vs (blP xs) ∧ Below w.heap.size w w' := by
  have HM := Lib.hid (fun w' lo hi (h : OwnI w' lo hi (.slice A xs.length cap) xs) => isPartition (.slice A xs.length cap) xs lo hi w' h hl)
  have HV := Lib.hid hv
  clear hv
  have HT0 := Lib.hid (Tb.made w w.heap.size (Nat.le_refl _))
  have HB0 := Lib.hid ((Below.refl w.heap.size w).alloc (Nat.le_refl _) (.cells #[] 22))
  rcases h8 : prtB xs with _ | _
  · have HBP := Lib.hid (show blP xs = [] by unfold blP; rw [h8]; rfl)
    have hne : xs.length ≠ 0 := fun h => by
      have : prtB xs = true := decide_eq_true ⟨by omega, fun i hi => by omega⟩
      rw [h8] at this; cases this
    have hii : (0 : Int) < (xs.length : Int) := by omega
    have HM0 := Lib.hid (HM.out (w.alloc (.cells #[] 22)) lo hi (HV.out.keep HB0.out hhi))
    rw [h8] at HM0
    clear h8 hne
    go_enter Try.func26, Try.ntmps26
    go_wp2
    refine wp_loop_rounds 1 ?_
    rw [rounds_succ]
    go_wp2_with fail
    (with_reducible refine HM0.out.mono ?_)
    rintro e w' ⟨rfl, rfl⟩
    go_wp2
    go_ret
    exact ⟨_, [], rfl, by rw [HBP.out]; exact HT0.out, HB0.out⟩
  · have hlen : xs.length ≤ 8 := (prt_yes h8).1
    have HOK := Lib.hid (prt_yes h8).2
    rw [h8] at HM
    have HBP := Lib.hid (show blP xs = blN xs xs.length by unfold blP; rw [h8]; rfl)
    clear h8
    go_enter Try.func26, Try.ntmps26
    go_wp2
    go_loopw [3, 4] (fun u y wr => ∃ (i : Nat) (vs : List Value), i ≤ xs.length ∧ y = .int .i64 i ∧ Tb wr w.heap.size u vs (blN xs i) ∧ Below w.heap.size w wr) (fun _ y _ => xs.length - (intOf y).toNat)
    case atStart => exact ⟨0, [], Nat.zero_le _, rfl, HT0.out, HB0.out⟩
    case round =>
      obtain ⟨i, vs, hi1, rfl, ht, hb⟩ := hrel
      have HT := Lib.hid ht
      have HB := Lib.hid hb
      have hB := hb.size
      obtain ⟨A3, c3, hu3⟩ := ht.form
      clear ht hb HB0 HT0
      by_cases hlt : i < xs.length
      · obtain ⟨g, c, e', -, -, hc, -⟩ := (HV.out.keep HB.out hhi).cell hlt
        simp only [Value.slice.injEq] at e'
        obtain ⟨rfl, -, -⟩ := e'
        have hii : (i : Int) < (xs.length : Int) := by omega
        have hpt := ptN_le xs i
        have hbl := blN_len xs i
        have hok := HOK.out i hlt
        have HRN0 := Lib.hid (show blN xs (i + 1) = (if xs.getD i 0 = (ptN xs i : Int) then blN xs i ++ [[]] else blN xs i).set (xs.getD i 0).toNat
          ((if xs.getD i 0 = (ptN xs i : Int) then blN xs i ++ [[]] else blN xs i).getD (xs.getD i 0).toNat [] ++ [(i : Int)]) from rfl)
        have HRW := Lib.hid (blN_row xs i)
        generalize blN xs i = ls at *
        generalize hk : (xs.getD i 0).toNat = k at *
        have hyk : xs.getD i 0 = (k : Int) := by omega
        rw [hyk] at hc HRN0 hok
        have HYK := Lib.hid hyk
        clear hyk hk
        have HLT := Lib.hid (fun b hb => (HT.out.own.lt b hb).1)
        have hl8 : ls.length ≤ 8 := by omega
        by_cases e : (k : Int) = (ptN xs i : Int)
        · have he : ((k : Int) == (ls.length : Int)) = true := by simp; omega
          obtain ⟨ls1, HLS⟩ : ∃ ls1, Hid (ls1 = ls ++ [[]]) := ⟨_, Lib.hid rfl⟩
          have HRN := Lib.hid (show blN xs (i + 1) = ls1.set k (ls1.getD k [] ++ [(i : Int)]) by rw [HRN0.out, if_pos e, HLS.out])
          have HKL := Lib.hid (show k < ls1.length by rw [HLS.out, List.length_append, List.length_singleton]; omega)
          have hkl : (k : Int) < (ls1.length : Int) := by have := HKL.out; omega
          have HR8 := Lib.hid (show (ls1.getD k []).length ≤ 1099511627776 by
            rw [HLS.out]
            by_cases e : k < ls.length
            · rw [getD_app_l _ _ _ _ e]; have := HRW.out k; omega
            · rw [show k = ls.length by have := HKL.out; rw [HLS.out, List.length_append, List.length_singleton] at this; omega, getD_app_e]; exact Nat.zero_le _)
          clear HRN0 hok hbl hpt e
          subst hu3
          have HMW := Lib.hid (HM.out wr lo hi (HV.out.keep HB.out hhi))
          go_wp2_with fail
          (with_reducible refine HMW.out.mono ?_)
          rintro e9 w9 ⟨rfl, rfl⟩
          go_wp2_with ((at_builtin; go_loud (refine wpAppTb rfl _ _ rfl w.heap.size _ vs ls rfl ((HT.out.alloc _).alloc _) _ _ (.slice (some ⟨wr.heap.size, 0, none⟩) 0 0) rfl (by rw [World.cell?_alloc_at _ _ _ _ (by simp)]; rfl) rfl (World.ownsRow.alloc (row_nil wr w.heap.size hB) _) (fun j hj => .inr fun e => by have h := (HT.out.lt hj e.symm).2; exact Nat.lt_irrefl wr.heap.size h) (by omega) (by simp; omega) ?_); intro v1 w1 ht1 hg1; go_must (have hB1 := (((HB.out.alloc hB (.cells #[] 3)).alloc (by simp; omega) _).grown hg1 (by simp; omega) (fun b hb => HLT.out b hb)); rw [← HLS.out] at ht1; obtain ⟨vs1, HVS⟩ : ∃ vs1, Hid (vs1 = vs ++ [.slice (some ⟨wr.heap.size, 0, none⟩) 0 0]) := ⟨_, Lib.hid rfl⟩; rw [← HVS.out] at ht1; obtain ⟨o, c1, he1, ho1, ho2, hcell1, hfr1⟩ := ht1.cell (j := k) HKL.out; subst he1; have HTK := Lib.hid ht1; have HBW := Lib.hid hB1; have hBW := hB1.size; obtain ⟨rv, HRV⟩ : ∃ rv, Hid (rv = vs1.getD k nilV) := ⟨_, Lib.hid rfl⟩; obtain ⟨r, HR⟩ : ∃ r, Hid (r = ls1.getD k []) := ⟨_, Lib.hid rfl⟩; rw [← HRV.out] at hcell1; have HROW := Lib.hid (by have h := ht1.row k HKL.out; rw [← HRV.out, ← HR.out] at h; exact h); have HLO := Lib.hid (fun b (hb : rv.ownBlock = some b) => (World.ownsRow.lt HROW.out b hb).1); clear ht1 hg1 hB1)))
          have hcg := (HV.out.keep HBW.out hhi).cell hlt
          obtain ⟨g', c', e', -, hgh, hcg, -⟩ := hcg
          simp only [Value.slice.injEq, Option.some.injEq, Addr.mk.injEq] at e'
          obtain ⟨⟨rfl, -⟩, -, -⟩ := e'
          rw [HYK.out] at hcg
          have HS := Lib.hid (show w1.cell? ⟨g, i, none⟩ = some (.int .i64 (k : Int)) ∧ w1.cell? ⟨o, k, none⟩ = some rv ∧ w1.frozen? ⟨o, k, none⟩ = false from ⟨hcg, hcell1, hfr1⟩)
          have HNO := Lib.hid (show rv.ownBlock ≠ some o from fun e => by
            rcases ty_ne HTK.out.own HROW.out with h | h
            · simp [Value.ownBlock] at h
            · exact h (by rw [e]; rfl))
          have HNG := Lib.hid (show rv.ownBlock ≠ some g from fun e => by have := HLO.out g e; omega)
          have hgW : g < w1.heap.size := World.block_lt_of_cell? _ _ hcg
          clear hfr1
          go_region_law (refine stepAppAt rfl _ _ (by rfl) w.heap.size rv _ r (by rfl) (by first | exact World.ownsRow.alloc HROW.out _ | exact World.ownsRow.alloc HROW.out.drew _) _ _ (i : Int) (by rfl) (by exact cell_one _ _ _) (by rw [HR.out]; exact HR8.out) (by simp; omega) ?_; intro v5 w5 hown5 hg5 hat5; obtain ⟨g5, c5, hv5, -, -⟩ := World.ownsRow.form hown5 (by omega); subst hv5; have hs5 := sb_gr hg5 HNG.out HNO.out (sb_al HS.out _); have HO5 := Lib.hid hown5; have HG5 := Lib.hid hg5; have HA5 := Lib.hid hat5; obtain ⟨hs51, hs52, hs53⟩ := hs5; clear hown5 hg5 hat5)
          all_goals go_wp2
          all_goals exact ⟨⟨i + 1, vs1.set k _, by omega, by simp, by rw [HRN.out, HR.out]; exact Tb.put (HTK.out.alloc _).drew HKL.out (by rw [← HR.out]; exact HO5.out) (by rw [← HRV.out]; exact HG5.out) (by rw [← HRV.out]; exact HA5.out), ((HBW.out.alloc hBW _).drew.grown HG5.out (by simp; omega) (fun b hb => HLO.out b hb)).setCell (by exact ho1) _⟩, by simp [intOf]; omega⟩
        · have he : ((k : Int) == (ls.length : Int)) = false := by simp; omega
          obtain ⟨ls1, HLS⟩ : ∃ ls1, Hid (ls1 = ls) := ⟨_, Lib.hid rfl⟩
          obtain ⟨vs1, HVS⟩ : ∃ vs1, Hid (vs1 = vs) := ⟨_, Lib.hid rfl⟩
          have HRN := Lib.hid (show blN xs (i + 1) = ls1.set k (ls1.getD k [] ++ [(i : Int)]) by rw [HRN0.out, if_neg e, HLS.out])
          have HKL := Lib.hid (show k < ls1.length by rw [HLS.out]; omega)
          have hkl : (k : Int) < (ls1.length : Int) := by have := HKL.out; omega
          have HR8 := Lib.hid (show (ls1.getD k []).length ≤ 1099511627776 by rw [HLS.out]; have := HRW.out k; omega)
          rw [← HLS.out, ← HVS.out] at HT
          have ht1 := HT.out
          have hB1 := HB.out
          rw [← HLS.out] at he hl8 hu3
          clear HRN0 hok hbl hpt e
          obtain ⟨o, c1, he1, ho1, ho2, hcell1, hfr1⟩ := ht1.cell (j := k) HKL.out; subst he1; have HTK := Lib.hid ht1; have HBW := Lib.hid hB1; have hBW := hB1.size; obtain ⟨rv, HRV⟩ : ∃ rv, Hid (rv = vs1.getD k nilV) := ⟨_, Lib.hid rfl⟩; obtain ⟨r, HR⟩ : ∃ r, Hid (r = ls1.getD k []) := ⟨_, Lib.hid rfl⟩; rw [← HRV.out] at hcell1; have HROW := Lib.hid (by have h := ht1.row k HKL.out; rw [← HRV.out, ← HR.out] at h; exact h); have HLO := Lib.hid (fun b (hb : rv.ownBlock = some b) => (World.ownsRow.lt HROW.out b hb).1)
          clear ht1 hB1
          have HMW := Lib.hid (HM.out wr lo hi (HV.out.keep HB.out hhi))
          go_wp2_with fail
          (with_reducible refine HMW.out.mono ?_)
          rintro e9 w9 ⟨rfl, rfl⟩
          go_wp2
          have hcg := (HV.out.keep HBW.out hhi).cell hlt
          obtain ⟨g', c', e', -, hgh, hcg, -⟩ := hcg
          simp only [Value.slice.injEq, Option.some.injEq, Addr.mk.injEq] at e'
          obtain ⟨⟨rfl, -⟩, -, -⟩ := e'
          rw [HYK.out] at hcg
          have HS := Lib.hid (show wr.cell? ⟨g, i, none⟩ = some (.int .i64 (k : Int)) ∧ wr.cell? ⟨o, k, none⟩ = some rv ∧ wr.frozen? ⟨o, k, none⟩ = false from ⟨hcg, hcell1, hfr1⟩)
          have HNO := Lib.hid (show rv.ownBlock ≠ some o from fun e => by
            rcases ty_ne HTK.out.own HROW.out with h | h
            · simp [Value.ownBlock] at h
            · exact h (by rw [e]; rfl))
          have HNG := Lib.hid (show rv.ownBlock ≠ some g from fun e => by have := HLO.out g e; omega)
          have hgW : g < wr.heap.size := World.block_lt_of_cell? _ _ hcg
          clear hfr1
          go_region_law (refine stepAppAt rfl _ _ (by rfl) w.heap.size rv _ r (by rfl) (by first | exact World.ownsRow.alloc HROW.out _ | exact World.ownsRow.alloc HROW.out.drew _) _ _ (i : Int) (by rfl) (by exact cell_one _ _ _) (by rw [HR.out]; exact HR8.out) (by simp; omega) ?_; intro v5 w5 hown5 hg5 hat5; obtain ⟨g5, c5, hv5, -, -⟩ := World.ownsRow.form hown5 (by omega); subst hv5; have hs5 := sb_gr hg5 HNG.out HNO.out (sb_al HS.out _); have HO5 := Lib.hid hown5; have HG5 := Lib.hid hg5; have HA5 := Lib.hid hat5; obtain ⟨hs51, hs52, hs53⟩ := hs5; clear hown5 hg5 hat5)
          all_goals go_wp2
          all_goals exact ⟨⟨i + 1, vs1.set k _, by omega, by simp, by rw [HRN.out, HR.out]; exact Tb.put (HTK.out.alloc _).drew HKL.out (by rw [← HR.out]; exact HO5.out) (by rw [← HRV.out]; exact HG5.out) (by rw [← HRV.out]; exact HA5.out), ((HBW.out.alloc hBW _).drew.grown HG5.out (by simp; omega) (fun b hb => HLO.out b hb)).setCell (by exact ho1) _⟩, by simp [intOf]; omega⟩
      · obtain rfl : i = xs.length := by omega
        subst hu3
        have hii : ¬ ((xs.length : Int) < (xs.length : Int)) := by omega
        have HTE := Lib.hid (show Tb wr w.heap.size _ vs (blP xs) by rw [HBP.out]; exact HT.out)
        go_wp2
        go_ret
        first | exact ⟨_, vs, rfl, HTE.out, HB.out⟩ | exact ⟨_, rfl, ⟨vs, HTE.out⟩, HB.out⟩

end Go.Proofs.Ytpkfgjlbkiiciaa
