/- The model's l14Binomial: a table of rows, each row out of two of the table before (the walk is written by tools/mk14g2.py). -/
import Derived.Test.YtpelicepgeoopaaBinF14
namespace Go.Proofs.Ytpelicepgeoopaa
open Go.ChangeShapes Go.WideShapes Go.ChangeAt Go.RowKit
set_option linter.unusedVariables false

theorem infoL14 : (Try.prog.info? 22).map (fun i => (i.zero, i.size, i.bytes)) = some (some (.slice none 0 0), 1, 24) := by kernel_rfl
theorem wpAppV14 {w : World} {ops : Array Oper} {rest : List Oper} {o : Oper} {a : Act} {Q : Exit → Act → World → Prop} (hgd : o.guard = none) (s x : Operand)
    (ho : o.op = .call { callee := .builtin .append, args := #[s, x], argTypes := #[41, 41] })
    (base : Nat) (v : Value) (n : Nat) (vs : List Value) (hs : a.eval s = v) (hown : w.ownsRow base 22 1 v n vs)
    (b : Nat) (c : Nat) (p : Option Addr) (l k : Nat) (hx : a.eval x = .slice (some ⟨b, 0, none⟩) 1 c) (hcell : w.cell? ⟨b, 0, none⟩ = some (.slice p l k))
    (hn : n ≤ 1099511627776) (hbase : base ≤ w.heap.size)
    (h : ∀ v' w', w'.ownsRow base 22 1 v' (n + 1) (vs ++ [.slice p l k]) → w.grownBy w' v.ownBlock → wpList Try.prog ops Q rest (a.put o.dst v') w') : wpList Try.prog ops Q (o :: rest) a w := by
  obtain ⟨i0, hi, hz0, hz1, hz2⟩ := info_parts infoL14
  refine wpList_append_own _ hgd s x 41 ho base 22 i0 (.slice none 0 0) 1 24 Try.underlying41 hi hz0 hz1 hz2 rfl (by decide) v n _ hs hown ⟨b, 0, none⟩ 1 c [.slice p l k] hx rfl ?_ ?_ (by unfold maxLen; omega) (by omega) hbase ?_
  · intro j u hj
    match j, hj with
    | 0, hj => simp at hj; subst hj; simpa [Addr.add] using hcell
  · intro u hu; simp at hu; subst hu; rfl
  · intro v' w' h1 h2 _
    exact h v' w' h1 h2

/-- A table of the call's own: its first n rows are the lists L 0, L 1 and so on, each in a block of its own. -/
def TbZ (w : World) (base : Nat) (v : Value) (n : Nat) (L : Nat → List Int) (vs : List Value) : Prop :=
  w.ownsRow base 22 1 v n vs ∧ ∀ i, i < n → ∃ g, vs[i]? = some (.slice (some ⟨g, 0, none⟩) (L i).length (L i).length) ∧ base ≤ g ∧ TabI w g (L i).length (fun q => (L i).getD q 0)
theorem TbZ.keep {w w' : World} {base n : Nat} {v : Value} {L : Nat → List Int} {vs : List Value} (h : TbZ w base v n L vs) (hb : Below w.heap.size w w') : TbZ w' base v n L vs := by
  refine ⟨⟨h.1.1, ?_⟩, fun i hi => ?_⟩
  · rcases h.1.2 with e | ⟨o, cap, cur, e, h1, h2, h3⟩
    · exact .inl e
    · exact .inr ⟨o, cap, cur, e, h1, (hb.block o (Array.getElem?_eq_some_iff.1 h2).1).trans h2, h3⟩
  · obtain ⟨g, e, hg, ht⟩ := h.2 i hi
    exact ⟨g, e, hg, ht.keep (hb.block _ ht.lt)⟩
theorem TbZ.low {w : World} {base base' n : Nat} {v : Value} {L : Nat → List Int} {vs : List Value} (h : TbZ w base v n L vs) (hb : base' ≤ base) : TbZ w base' v n L vs := by
  refine ⟨⟨h.1.1, ?_⟩, fun i hi => ?_⟩
  · rcases h.1.2 with e | ⟨o, cap, cur, e, h1, h2⟩
    · exact .inl e
    · exact .inr ⟨o, cap, cur, e, Nat.le_trans hb h1, h2⟩
  · obtain ⟨g, e, hg, ht⟩ := h.2 i hi
    exact ⟨g, e, Nat.le_trans hb hg, ht⟩
theorem TbZ.cell {w : World} {base n : Nat} {v : Value} {L : Nat → List Int} {vs : List Value} (h : TbZ w base v n L vs) {i : Nat} (hi : i < n) :
    ∃ o cap g, v = .slice (some ⟨o, 0, none⟩) n cap ∧ w.cell? ⟨o, i, none⟩ = some (.slice (some ⟨g, 0, none⟩) (L i).length (L i).length) ∧ base ≤ g ∧ TabI w g (L i).length (fun q => (L i).getD q 0) := by
  obtain ⟨g, eg, hg, ht⟩ := h.2 i hi
  rcases h.1.2 with ⟨-, e⟩ | ⟨o, cap, cur, e, hb, hh, hnc, hcm, hcur, htake⟩
  · omega
  · refine ⟨o, cap, g, e, ?_, hg, ht⟩
    rw [cell_of_row w o i cur 22 (0, 0) hh]
    have e1 : cur.toList[i]? = (cur.toList.take (n * 1))[i]? := by rw [List.getElem?_take, if_pos (by omega)]
    rw [← Array.getElem?_toList, e1, htake]
    exact eg
theorem TbZ.form {w : World} {base n : Nat} {v : Value} {L : Nat → List Int} {vs : List Value} (h : TbZ w base v n L vs) : ∃ A cap, v = .slice A n cap := by
  rcases h.1.2 with ⟨e, e2⟩ | ⟨o, cap, cur, e, -⟩
  · exact ⟨_, _, by rw [e, e2]⟩
  · exact ⟨_, _, e⟩
theorem TbZ.ne {w : World} {base n : Nat} {v : Value} {vs : List Value} (h : w.ownsRow base 22 1 v n vs) {g m : Nat} {f : Nat → Int} (ht : TabI w g m f) : some g ≠ v.ownBlock := by
  intro e
  rcases h.2 with ⟨e2, -⟩ | ⟨o, cap, cur, e2, hb, hh, -⟩
  · subst e2; cases e
  · subst e2
    simp only [Value.ownBlock, Option.some.injEq] at e
    subst e
    obtain ⟨C, h2, -⟩ := ht
    rw [hh] at h2
    simp at h2
theorem TbZ.snoc {w w' : World} {base n g m : Nat} {v v' : Value} {L : Nat → List Int} {vs : List Value} {ob : Obj} {f : Nat → Int} (h : TbZ w base v n L vs) (hr : TabI w g m f) (hm : m = (L n).length) (hf : ∀ q, q < m → f q = (L n).getD q 0) (hgb : base ≤ g)
    (hown : w'.ownsRow base 22 1 v' (n + 1) (vs ++ [.slice (some ⟨g, 0, none⟩) m m])) (hg : (w.alloc ob).grownBy w' v.ownBlock) : TbZ w' base v' (n + 1) L (vs ++ [.slice (some ⟨g, 0, none⟩) m m]) := by
  have hvl : vs.length = n := by have := h.1.1; simpa using this
  refine ⟨hown, fun i hi => ?_⟩
  by_cases e : i < n
  · obtain ⟨g2, e2, hg2, ht⟩ := h.2 i e
    have ht2 := ht.alloc ob
    exact ⟨g2, by rw [List.getElem?_append_left (by omega)]; exact e2, hg2, ht2.keep (hg.block _ ht2.lt (TbZ.ne h.1 ht))⟩
  · obtain rfl : i = n := by omega
    have ht2 := hr.alloc ob
    refine ⟨g, by rw [List.getElem?_append_right (by omega), hvl, Nat.sub_self, ← hm]; rfl, hgb, ?_⟩
    have h3 := ht2.keep (hg.block _ ht2.lt (TbZ.ne h.1 hr))
    rw [← hm]
    exact h3.same fun q hq => (hf q hq).symm

set_option maxRecDepth 100000 in
set_option maxHeartbeats 6400000 in
theorem l14Binomial (n k : Nat) (hn : n < 15) (hk : k ≤ n) (w : World) :
    Calls Try.prog 23 #[.int .i64 (n : Int), .int .i64 (k : Int)] w (AnsI (gsP n k) w) := by
  obtain ⟨i0, hi0, hz0, hz1, hzb⟩ := info_parts info3
  have H0 := Lib.hid (show TbZ ((w.alloc (.cells #[.int .i64 1] 3)).alloc (.cells #[.slice (some ⟨w.heap.size, 0, none⟩) 1 1] 22)) w.heap.size (.slice (some ⟨w.heap.size + 1, 0, none⟩) 1 1) 1 (gsP 0) [.slice (some ⟨w.heap.size, 0, none⟩) 1 1] from by
    constructor
    · have h := World.ownsRow_lit (base := w.heap.size) (e := 22) (size := 1) (w.alloc (.cells #[.int .i64 1] 3)) #[.slice (some ⟨w.heap.size, 0, none⟩) 1 1] 1 (by simp) (by unfold maxLen; omega) rfl
      simpa using h
    · intro i hi
      have hi0 : i = 0 := by omega
      subst hi0
      refine ⟨w.heap.size, rfl, Nat.le_refl _, TabI.alloc (m := 1) ⟨#[.int .i64 1], Array.getElem?_push_size, rfl, fun j hj => ?_⟩ _⟩
      have hj0 : j = 0 := by omega
      subst hj0
      rfl)
  have HB0 := Lib.hid (((Below.refl w.heap.size w).alloc (Nat.le_refl _) (.cells #[.int .i64 1] 3)).alloc (by simp) (.cells #[.slice (some ⟨w.heap.size, 0, none⟩) 1 1] 22))
  go_enter Try.func23, Try.ntmps23
  go_wp2
  go_loopw [5, 6] (fun v y wr => ∃ (m : Nat) (vs : List Value), m ≤ n ∧ y = .int .i64 ((m + 1 : Nat) : Int) ∧ TbZ wr w.heap.size v (min m k + 1) (gsP m) vs ∧ Below w.heap.size w wr) (fun _ y _ => n + 1 - (intOf y).toNat)
  case atStart => exact ⟨0, _, Nat.zero_le _, rfl, by rw [Nat.zero_min]; exact H0.out, HB0.out⟩
  case round =>
    obtain ⟨m0, vs, hm, rfl, ht, hb⟩ := hrel
    have HT := Lib.hid ht
    have HB := Lib.hid hb
    have hbz := hb.size
    clear ht hb H0 HB0
    obtain ⟨m, hmm⟩ : ∃ m, m = m0 + 1 := ⟨_, rfl⟩
    rw [← hmm]
    have hm15 : m < 16 := by omega
    by_cases hlt : m ≤ n
    · have hmi : (m : Int) ≤ (n : Int) := by omega
      have hm1 : m0 = m - 1 := by omega
      rw [hm1] at HT
      have hm2 : 1 ≤ m := by omega
      have HMM := Lib.hid hmm
      clear hm1 hmm hm
      obtain ⟨A5, c5, e5⟩ := HT.out.form
      subst e5
      obtain ⟨wo, hwo⟩ : ∃ wo, wo = wr := ⟨_, rfl⟩
      subst hwo
      obtain ⟨o5, cap5, g0, e5, -⟩ := HT.out.cell (i := 0) (by omega)
      simp only [Value.slice.injEq] at e5
      obtain ⟨rfl, -, rfl⟩ := e5
      have HTW := Lib.hid (fun W (h : Below wo.heap.size wo W) => HT.out.keep h)
      obtain ⟨K, hK⟩ : ∃ K, K = min m k := ⟨_, rfl⟩
      have hmin : min (m : Int) (k : Int) = (K : Int) := by omega
      have hmin2 : (if (k : Int) < (m : Int) then (k : Int) else (m : Int)) = (K : Int) := by split <;> omega
      have hmin3 : (if k < m then (k : Int) else (m : Int)) = (K : Int) := by split <;> omega
      have HK := Lib.hid hK
      have hKm : K ≤ m := by omega
      have hKk : K ≤ k := by omega
      have HN0 := Lib.hid (show TbZ (wo.alloc (.cells #[] 22)) wo.heap.size (.slice (some ⟨wo.heap.size, 0, none⟩) 0 0) 0 (gsP m) [] from ⟨World.ownsRow_made wo #[] 0 (Nat.le_refl _) (Nat.zero_le _) (by simp), fun i hi => absurd hi (Nat.not_lt_zero _)⟩)
      have HBN := Lib.hid ((Below.refl wo.heap.size wo).alloc (Nat.le_refl _) (.cells #[] 22))
      clear hK
      go_wp2
      go_loopw [7, 8] (fun v7 y wj => ∃ (j : Nat) (vs2 : List Value), j ≤ K + 1 ∧ y = .int .i64 (j : Int) ∧ TbZ wj wo.heap.size v7 j (gsP m) vs2 ∧ Below wo.heap.size wo wj) (fun _ y _ => K + 1 - (intOf y).toNat)
      case atStart => exact ⟨0, _, Nat.zero_le _, rfl, HN0.out, HBN.out⟩
      case round =>
        clear HN0 HBN
        obtain ⟨j, vs2, hj, rfl, ht, hb⟩ := hrel
        obtain ⟨wj, hwj⟩ : ∃ wj, wj = wr := ⟨_, rfl⟩
        subst hwj
        have HT2J := Lib.hid ht
        have HBJ := Lib.hid hb
        have hbj := hb.size
        obtain ⟨A7, c7, e7⟩ := ht.form
        have HE7 := Lib.hid e7
        clear ht hb e7
        by_cases hjK : j ≤ K
        · have hji : (j : Int) ≤ (K : Int) := by omega
          obtain ⟨q1, q2⟩ := gs_len m (by omega) j (by omega)
          have hfit := bi_fit m (by omega) hm2 j (by omega)
          have HBA := Lib.hid (fun q hq => bi_at (m := m) (j := j) (q := q) (by omega) hm2 (by omega) hq)
          obtain ⟨d, hd⟩ : ∃ d, d = m - j := ⟨_, rfl⟩
          rw [← hd] at q1 q2 hfit HBA
          have hs1 : (m : Int) - (j : Int) = (d : Int) := by omega
          have HD := Lib.hid hd
          obtain ⟨P, hP⟩ : ∃ P, P = j * d := ⟨_, rfl⟩
          have hmul : (j : Int) * (d : Int) = (P : Int) := by rw [hP]; push_cast; rfl
          rw [← hP] at q1 q2 hfit HBA
          obtain ⟨M, hM⟩ : ∃ M, M = P + 1 := ⟨_, rfl⟩
          have hadd : (P : Int) + 1 = (M : Int) := by omega
          rw [← hM] at q1 hfit HBA
          have hM50 : M ≤ 50 := by omega
          have HGL := Lib.hid q1
          have HPP := Lib.hid hP
          have HMP := Lib.hid hM
          clear hd hP hM q1 q2
          by_cases hA : j = 0
          · obtain ⟨r1, hr1⟩ : ∃ r1, r1 = bi1 m j := ⟨_, rfl⟩
            have hj0 : (j : Int) < (m : Int) := by omega
            have hj0' : ¬ ((0 : Int) < (j : Int)) := by omega
            have HR1 := Lib.hid (show (gsP (m - 1) j).length = r1 by rw [hr1]; unfold bi1; rw [if_pos (by omega)])
            have HE2 := Lib.hid (show bi2 m j = 0 by unfold bi2; rw [if_neg (by omega)])
            rw [HE2.out, ← hr1] at hfit HBA
            have HQ1 := Lib.hid hr1
            have HAA := Lib.hid hA
            have hji1 : (j : Int) < (m : Int) := hj0
            clear hr1 hA
            go_wp2_with (at_make; go_must (refine wpList_make_full _ rfl _ _ 22 rfl wj.heap.size 3 i0 (.int .i64 0) 1 Try.underlying22 hi0 hz0 hz1 .i64 .i64 (M : Int) (M : Int) M rfl rfl rfl rfl (by rw [hzb]; omega) (by unfold maxLen; omega) (Nat.le_refl _) ?_); intro w4 hown4 hgrow4)
            have HX0 := Lib.hid (show TabI w4 wj.heap.size M (biF m j 0 0) from by rw [biF_zero]; exact TabI.made hown4)
            have HBX0 := Lib.hid ((Below.refl wj.heap.size wj).grown hgrow4 (Nat.le_refl _) (fun k hk => nomatch hk))
            clear hown4 hgrow4
            have HX1 := Lib.hid HX0.out
            have HBX1 := Lib.hid HBX0.out
            go_loopw [10] (fun y w2 => ∃ i : Nat, i ≤ r1 ∧ y = .int .i64 i ∧ TabI w2 wj.heap.size M (biF m j i 0) ∧ Below wj.heap.size wj w2) (fun y _ => r1 - (intOf y).toNat)
            case atStart => exact ⟨0, Nat.zero_le _, rfl, HX1.out, HBX1.out⟩
            case round =>
              obtain ⟨i, hi, rfl, ht, hb⟩ := hrel
              have HTX := Lib.hid ht
              have HBX := Lib.hid hb
              obtain ⟨o2, cap2, g1, e2, hcr, -, htr⟩ := (HTW.out _ (HBJ.out.trans (hb.mono HBJ.out.size))).cell (i := j) (by omega)
              simp only [Value.slice.injEq, Option.some.injEq, Addr.mk.injEq] at e2
              obtain ⟨⟨rfl, -⟩, -, -⟩ := e2
              rw [HR1.out] at hcr htr
              by_cases hlti : i < r1
              · have hii : (i : Int) < (r1 : Int) := by omega
                obtain ⟨hcb, -⟩ := htr.cell (j := i) hlti
                have htM : i < M := by omega
                obtain ⟨hcx, hfx⟩ := ht.cell (j := i) htM
                have htl : (i : Int) < (M : Int) := by omega
                have HNX := Lib.hid (biF_s1 m j i)
                have b1 := biF_bd (m := m) (j := j) (i1 := i) (i2 := 0) (q := i) (by omega) hm2 (by omega) (fun _ => by omega)
                have b2 := gs_at (m := m - 1) (j := j) (q := i) (by omega) (by omega)
                generalize biF m j i 0 i = c at *
                generalize (gsP (m - 1) j).getD i 0 = z at *
                have v2 : IntKind.i64.wrap (c + z) = c + z := IntWalk.i64_in _ (by omega)
                clear ht hb htr
                go_wp2
                go_region
                all_goals go_wp2
                all_goals go_roundw
                case rel => exact ⟨i + 1, by omega, by simp, by rw [HNX.out]; exact (HTX.out.set (k := i) htM _).keep rfl, (HBX.out.setCell (p := ⟨wj.heap.size, i, none⟩) (Nat.le_refl _) _).drew⟩
                case measure => simp [intOf]; omega
              · obtain rfl : i = r1 := by omega
                have hii : ¬ ((i : Int) < (i : Int)) := by omega
                clear ht hb htr
                have hown2 := HT2J.out.keep HBX.out
                have hsz2 := HBX.out.size
                have hlt2 := HTX.out.lt
                go_wp2_with (at_builtin; go_must (refine wpAppV14 rfl _ _ rfl wo.heap.size u7 j vs2 rfl (World.ownsRow.alloc hown2.1 _) _ _ _ _ _ rfl (cell_one _ _ _) (by omega) (by simp; omega) ?_); intro v' w' hown' hg')
                have hrwb := fun k (e : u7.ownBlock = some k) => (World.ownsRow.lt hown2.1 k e).1
                refine ⟨⟨j + 1, _, by omega, by simp, TbZ.snoc hown2 HTX.out HGL.out.symm (fun q hq => ?_) hbj hown' hg', ((HBJ.out.trans (HBX.out.mono hbj)).alloc (by omega) _).grown hg' (by simp; omega) (fun k hk => hrwb k hk)⟩, by simp [intOf]; omega⟩
                exact HBA.out q (by have := HMP.out; omega)
          · by_cases hB : j = m
            · obtain ⟨r1, hr1⟩ : ∃ r1 : Nat, r1 = 0 := ⟨_, rfl⟩
              obtain ⟨r2, hr2⟩ : ∃ r2, r2 = bi2 m j := ⟨_, rfl⟩
              have hj0 : ¬ ((j : Int) < (m : Int)) := by omega
              have hj0' : (0 : Int) < (j : Int) := by omega
              have hjm1 : (j : Int) - 1 = ((j - 1 : Nat) : Int) := by omega
              have HR2 := Lib.hid (show (gsP (m - 1) (j - 1)).length = r2 by rw [hr2]; unfold bi2; rw [if_pos (by omega)])
              have HE1 := Lib.hid (show bi1 m j = r1 by rw [hr1]; unfold bi1; rw [if_neg (by omega)])
              rw [HE1.out, ← hr2] at hfit HBA
              have HRJ := Lib.hid (show 0 < r1 → j < m from fun h => by omega)
              have HQ1 := Lib.hid hr1
              have HQ2 := Lib.hid hr2
              rw [if_neg (by omega)] at hfit
              have HBB := Lib.hid hB
              clear hr1 hr2 hB
              go_wp2_with (at_make; go_must (refine wpList_make_full _ rfl _ _ 22 rfl wj.heap.size 3 i0 (.int .i64 0) 1 Try.underlying22 hi0 hz0 hz1 .i64 .i64 (M : Int) (M : Int) M rfl rfl rfl rfl (by rw [hzb]; omega) (by unfold maxLen; omega) (Nat.le_refl _) ?_); intro w4 hown4 hgrow4)
              have HX0 := Lib.hid (show TabI w4 wj.heap.size M (biF m j 0 0) from by rw [biF_zero]; exact TabI.made hown4)
              have HBX0 := Lib.hid ((Below.refl wj.heap.size wj).grown hgrow4 (Nat.le_refl _) (fun k hk => nomatch hk))
              clear hown4 hgrow4
              have HX2 := Lib.hid (show TabI w4 wj.heap.size M (biF m j r1 0) by rw [HQ1.out]; exact HX0.out)
              have HBX2 := Lib.hid HBX0.out
              go_loopw [11] (fun y w2 => ∃ i : Nat, i ≤ r2 ∧ y = .int .i64 i ∧ TabI w2 wj.heap.size M (biF m j r1 i) ∧ Below wj.heap.size wj w2) (fun y _ => r2 - (intOf y).toNat)
              case atStart => exact ⟨0, Nat.zero_le _, rfl, HX2.out, HBX2.out⟩
              case round =>
                obtain ⟨i, hi, rfl, ht, hb⟩ := hrel
                have HTX := Lib.hid ht
                have HBX := Lib.hid hb
                obtain ⟨o2, cap2, g1, e2, hcr, -, htr⟩ := (HTW.out _ (HBJ.out.trans (hb.mono HBJ.out.size))).cell (i := (j - 1)) (by omega)
                simp only [Value.slice.injEq, Option.some.injEq, Addr.mk.injEq] at e2
                obtain ⟨⟨rfl, -⟩, -, -⟩ := e2
                rw [HR2.out] at hcr htr
                by_cases hlti : i < r2
                · have hii : (i : Int) < (r2 : Int) := by omega
                  obtain ⟨hcb, -⟩ := htr.cell (j := i) hlti
                  obtain ⟨t, htt⟩ : ∃ t, t = d + i := ⟨_, rfl⟩
                  have htM : t < M := by omega
                  have htl : (t : Int) < (M : Int) := by omega
                  have hti1 : (i : Int) + (m : Int) = (t : Int) + (j : Int) := by have := HD.out; omega
                  have hti : (t : Int) + (j : Int) - (j : Int) = (t : Int) := by omega
                  obtain ⟨hcx, hfx⟩ := ht.cell (j := t) htM
                  have HNX := Lib.hid (biF_s2 m j r1 i)
                  rw [← HD.out, ← htt] at HNX
                  have b1 := biF_bd (m := m) (j := j) (i1 := r1) (i2 := i) (q := t) (by omega) hm2 (by omega) HRJ.out
                  have b2 := gs_at (m := m - 1) (j := j - 1) (q := i) (by omega) (by omega)
                  have hjm1 : (j : Int) - 1 = ((j - 1 : Nat) : Int) := by omega
                  generalize biF m j r1 i t = c at *
                  generalize (gsP (m - 1) (j - 1)).getD i 0 = z at *
                  have v2 : IntKind.i64.wrap (c + z) = c + z := IntWalk.i64_in _ (by omega)
                  clear ht hb htr htt
                  go_wp2
                  go_region
                  all_goals go_wp2
                  all_goals go_roundw
                  case rel => exact ⟨i + 1, by omega, by simp, by rw [HNX.out]; exact (HTX.out.set (k := t) htM _).keep rfl, (HBX.out.setCell (p := ⟨wj.heap.size, t, none⟩) (Nat.le_refl _) _).drew⟩
                  case measure => simp [intOf]; omega
                · obtain rfl : i = r2 := by omega
                  have hii : ¬ ((i : Int) < (i : Int)) := by omega
                  clear ht hb htr
                  have hown2 := HT2J.out.keep HBX.out
                  have hsz2 := HBX.out.size
                  have hlt2 := HTX.out.lt
                  go_wp2_with (at_builtin; go_must (refine wpAppV14 rfl _ _ rfl wo.heap.size u7 j vs2 rfl (World.ownsRow.alloc hown2.1 _) _ _ _ _ _ rfl (cell_one _ _ _) (by omega) (by simp; omega) ?_); intro v' w' hown' hg')
                  have hrwb := fun k (e : u7.ownBlock = some k) => (World.ownsRow.lt hown2.1 k e).1
                  refine ⟨⟨j + 1, _, by omega, by simp, TbZ.snoc hown2 HTX.out HGL.out.symm (fun q hq => ?_) hbj hown' hg', ((HBJ.out.trans (HBX.out.mono hbj)).alloc (by omega) _).grown hg' (by simp; omega) (fun k hk => hrwb k hk)⟩, by simp [intOf]; omega⟩
                  exact HBA.out q (by have := HMP.out; omega)
            · obtain ⟨r1, hr1⟩ : ∃ r1, r1 = bi1 m j := ⟨_, rfl⟩
              obtain ⟨r2, hr2⟩ : ∃ r2, r2 = bi2 m j := ⟨_, rfl⟩
              have hj0 : (j : Int) < (m : Int) := by omega
              have hj0' : (0 : Int) < (j : Int) := by omega
              have hjm1 : (j : Int) - 1 = ((j - 1 : Nat) : Int) := by omega
              have HR1 := Lib.hid (show (gsP (m - 1) j).length = r1 by rw [hr1]; unfold bi1; rw [if_pos (by omega)])
              have HR2 := Lib.hid (show (gsP (m - 1) (j - 1)).length = r2 by rw [hr2]; unfold bi2; rw [if_pos (by omega)])
              rw [← hr1, ← hr2] at hfit HBA
              have HRJ := Lib.hid (show 0 < r1 → j < m from fun h => by omega)
              have HQ1 := Lib.hid hr1
              have HQ2 := Lib.hid hr2
              rw [if_neg (by omega)] at hfit
              clear hr1 hr2
              go_wp2_with (at_make; go_must (refine wpList_make_full _ rfl _ _ 22 rfl wj.heap.size 3 i0 (.int .i64 0) 1 Try.underlying22 hi0 hz0 hz1 .i64 .i64 (M : Int) (M : Int) M rfl rfl rfl rfl (by rw [hzb]; omega) (by unfold maxLen; omega) (Nat.le_refl _) ?_); intro w4 hown4 hgrow4)
              have HX0 := Lib.hid (show TabI w4 wj.heap.size M (biF m j 0 0) from by rw [biF_zero]; exact TabI.made hown4)
              have HBX0 := Lib.hid ((Below.refl wj.heap.size wj).grown hgrow4 (Nat.le_refl _) (fun k hk => nomatch hk))
              clear hown4 hgrow4
              have HX1 := Lib.hid HX0.out
              have HBX1 := Lib.hid HBX0.out
              go_loopw [10] (fun y w2 => ∃ i : Nat, i ≤ r1 ∧ y = .int .i64 i ∧ TabI w2 wj.heap.size M (biF m j i 0) ∧ Below wj.heap.size wj w2) (fun y _ => r1 - (intOf y).toNat)
              case atStart => exact ⟨0, Nat.zero_le _, rfl, HX1.out, HBX1.out⟩
              case round =>
                obtain ⟨i, hi, rfl, ht, hb⟩ := hrel
                have HTX := Lib.hid ht
                have HBX := Lib.hid hb
                obtain ⟨o2, cap2, g1, e2, hcr, -, htr⟩ := (HTW.out _ (HBJ.out.trans (hb.mono HBJ.out.size))).cell (i := j) (by omega)
                simp only [Value.slice.injEq, Option.some.injEq, Addr.mk.injEq] at e2
                obtain ⟨⟨rfl, -⟩, -, -⟩ := e2
                rw [HR1.out] at hcr htr
                by_cases hlti : i < r1
                · have hii : (i : Int) < (r1 : Int) := by omega
                  obtain ⟨hcb, -⟩ := htr.cell (j := i) hlti
                  have htM : i < M := by omega
                  obtain ⟨hcx, hfx⟩ := ht.cell (j := i) htM
                  have htl : (i : Int) < (M : Int) := by omega
                  have HNX := Lib.hid (biF_s1 m j i)
                  have b1 := biF_bd (m := m) (j := j) (i1 := i) (i2 := 0) (q := i) (by omega) hm2 (by omega) (fun _ => by omega)
                  have b2 := gs_at (m := m - 1) (j := j) (q := i) (by omega) (by omega)
                  generalize biF m j i 0 i = c at *
                  generalize (gsP (m - 1) j).getD i 0 = z at *
                  have v2 : IntKind.i64.wrap (c + z) = c + z := IntWalk.i64_in _ (by omega)
                  clear ht hb htr
                  go_wp2
                  go_region
                  all_goals go_wp2
                  all_goals go_roundw
                  case rel => exact ⟨i + 1, by omega, by simp, by rw [HNX.out]; exact (HTX.out.set (k := i) htM _).keep rfl, (HBX.out.setCell (p := ⟨wj.heap.size, i, none⟩) (Nat.le_refl _) _).drew⟩
                  case measure => simp [intOf]; omega
                · obtain rfl : i = r1 := by omega
                  have hii : ¬ ((i : Int) < (i : Int)) := by omega
                  clear ht hb htr
                  have HX2 := Lib.hid HTX.out
                  have HBX2 := Lib.hid HBX.out
                  obtain ⟨r1, hr1⟩ : ∃ r1, r1 = i := ⟨_, rfl⟩
                  subst hr1
                  clear HTX HBX
                  go_wp2
                  go_loopw [11] (fun y w2 => ∃ i : Nat, i ≤ r2 ∧ y = .int .i64 i ∧ TabI w2 wj.heap.size M (biF m j r1 i) ∧ Below wj.heap.size wj w2) (fun y _ => r2 - (intOf y).toNat)
                  case atStart => exact ⟨0, Nat.zero_le _, rfl, HX2.out, HBX2.out⟩
                  case round =>
                    obtain ⟨i, hi, rfl, ht, hb⟩ := hrel
                    have HTX := Lib.hid ht
                    have HBX := Lib.hid hb
                    obtain ⟨o2, cap2, g1, e2, hcr, -, htr⟩ := (HTW.out _ (HBJ.out.trans (hb.mono HBJ.out.size))).cell (i := (j - 1)) (by omega)
                    simp only [Value.slice.injEq, Option.some.injEq, Addr.mk.injEq] at e2
                    obtain ⟨⟨rfl, -⟩, -, -⟩ := e2
                    rw [HR2.out] at hcr htr
                    by_cases hlti : i < r2
                    · have hii : (i : Int) < (r2 : Int) := by omega
                      obtain ⟨hcb, -⟩ := htr.cell (j := i) hlti
                      obtain ⟨t, htt⟩ : ∃ t, t = d + i := ⟨_, rfl⟩
                      have htM : t < M := by omega
                      have htl : (t : Int) < (M : Int) := by omega
                      have hti1 : (i : Int) + (m : Int) = (t : Int) + (j : Int) := by have := HD.out; omega
                      have hti : (t : Int) + (j : Int) - (j : Int) = (t : Int) := by omega
                      obtain ⟨hcx, hfx⟩ := ht.cell (j := t) htM
                      have HNX := Lib.hid (biF_s2 m j r1 i)
                      rw [← HD.out, ← htt] at HNX
                      have b1 := biF_bd (m := m) (j := j) (i1 := r1) (i2 := i) (q := t) (by omega) hm2 (by omega) HRJ.out
                      have b2 := gs_at (m := m - 1) (j := j - 1) (q := i) (by omega) (by omega)
                      have hjm1 : (j : Int) - 1 = ((j - 1 : Nat) : Int) := by omega
                      generalize biF m j r1 i t = c at *
                      generalize (gsP (m - 1) (j - 1)).getD i 0 = z at *
                      have v2 : IntKind.i64.wrap (c + z) = c + z := IntWalk.i64_in _ (by omega)
                      clear ht hb htr htt
                      go_wp2
                      go_region
                      all_goals go_wp2
                      all_goals go_roundw
                      case rel => exact ⟨i + 1, by omega, by simp, by rw [HNX.out]; exact (HTX.out.set (k := t) htM _).keep rfl, (HBX.out.setCell (p := ⟨wj.heap.size, t, none⟩) (Nat.le_refl _) _).drew⟩
                      case measure => simp [intOf]; omega
                    · obtain rfl : i = r2 := by omega
                      have hii : ¬ ((i : Int) < (i : Int)) := by omega
                      clear ht hb htr
                      have hown2 := HT2J.out.keep HBX.out
                      have hsz2 := HBX.out.size
                      have hlt2 := HTX.out.lt
                      go_wp2_with (at_builtin; go_must (refine wpAppV14 rfl _ _ rfl wo.heap.size u7 j vs2 rfl (World.ownsRow.alloc hown2.1 _) _ _ _ _ _ rfl (cell_one _ _ _) (by omega) (by simp; omega) ?_); intro v' w' hown' hg')
                      have hrwb := fun k (e : u7.ownBlock = some k) => (World.ownsRow.lt hown2.1 k e).1
                      refine ⟨⟨j + 1, _, by omega, by simp, TbZ.snoc hown2 HTX.out HGL.out.symm (fun q hq => ?_) hbj hown' hg', ((HBJ.out.trans (HBX.out.mono hbj)).alloc (by omega) _).grown hg' (by simp; omega) (fun k hk => hrwb k hk)⟩, by simp [intOf]; omega⟩
                      exact HBA.out q (by have := HMP.out; omega)
        · obtain rfl : j = K + 1 := by omega
          have hji : ¬ (((K + 1 : Nat) : Int) ≤ (K : Int)) := by omega
          go_wp2
          exact ⟨⟨m, vs2, hlt, by simp, by rw [← HK.out]; exact HT2J.out.low hbz, HB.out.trans (HBJ.out.mono hbz)⟩, by simp [intOf]; omega⟩
    · have hmi : ¬ ((m : Int) ≤ (n : Int)) := by omega
      have hmn : m0 = n := by omega
      subst hmn
      obtain ⟨o5, cap5, g1, e5, hcr, hgb, htr⟩ := HT.out.cell (i := k) (by omega)
      subst e5
      have hkl : (k : Int) < ((min m0 k + 1 : Nat) : Int) := by omega
      have HR := Lib.hid (show OwnI wr w.heap.size wr.heap.size (.slice (some ⟨g1, 0, none⟩) (gsP m0 k).length (gsP m0 k).length) (gsP m0 k) from OwnI.of_tab htr rfl (Nat.le_refl _) (fun j hj => rfl) hgb htr.lt)
      clear htr
      go_wp2
      go_ret
      exact ⟨_, rfl, HR.out, HB.out⟩

end Go.Proofs.Ytpelicepgeoopaa
