/- Copies of tables that came in, with rows that lie apart: toIntSS, markIntSS. -/
import Derived.Test.YtkpnfonedfomaaaArgT
import Derived.Test.YtkpnfonedfomaaaTblMZ
namespace Go.Proofs.Ytkpnfonedfomaaa
open Go.ChangeShapes Go.WideShapes Go.ChangeAt Go.RowKit
set_option linter.unusedVariables false

/-- A table whose rows lie in places apart: row j from LO j up to HI j. -/
def TbA (w : World) (base H : Nat) (v : Value) (vs : Nat → Value) (LO HI : Nat → Nat) (ls : List (List Int)) : Prop :=
  ∃ o, base ≤ o ∧ o < H ∧ (∃ cap, v = .slice (some ⟨o, 0, none⟩) ls.length cap) ∧ (∀ m, m < ls.length → w.cell? ⟨o, m, none⟩ = some (vs m) ∧ o < LO m ∧ HI m ≤ H ∧ OwnI w (LO m) (HI m) (vs m) (ls.getD m [])) ∧ ∀ m q, m < ls.length → q < ls.length → m ≠ q → HI m ≤ LO q ∨ HI q ≤ LO m
theorem TbA.keep {w w' : World} {base H B : Nat} {v : Value} {vs : Nat → Value} {LO HI : Nat → Nat} {ls : List (List Int)} (h : TbA w base H v vs LO HI ls) (hb : Below B w w') (hB : H ≤ B) : TbA w' base H v vs LO HI ls := by
  obtain ⟨o, h1, h2, h3, h4, h5⟩ := h
  refine ⟨o, h1, h2, h3, fun m hm => ?_, h5⟩
  obtain ⟨a1, a2, a3, a4⟩ := h4 m hm
  exact ⟨(hb.cell (p := ⟨o, m, none⟩) (by show o < B; omega)).trans a1, a2, a3, a4.keep hb (Nat.le_trans a3 hB)⟩
theorem TbA.toT {w : World} {base H : Nat} {v : Value} {vs : Nat → Value} {LO HI : Nat → Nat} {ls : List (List Int)} (h : TbA w base H v vs LO HI ls) : OwnT w base H v ls := by
  obtain ⟨o, h1, h2, ⟨cap, h3⟩, h4, h5⟩ := h
  refine ⟨_, cap, h3, fun j hj => ?_⟩
  obtain ⟨a1, a2, a3, a4⟩ := h4 j hj
  exact ⟨o, vs j, rfl, h1, h2, a1, a4.wide (by omega) a3⟩

/-- A table that is being filled, row by row. -/
def FillA (w : World) (g n i : Nat) (vs : Nat → Value) (LO HI : Nat → Nat) (ls : List (List Int)) : Prop :=
  g < w.heap.size ∧ (∀ j, j < n → (∃ x, w.cell? ⟨g, j, none⟩ = some x) ∧ w.frozen? ⟨g, j, none⟩ = false) ∧ (∀ j, j < i → w.cell? ⟨g, j, none⟩ = some (vs j) ∧ g < LO j ∧ HI j ≤ w.heap.size ∧ OwnI w (LO j) (HI j) (vs j) (ls.getD j [])) ∧ ∀ j k, j < k → k < i → HI j ≤ LO k
theorem FillA.keep {w w' : World} {g n i : Nat} {vs : Nat → Value} {LO HI : Nat → Nat} {ls : List (List Int)} (h : FillA w g n i vs LO HI ls) (hb : Below w.heap.size w w') : FillA w' g n i vs LO HI ls := by
  obtain ⟨h1, h2, h3, h4⟩ := h
  refine ⟨Nat.lt_of_lt_of_le h1 hb.size, fun j hj => ?_, fun j hj => ?_, h4⟩
  · obtain ⟨⟨x, hx⟩, hf⟩ := h2 j hj
    exact ⟨⟨x, (hb.cell (p := ⟨g, j, none⟩) h1).trans hx⟩, (hb.frozen (p := ⟨g, j, none⟩) h1).trans hf⟩
  · obtain ⟨a1, a2, a3, a4⟩ := h3 j hj
    exact ⟨(hb.cell (p := ⟨g, j, none⟩) h1).trans a1, a2, Nat.le_trans a3 hb.size, a4.keep hb a3⟩
theorem FillA.put {w : World} {g n i lo hi : Nat} {vs : Nat → Value} {LO HI : Nat → Nat} {ls : List (List Int)} {v : Value} (h : FillA w g n i vs LO HI ls) (hi1 : i < n) (hv : OwnI w lo hi v (ls.getD i [])) (hg : g < lo) (hh : hi ≤ w.heap.size) (hap : ∀ j, j < i → HI j ≤ lo) :
    FillA (w.setCell ⟨g, i, none⟩ v) g n (i + 1) (fun j => if j = i then v else vs j) (fun j => if j = i then lo else LO j) (fun j => if j = i then hi else HI j) ls := by
  obtain ⟨h1, h2, h3, h4⟩ := h
  have hs : (w.setCell ⟨g, i, none⟩ v).heap.size = w.heap.size := by simp [World.setCell]
  refine ⟨by rw [hs]; exact h1, fun j hj => ?_, fun j hj => ?_, fun j k hjk hk => ?_⟩
  · obtain ⟨⟨x, hx⟩, hf⟩ := h2 j hj
    refine ⟨?_, by rw [World.frozen?_setCell]; exact hf⟩
    by_cases e : j = i
    · subst e; exact ⟨v, World.cell?_setCell_same w _ v hx⟩
    · exact ⟨x, (World.cell?_setCell_other w _ _ v (fun h => e (by cases h; rfl))).trans hx⟩
  · rw [hs]
    by_cases e : j = i
    · subst e
      obtain ⟨⟨x, hx⟩, -⟩ := h2 j hi1
      dsimp only
      rw [if_pos rfl, if_pos rfl, if_pos rfl]
      exact ⟨World.cell?_setCell_same w _ v hx, hg, hh, hv.far (by omega) v⟩
    · obtain ⟨a1, a2, a3, a4⟩ := h3 j (by omega)
      dsimp only
      rw [if_neg e, if_neg e, if_neg e]
      exact ⟨(World.cell?_setCell_other w _ _ v (fun h => e (by cases h; rfl))).trans a1, a2, a3, a4.far a2 v⟩
  · dsimp only
    rw [if_neg (show j ≠ i by omega)]
    by_cases e : k = i
    · rw [if_pos e]; exact hap j (by omega)
    · rw [if_neg e]; exact h4 j k hjk (by omega)

set_option maxRecDepth 100000 in
set_option maxHeartbeats 1600000 in
theorem toTA (v : Value) (ls : List (List Int)) (w : World) (hv : ArgT w v ls) (hl : ls.length ≤ 1048576) (hr : ∀ j, j < ls.length → (ls.getD j []).length ≤ 1048576) :
    Calls Try.prog 11 #[v] w fun e w' => ∃ A vs LO HI, e = .returned (.slice A ls.length ls.length) ∧ TbA w' w.heap.size w'.heap.size (.slice A ls.length ls.length) vs LO HI ls ∧ Below w.heap.size w w' := by
  obtain ⟨A1, c1, rfl, k1⟩ := id hv
  have HV := Lib.hid hv
  have HR := Lib.hid hr
  clear k1 hv hr
  obtain ⟨i0, hi, hz0, hz1, hz2⟩ := info_parts infoRR'
  go_enter Try.func11, Try.ntmps11
  go_wp2_with (at_make; go_must (refine wpList_make_full _ rfl _ _ 22 rfl w.heap.size 35 i0 (.slice none 0 0) 1 Try.underlying22 hi hz0 hz1 .i64 .i64 (ls.length : Int) (ls.length : Int) ls.length rfl rfl rfl rfl (by rw [hz2]; omega) (by unfold maxLen; omega) (Nat.le_refl _) ?_); intro w1 hown hgrow)
  have HB1 := Lib.hid (show Below w.heap.size w w1 from (Below.refl _ _).grown hgrow (Nat.le_refl _) (fun j hj => by cases hj))
  have HF1 := Lib.hid (show FillA w1 w.heap.size ls.length 0 (fun _ => .slice none 0 0) (fun _ => 0) (fun _ => 0) ls by
    refine ⟨(hown.lt w.heap.size rfl).2, fun j hj => ⟨⟨_, (hown.cellAt j (by omega)).trans (List.getElem?_eq_getElem (by rw [hown.1]; omega))⟩, hown.frozenAt j⟩, fun j hj => by omega, fun j k _ hk => by omega⟩)
  clear hown hgrow
  go_loopw [4] (fun y wr => ∃ i vs LO HI, i ≤ ls.length ∧ y = .int .i64 (i : Nat) ∧ FillA wr w.heap.size ls.length i vs LO HI ls ∧ Below w.heap.size w wr) (fun y _ => ls.length - (intOf y).toNat)
  case atStart => exact ⟨0, _, _, _, Nat.zero_le _, rfl, HF1.out, HB1.out⟩
  case round =>
    obtain ⟨i, vs, LO, HI, hi1, rfl, hf, hb⟩ := hrel
    have HF := Lib.hid hf
    have HB := Lib.hid hb
    have hg := hf.1
    clear hf
    by_cases hlt : i < ls.length
    · obtain ⟨A9, c9, e9, k9⟩ := HV.out.keep (hb)
      simp only [Value.slice.injEq] at e9
      obtain ⟨rfl, -, rfl⟩ := e9
      obtain ⟨a, rv, rfl, ha, hc, hrow⟩ := k9 i hlt
      have hii : (i : Int) < (ls.length : Int) := by omega
      have HRI := Lib.hid (HR.out i hlt)
      generalize hl2 : ls.getD i [] = l at *
      have HL2 := Lib.hid hl2
      have HT := Lib.hid (toIntC rv l wr hrow HRI.out)
      clear hl2
      obtain ⟨⟨x, hx⟩, hfz⟩ := HF.out.2.1 i hlt
      clear k9 hrow hb
      go_wp2_with fail
      (with_reducible refine HT.out.mono ?_)
      rintro e w2 ⟨A2, rfl, ho2, hb2⟩
      have HF2 := Lib.hid (HF.out.keep hb2)
      have hs2 := hb2.size
      obtain ⟨⟨x2, hx2⟩, hfz2⟩ := HF2.out.2.1 i hlt
      have HO2 := Lib.hid ho2
      have HAP := Lib.hid (fun j (hj : j < i) => (HF.out.2.2.1 j hj).2.2.1)
      have HB2 := Lib.hid (HB.out.trans (hb2.mono HB.out.size))
      clear ho2 hb2
      go_wp2
      exact ⟨⟨i + 1, _, _, _, by omega, by simp, HF2.out.put hlt (by rw [HL2.out]; exact HO2.out) hg (Nat.le_refl _) HAP.out, HB2.out.setCell (Nat.le_refl _) _⟩, by simp [intOf]; omega⟩
    · obtain rfl : i = ls.length := by omega
      have hii : ¬ ((ls.length : Int) < (ls.length : Int)) := by omega
      go_wp2
      go_ret
      refine ⟨_, rfl, ⟨vs, LO, HI, w.heap.size, Nat.le_refl _, hg, ⟨_, rfl⟩, fun j hj => HF.out.2.2.1 j hj, fun m q hm hq hne => ?_⟩, HB.out⟩
      rcases Nat.lt_or_ge m q with h | h
      · exact .inl (HF.out.2.2.2 m q h hq)
      · exact .inr (HF.out.2.2.2 q m (by omega) hm)

set_option maxRecDepth 100000 in
set_option maxHeartbeats 1600000 in
theorem markTA (v : Value) (vs : Nat → Value) (LO HI : Nat → Nat) (base H : Nat) (ls : List (List Int)) (k : Int) (w : World) (hv : TbA w base H v vs LO HI ls) (hl : ls.length ≤ 1099511627776) (ht : tot ls ≤ 1099511627) (hk0 : 0 ≤ k) (hk : k ≤ 1099511627) :
    Calls Try.prog 16 #[v, .int .i64 k] w fun e w' => e = .returned (.int .i64 (k + tot ls)) ∧ Apart base H w w' := by
  obtain ⟨o, h1, h2, ⟨cap, rfl⟩, h4, h5⟩ := hv
  have H4 := Lib.hid h4
  have H5 := Lib.hid h5
  clear h4 h5
  go_enter Try.func16, Try.ntmps16
  go_wp2
  go_loopw [1, 5] (fun x y wr => ∃ j : Nat, j ≤ ls.length ∧ y = .int .i64 j ∧ x = .int .i64 (k + (tot (ls.take j) : Int)) ∧ Apart base H w wr ∧ (∀ m, m < ls.length → wr.cell? ⟨o, m, none⟩ = some (vs m)) ∧ ∀ m, m < ls.length → OwnI wr (LO m) (HI m) (vs m) (mkA k j ls m)) (fun _ y _ => ls.length - (intOf y).toNat)
  case atStart =>
    refine ⟨0, Nat.zero_le _, rfl, by simp [tot], ⟨rfl, rfl, rfl, Nat.le_refl _, fun q hq => rfl⟩, fun m hm => (H4.out m hm).1, fun m hm => ?_⟩
    rw [mkA, if_neg (Nat.not_lt_zero _)]; exact (H4.out m hm).2.2.2
  case round =>
    obtain ⟨j, hj, rfl, rfl, hb, hcs, hrs⟩ := hrel
    have HB := Lib.hid hb
    have HCS := Lib.hid hcs
    have HRS := Lib.hid hrs
    have hB := hb.size
    clear hb hcs hrs
    by_cases hlt : j < ls.length
    · have hc1 := HCS.out j hlt
      have hrj := HRS.out j hlt
      rw [mkA, if_neg (Nat.lt_irrefl _)] at hrj
      have hji : (j : Int) < (ls.length : Int) := by omega
      have HTJ := Lib.hid (tot_take ls j hlt)
      have h3 := tot_le ls j
      have h4 := tot_le ls (j + 1)
      rw [HTJ.out] at h4
      have HMK := Lib.hid (show mkA k (j + 1) ls j = marks (k + (tot (ls.take j) : Int)) (ls.getD j []).length by rw [mkA, if_pos (Nat.lt_succ_self _)])
      have HPL := Lib.hid (show o < LO j ∧ HI j ≤ H from ⟨(H4.out j hlt).2.1, (H4.out j hlt).2.2.1⟩)
      generalize tot (ls.take j) = t at *
      generalize ls.getD j [] = l at *
      obtain ⟨r, hr⟩ : ∃ r, vs j = r := ⟨_, rfl⟩
      rw [hr] at hc1 hrj
      have HRV := Lib.hid hr
      clear hr
      have HE := Lib.hid (markO r (LO j) (HI j) l (k + (t : Int)) wr hrj (by omega) (by omega) (by omega))
      clear hrj
      go_wp2_with fail
      (with_reducible refine HE.out.mono ?_)
      rintro e w' ⟨rfl, ho, ha⟩
      have HO := Lib.hid ho
      have HA := Lib.hid ha
      clear ho ha
      go_wp2
      refine ⟨⟨j + 1, by omega, by simp, by rw [HTJ.out]; congr 1; omega, ?_, fun m hm => ?_, fun m hm => ?_⟩, by simp [intOf]; omega⟩
      · have h1 := HB.out
        have h2 := HA.out
        have h3 := HPL.out
        exact ⟨h2.os.trans h1.os, h2.tape.trans h1.tape, h2.output.trans h1.output, Nat.le_trans h1.size h2.size, fun q hq => (h2.block q (by omega)).trans (h1.block q hq)⟩
      · exact (World.cell?_of_block (a := ⟨o, m, none⟩) (HA.out.block _ (.inl HPL.out.1))).trans (HCS.out m hm)
      · by_cases e : m = j
        · subst e
          rw [HRV.out, HMK.out]; exact HO.out
        · have e2 : mkA k (j + 1) ls m = mkA k j ls m := by
            unfold mkA
            by_cases h : m < j
            · rw [if_pos h, if_pos (by omega)]
            · rw [if_neg h, if_neg (by omega)]
          rw [e2]
          exact (HRS.out m hm).apart HA.out (H5.out m j hm hlt e)
    · obtain rfl : j = ls.length := by omega
      go_wp2
      go_ret
      exact ⟨by rw [List.take_length]; rfl, HB.out⟩

theorem row_tot : ∀ (ls : List (List Int)) (j : Nat), (ls.getD j []).length ≤ tot ls := by
  intro ls
  induction ls with
  | nil => intro j; simp
  | cons l ls ih =>
    intro j
    cases j with
    | zero => show l.length ≤ l.length + tot ls; omega
    | succ j => have := ih j; show (ls.getD j []).length ≤ l.length + tot ls; omega

theorem szIE (v : Value) (xs : List Int) (k : Int) (w : World) (hv : ArgI w v xs) (hm : xs.length ≤ 9223372036854775807) (h0 : 0 ≤ k) (h1 : k ≤ 1048576) :
    Calls Try.prog 29 #[v, .int .i64 k] w fun e w' => (∃ r : Int, e = .returned (.int .i64 r) ∧ ((r = -1 ∧ k < xs.length) ∨ (0 ≤ r ∧ r = k - xs.length))) ∧ w' = w := by
  obtain ⟨A1, c1, rfl, -⟩ := hv
  by_cases hb : k < xs.length
  · have h2 : k - (xs.length : Int) < 0 := by omega
    go_enter Try.func29, Try.ntmps29
    go_wp2
    go_ret
    exact ⟨⟨_, rfl, .inl ⟨rfl, hb⟩⟩, rfl⟩
  · have h2 : ¬ (k - (xs.length : Int) < 0) := by omega
    go_enter Try.func29, Try.ntmps29
    go_wp2
    go_ret
    exact ⟨⟨_, rfl, .inr ⟨by omega, rfl⟩⟩, rfl⟩

set_option maxRecDepth 100000 in
set_option maxHeartbeats 1600000 in
theorem szTT (v : Value) (ls : List (List Int)) (K : Int) (w : World) (hv : ArgT w v ls) (hm : ls.length ≤ 9223372036854775807) (hr : ∀ j, (ls.getD j []).length ≤ 9223372036854775807) (hK0 : 0 ≤ K) (hK : K ≤ 1048576) :
    Calls Try.prog 9 #[v, .int .i64 K] w fun e w' => (∃ r : Int, e = .returned (.int .i64 r) ∧ (r < 0 ∨ (0 ≤ r ∧ r = K - ls.length - tot ls))) ∧ w' = w := by
  obtain ⟨A1, c1, rfl, k1⟩ := hv
  have HK := Lib.hid k1
  have HR := Lib.hid hr
  clear k1 hr
  by_cases hb : K < ls.length
  · have h2 : K - (ls.length : Int) < 0 := by omega
    go_enter Try.func9, Try.ntmps9
    go_wp2
    go_ret
    exact ⟨⟨_, rfl, .inl (by decide)⟩, rfl⟩
  · have h2 : ¬ (K - (ls.length : Int) < 0) := by omega
    go_enter Try.func9, Try.ntmps9
    go_wp2
    go_loopw [1, 5] (fun x y wr => ∃ (i : Nat) (k : Int), i ≤ ls.length ∧ y = .int .i64 i ∧ x = .int .i64 k ∧ 0 ≤ k ∧ k = K - ls.length - tot (ls.take i) ∧ wr = w) (fun _ y _ => ls.length - (intOf y).toNat)
    case atStart => exact ⟨0, K - (ls.length : Int), Nat.zero_le _, rfl, rfl, by omega, by simp [tot], rfl⟩
    case round =>
      obtain ⟨i, k, hi, rfl, rfl, hk0, hk1, rfl⟩ := hrel
      have hkb : k ≤ 1048576 := by omega
      have HK1 := Lib.hid hk1
      clear hk1
      by_cases hlt : i < ls.length
      · obtain ⟨a, rv, rfl, ha, hc, hrow⟩ := HK.out i hlt
        have hii : (i : Int) < (ls.length : Int) := by omega
        have HZ := Lib.hid (szIE rv (ls.getD i []) k wr hrow (HR.out i) hk0 hkb)
        have HTK := Lib.hid (tot_take ls i hlt)
        generalize hl : ls.getD i [] = l at *
        clear hl hrow
        go_wp2_with fail
        (with_reducible refine HZ.out.mono ?_)
        rintro e w' ⟨⟨r, rfl, h⟩, rfl⟩
        rcases h with ⟨rfl, h'⟩ | ⟨h, h'⟩
        · go_wp2
          go_ret
          exact ⟨⟨_, rfl, .inl (by decide)⟩, rfl⟩
        · have hn : ¬ r < 0 := by omega
          have HR2 := Lib.hid h'
          clear h'
          go_wp2
          refine ⟨⟨i + 1, r, by omega, by simp, by simp, h, ?_, by simp⟩, by simp [intOf]; omega⟩
          have e1 := HK1.out
          have e2 := HR2.out
          have e3 := HTK.out
          omega
      · obtain rfl : i = ls.length := by omega
        have hii : ¬ ((ls.length : Int) < (ls.length : Int)) := by omega
        go_wp2
        go_ret
        refine ⟨⟨_, rfl, .inr ⟨hk0, ?_⟩⟩, rfl⟩
        have e1 := HK1.out
        rwa [List.take_length] at e1

end Go.Proofs.Ytkpnfonedfomaaa
