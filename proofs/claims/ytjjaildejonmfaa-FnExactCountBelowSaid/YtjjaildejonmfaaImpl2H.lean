/- The contract of the program's PathOfHeights. -/
import Derived.Test.YtjjaildejonmfaaImpl2B
import Derived.Test.YtjjaildejonmfaaBld
import Derived.Test.YtjjaildejonmfaaShelfB
namespace Go.Proofs.Ytjjaildejonmfaa
open Go.ChangeShapes Go.WideShapes Go.ChangeAt Go.RowKit
set_option linter.unusedVariables false

theorem df_low : ∀ (l : List UInt8) (h : Nat), dyckFrom h l = true → h ≤ l.length := by
  intro l
  induction l with
  | nil => intro h hd; rw [df_nil] at hd; simp at hd; omega
  | cons c l ih =>
    intro h hd
    rw [List.length_cons]
    rcases df_letter hd with ⟨-, h1⟩ | ⟨-, h0, h1⟩
    · have := ih _ h1; omega
    · have := ih _ h1; omega
theorem hAt_path {s : ByteArray} (hd : dyck s = true) : ∀ j, j ≤ s.size → ∃ h : Nat, hAt s j = (h : Int) ∧ h ≤ j ∧ dyckFrom h (rest s j) = true := by
  intro j
  induction j with
  | zero =>
    intro _
    rw [dyck_short (dyck_size hd)] at hd
    exact ⟨0, hAt_zero s, Nat.le_refl _, hd⟩
  | succ j ih =>
    intro hj
    obtain ⟨h, h1, h2, h3⟩ := ih (by omega)
    rw [rest_cons s j hj] at h3
    rcases df_letter h3 with ⟨e, h4⟩ | ⟨e, h0, h4⟩
    · exact ⟨h + 1, by rw [hAt_up s j hj e, h1]; omega, by omega, h4⟩
    · exact ⟨h - 1, by rw [hAt_down s j hj (by omega), h1]; omega, by omega, h4⟩
theorem hAt_fit {s : ByteArray} (hd : dyck s = true) (j : Nat) (hj : j ≤ s.size) : 0 ≤ hAt s j ∧ hAt s j ≤ 8 := by
  obtain ⟨h, h1, h2, h3⟩ := hAt_path hd j hj
  have h4 := df_low _ _ h3
  have h5 := dyck_size hd
  have h6 : (rest s j).length = s.size - j := by unfold rest; simp
  rw [h1]; omega

/-- The letters by the directions of the steps. -/
def stepD (xs : List Int) (j : Nat) : UInt8 := if xs.getD j 0 < xs.getD (j + 1) 0 then 117 else 100
def dirL (xs : List Int) : Nat → List UInt8
  | 0 => []
  | j + 1 => dirL xs j ++ [stepD xs j]
theorem dirL_len (xs : List Int) (j : Nat) : (dirL xs j).length = j := by
  induction j with
  | zero => rfl
  | succ j ih => rw [dirL, List.length_append, ih]; rfl
theorem dirL_at (xs : List Int) (j i : Nat) (h : i < j) (h' : i < (dirL xs j).length) : (dirL xs j)[i] = stepD xs i := by
  induction j with
  | zero => omega
  | succ j ih =>
    have hl := dirL_len xs j
    by_cases e : i = j
    · subst e
      simp only [dirL]
      rw [List.getElem_append_right (by omega)]
      simp [hl]
    · simp only [dirL]
      rw [List.getElem_append_left (by omega)]
      exact ih (by omega) (by omega)
def dirW (xs : List Int) : ByteArray := ⟨(dirL xs (xs.length - 1)).toArray⟩
theorem dirW_size (xs : List Int) : (dirW xs).size = xs.length - 1 := by
  unfold dirW
  rw [str_len, dirL_len]
theorem dirW_at (xs : List Int) (i : Nat) (h : i < (dirW xs).size) : (dirW xs)[i] = stepD xs i := by
  have hs := dirW_size xs
  rw [← at_list _ i h (by simpa using h)]
  exact dirL_at xs _ i (by omega) (by rw [dirL_len]; omega)
theorem dir_steps {xs : List Int} (j : Nat) (h : ∀ i, i < j → (xs.getD i 0 < xs.getD (i + 1) 0 ↔ xs.getD (i + 1) 0 - xs.getD i 0 = 1)) : dirL xs j = stepsL xs j := by
  induction j with
  | zero => rfl
  | succ j ih =>
    rw [dirL, stepsL, ih (fun i hi => h i (by omega))]
    congr 2
    unfold stepD stepC
    have := h j (by omega)
    by_cases e : xs.getD j 0 < xs.getD (j + 1) 0
    · rw [if_pos e, if_pos (this.1 e)]
    · rw [if_neg e, if_neg (fun h => e (this.2 h))]
theorem dir_up {xs : List Int} {i : Nat} (h : i < (dirW xs).size) : (dirW xs)[i].toNat = 117 ↔ xs.getD i 0 < xs.getD (i + 1) 0 := by
  rw [dirW_at xs i h]
  unfold stepD
  by_cases e : xs.getD i 0 < xs.getD (i + 1) 0
  · rw [if_pos e]; exact ⟨fun _ => e, fun _ => rfl⟩
  · rw [if_neg e]; exact ⟨fun h => absurd h (by decide), fun h => absurd h e⟩
theorem hAt_list {xs : List Int} {s : ByteArray} (hd : dyck s = true) (h : heightsP s = xs) (j : Nat) : xs.getD j 0 = hAt s j := by
  rw [← h, heightsP_yes hd]; rfl
/-- What the comparison with the heights of the word says. -/
theorem poh_eq {xs : List Int} (h0 : 0 < xs.length) (h : heightsP (dirW xs) = xs) : pohGood xs ∧ pohW xs = dirW xs := by
  have hd : dyck (dirW xs) = true := by
    rcases hd : dyck (dirW xs) with _ | _
    · rw [heightsP_no hd] at h; rw [← h] at h0; simp at h0
    · rfl
  have hs := dirW_size xs
  have hok : ∀ j, j + 1 < xs.length → okAt xs j := by
    intro j hj
    have h1 := hAt_fit hd j (by omega)
    have h2 := hAt_fit hd (j + 1) (by omega)
    have hup := dir_up (xs := xs) (i := j) (by omega)
    unfold okAt
    rw [hAt_list hd h j, hAt_list hd h (j + 1)]
    by_cases e : (dirW xs)[j].toNat = 117
    · have := hAt_up _ j (by omega) e
      exact ⟨by omega, by omega, by omega, by omega, .inl (by omega)⟩
    · have := hAt_down _ j (by omega) e
      exact ⟨by omega, by omega, by omega, by omega, .inr (by omega)⟩
  have hw : pohW xs = dirW xs := by
    unfold pohW dirW
    rw [dir_steps (xs.length - 1) fun i hi => by
      have := hok i (by omega)
      unfold okAt at this
      omega]
  refine ⟨⟨hok, h0, ?_, by rw [hw]; exact hd⟩, hw⟩
  rw [hAt_list hd h 0]; exact hAt_zero _
theorem poh_back {xs : List Int} (hg : pohGood xs) : heightsP (dirW xs) = xs := by
  obtain ⟨hok, h0, hz, hd⟩ := hg
  have hw : pohW xs = dirW xs := by
    unfold pohW dirW
    rw [dir_steps (xs.length - 1) fun i hi => by
      have := hok i (by omega)
      unfold okAt at this
      omega]
  rw [hw] at hd
  have hs := dirW_size xs
  have hall : ∀ j, j < xs.length → hAt (dirW xs) j = xs.getD j 0 := by
    intro j
    induction j with
    | zero => intro _; rw [hAt_zero, hz]
    | succ j ih =>
      intro hj
      have h1 := ih (by omega)
      have hup := dir_up (xs := xs) (i := j) (by omega)
      have h2 := hok j hj
      unfold okAt at h2
      by_cases e : (dirW xs)[j].toNat = 117
      · rw [hAt_up _ j (by omega) e, h1]
        have := hup.1 e
        omega
      · rw [hAt_down _ j (by omega) e, h1]
        have : ¬ xs.getD j 0 < xs.getD (j + 1) 0 := fun h => e (hup.2 h)
        omega
  rw [heightsP_yes hd]
  have hl : (hsL 0 (dirW xs).data.toList).length = xs.length := by rw [hsL_len]; simp; omega
  apply List.ext_getElem hl
  intro i h1 h2
  have := hall i h2
  unfold hAt at this
  rw [List.getD_eq_getElem?_getD, List.getD_eq_getElem?_getD, List.getElem?_eq_getElem h1, List.getElem?_eq_getElem h2] at this
  exact this

set_option maxRecDepth 100000 in
set_option maxHeartbeats 3200000 in
theorem pathOfHeightsI (v : Value) (xs : List Int) (lo hi : Nat) (w : World) (hv : OwnI w lo hi v xs) (hhi : hi ≤ w.heap.size) (hl : xs.length ≤ 1048576) :
    Calls Try.prog 58 #[v] w fun e w' => e = .returned (.tuple #[.string (pohP xs), .bool (pohOk xs)]) ∧ Below w.heap.size w w' := by
  obtain ⟨A1, c1, rfl, -⟩ := id hv
  have HV := Lib.hid hv
  clear hv
  go_enter Try.func58, Try.ntmps58
  go_wp2
  go_loopw [5] (fun y wr => ∃ (j : Nat), j ≤ xs.length - 1 ∧ y = .int .i64 ((j : Int) + 1) ∧ Lib.IsBuilderF 67 5 w.heap.size w.heap.size (Lib.byteCells (dirL xs j)) wr ∧ Below w.heap.size w wr) (fun y _ => xs.length - (intOf y).toNat)
  case atStart => exact ⟨0, Nat.zero_le _, rfl, Lib.IsBuilderF.of (Lib.fresh_isBuilder 67 5 w), (Below.refl _ _).alloc (Nat.le_refl _) _⟩
  case round =>
    obtain ⟨j, hj, rfl, hbd, hb⟩ := hrel
    have HBD := Lib.hid hbd
    have HB := Lib.hid hb
    have zB := hb.size
    clear hbd hb
    by_cases hlt : j + 1 < xs.length
    · obtain ⟨g, p, e1, -, -, hc1, -⟩ := (HV.out.keep HB.out hhi).cell (j := j) (by omega)
      obtain ⟨g', p', e2, -, -, hc2, -⟩ := (HV.out.keep HB.out hhi).cell (j := j + 1) hlt
      simp only [Value.slice.injEq] at e1
      obtain ⟨rfl, -, rfl⟩ := e1
      simp only [Value.slice.injEq, Option.some.injEq, Addr.mk.injEq] at e2
      obtain ⟨⟨rfl, -, -⟩, -, rfl⟩ := e2
      have hj1 : ((j : Int) + 1).toNat = j + 1 := by omega
      have hj2 : (j : Int) + 1 - 1 = (j : Int) := by omega
      have hji : (j : Int) + 1 < (xs.length : Int) := by omega
      have hw1 : IntKind.i64.wrap ((j : Int) + 1 - 1) = (j : Int) := by rw [hj2]; exact IntWalk.i64_in _ (by omega)
      have HST := Lib.hid (show dirL xs (j + 1) = dirL xs j ++ [stepD xs j] from rfl)
      have HSD := Lib.hid (show stepD xs j = if xs.getD j 0 < xs.getD (j + 1) 0 then 117 else 100 from rfl)
      have hjl : (j : Int) < (xs.length : Int) := by omega
      generalize xs.getD (j + 1) 0 = x at *
      generalize xs.getD j 0 = y at *
      have HBDN := Lib.hid (show ∀ n, Lib.IsBuilderF 67 5 w.heap.size w.heap.size (Lib.byteCells (dirL xs j)) (wr.drewN n) from fun n => HBD.out)
      by_cases hxy : y < x
      · have HS1 := Lib.hid (HSD.out.trans (if_pos hxy))
        go_wp2_with fail
        go_quiet (fail)
        go_wp2_with fail
        refine (writeByte w.heap.size w.heap.size _ 117 _ (HBDN.out _) (by rw [Lib.byteCells_length, dirL_len]; omega) zB).mono ?_
        rintro e w3 ⟨rfl, h1, b1, -⟩
        go_wp2
        refine ⟨⟨j + 1, by omega, by simp, ?_, (below_drewN HB.out _).trans b1⟩, by simp [intOf]; omega⟩
        rw [HST.out, HS1.out, Lib.byteCells_append]
        exact Or.inr h1
      · have HS1 := Lib.hid (HSD.out.trans (if_neg hxy))
        go_wp2_with fail
        go_quiet (fail)
        go_wp2_with fail
        refine (writeByte w.heap.size w.heap.size _ 100 _ (HBDN.out _) (by rw [Lib.byteCells_length, dirL_len]; omega) zB).mono ?_
        rintro e w3 ⟨rfl, h1, b1, -⟩
        go_wp2
        refine ⟨⟨j + 1, by omega, by simp, ?_, (below_drewN HB.out _).trans b1⟩, by simp [intOf]; omega⟩
        rw [HST.out, HS1.out, Lib.byteCells_append]
        exact Or.inr h1
    · have hlt' : ¬ ((j : Int) + 1 < (xs.length : Int)) := by omega
      have HJ := Lib.hid (show xs.length - 1 = j from by omega)
      have HDW := Lib.hid (show dirW xs = ⟨(dirL xs j).toArray⟩ by unfold dirW; rw [HJ.out])
      go_wp2_with fail
      refine (Try.Builder_String_any_k w.heap.size w.heap.size (dirL xs j) _ HBD.out zB).mono ?_
      rintro e w1 ⟨rfl, -, b1, -⟩
      rw [← HDW.out]
      have HB1 := Lib.hid (HB.out.trans b1)
      have z1 := HB1.out.size
      clear b1
      by_cases hn : xs.length = 0
      · have HN := Lib.hid (poh_no (xs := xs) fun h => by have := h.2.1; omega)
        have hn0 : ((xs.length : Int) == 0) = true := by simp [hn]
        go_wp2
        go_ret2
        exact ⟨ret_sb HN.out.2.symm HN.out.1.symm, HB1.out⟩
      · have hn0 : ((xs.length : Int) == 0) = false := beq_eq_false_iff_ne.2 (by omega)
        have hpos : 0 < xs.length := by omega
        have HPOS := Lib.hid hpos
        go_wp2_with fail
        refine (heightsOfI (dirW xs) _).mono ?_
        rintro e w2 ⟨v2, rfl, ho2, hb2⟩
        obtain ⟨A2, c2, rfl, -⟩ := id ho2
        have HO2 := Lib.hid ho2
        have HV2 := Lib.hid ((HV.out.keep HB1.out hhi).keep hb2 (by omega))
        have HB2 := Lib.hid (HB1.out.trans (hb2.mono z1))
        clear ho2 hb2
        by_cases hlen : (heightsP (dirW xs)).length = xs.length
        · obtain ⟨g1, p1, e1, -, -, -, -⟩ := HO2.out.cell (j := 0) (by omega)
          obtain ⟨g2, p2, e2, -, -, -, -⟩ := HV2.out.cell (j := 0) hpos
          simp only [Value.slice.injEq] at e1 e2
          obtain ⟨rfl, -, rfl⟩ := e1
          obtain ⟨rfl, -, rfl⟩ := e2
          have HC1 := Lib.hid (show ∀ i, i < (heightsP (dirW xs)).length → w2.cell? ⟨g1, 0 + i, none⟩ = some (.int .i64 ((heightsP (dirW xs)).getD i 0)) from fun i hi => by
            obtain ⟨g, p, e, -, -, h, -⟩ := HO2.out.cell hi
            simp only [Value.slice.injEq, Option.some.injEq, Addr.mk.injEq] at e
            rw [e.1.1, Nat.zero_add]; exact h)
          have HC2 := Lib.hid (show ∀ i, i < xs.length → w2.cell? ⟨g2, 0 + i, none⟩ = some (.int .i64 (xs.getD i 0)) from fun i hi => by
            obtain ⟨g, p, e, -, -, h, -⟩ := HV2.out.cell hi
            simp only [Value.slice.injEq, Option.some.injEq, Addr.mk.injEq] at e
            rw [e.1.1, Nat.zero_add]; exact h)
          by_cases hsame : heightsP (dirW xs) = xs
          · have HN := Lib.hid (poh_yes (poh_eq hpos hsame).1)
            have HW := Lib.hid (poh_eq hpos hsame).2
            have HE := Lib.hid (show ((heightsP (dirW xs)).take (heightsP (dirW xs)).length == xs.take xs.length) = true by rw [hsame]; simp)
            have HLEN := Lib.hid hlen
            clear hlen hsame
            go_wp2_with fail
            refine (Try.slices_Equal_int g1 0 _ _ g2 0 _ _ (heightsP (dirW xs)) xs _ (Nat.le_refl _) (Nat.le_refl _) (by have := HLEN.out; omega) (by omega) HC1.out HC2.out).mono ?_
            rw [HE.out]
            rintro e w3 ⟨rfl, q, rfl⟩
            go_wp2
            go_ret2
            exact ⟨ret_sb (by rw [HN.out.2, HW.out]) HN.out.1.symm, below_drewN HB2.out _⟩
          · have HN := Lib.hid (poh_no (xs := xs) fun h => hsame (poh_back h))
            have HE := Lib.hid (show ((heightsP (dirW xs)).take (heightsP (dirW xs)).length == xs.take xs.length) = false by rw [List.take_length, List.take_length]; exact beq_eq_false_iff_ne.2 hsame)
            have HLEN := Lib.hid hlen
            clear hlen hsame
            go_wp2_with fail
            refine (Try.slices_Equal_int g1 0 _ _ g2 0 _ _ (heightsP (dirW xs)) xs _ (Nat.le_refl _) (Nat.le_refl _) (by have := HLEN.out; omega) (by omega) HC1.out HC2.out).mono ?_
            rw [HE.out]
            rintro e w3 ⟨rfl, q, rfl⟩
            go_wp2
            go_ret2
            exact ⟨ret_sb HN.out.2.symm HN.out.1.symm, below_drewN HB2.out _⟩
        · have HN := Lib.hid (poh_no (xs := xs) fun h => hlen (by rw [poh_back h]))
          have HLEN := Lib.hid hlen
          clear hlen
          go_wp2_with fail
          refine (Try.slices_Equal_int_lens _ _ _ _ _ _ _ HLEN.out).mono ?_
          rintro e w3 ⟨rfl, rfl⟩
          go_wp2
          go_ret2
          exact ⟨ret_sb HN.out.2.symm HN.out.1.symm, HB2.out⟩

end Go.Proofs.Ytjjaildejonmfaa
