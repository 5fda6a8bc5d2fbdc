/- The contracts of the model's TamariMeet, TamariJoin (written by tools/mk17.py). -/
import Derived.Test.YtbbbnnkkjgikbaaSpec17A
import Derived.Deep.RegionLaw
import Derived.WalkArith
namespace Go.Proofs.Ytbbbnnkkjgikbaa
open Go.ChangeShapes Go.WideShapes Go.ChangeAt Go.RowKit
open Go.PlainAid (bt bt_nonneg bt_le get_bt bt_end)
set_option linter.unusedVariables false

/-- An int appended to a row of this call's own, in a region. -/
theorem stepApp1 {w : World} {ops : Array Oper} {o : Oper} {a : Act} {K : Act → World → Prop} {Q : Exit → Act → World → Prop} {E : Prop} (hgd : o.guard = none) (s x : Operand)
    (ho : o.op = .call { callee := .builtin .append, args := #[s, x], argTypes := #[32, 32] })
    (base : Nat) (v : Value) (n : Nat) (xs : List Int) (hs : a.eval s = v) (hown : w.ownsRow base 3 1 v n (xs.map (Value.int .i64)))
    (b c : Nat) (y : Int) (hx : a.eval x = .slice (some ⟨b, 0, none⟩) 1 c) (hcell : w.cell? ⟨b, 0, none⟩ = some (.int .i64 y))
    (hn : n ≤ 1099511627776) (hbase : base ≤ w.heap.size)
    (h : ∀ v' w', w'.ownsRow base 3 1 v' (n + 1) ((xs ++ [y]).map (Value.int .i64)) → w.grownBy w' v.ownBlock → K (a.put o.dst v') w') :
    if Region.wanted o (yielded ops a.tmps) = true then Oper.wp Try.prog o a w K Q else E := by
  have hw : Region.wanted o (yielded ops a.tmps) = true := by simp [Region.wanted, hgd]
  rw [if_pos hw]
  obtain ⟨i0, hi, hz0, hz1, hz2⟩ := info_parts info3
  obtain ⟨v', w', hr, h2, h3, h4⟩ := run_append_own (P := Try.prog) w base 32 o.type 3 i0 (.int .i64 0) 1 8 Try.underlying32 hi hz0 hz1 hz2 rfl (by decide) v n _ hown ⟨b, 0, none⟩ 1 c [.int .i64 y] rfl (fun j u hj => by
    match j, hj with
    | 0, hj => simp at hj; subst hj; simpa [Addr.add] using hcell) (fun u hu => by simp at hu; subst hu; rfl) (by unfold maxLen; omega) (by omega) hbase
  unfold Oper.wp execOp
  simp only [ho, resolve, invoke, builtin, Sem.run_bind, Sem.run_pure, Result.andThen_ok, List.map_toArray, List.map_cons, List.map_nil, hs, hx, hr]
  exact h v' w' (by simpa using h2) h3
theorem cell_one_at {w : World} {x : Value} {t : TypeId} {b : Nat} (hb : b = w.heap.size) : (w.alloc (.cells #[x] t)).cell? ⟨b, 0, none⟩ = some x := by subst hb; exact cell_one _ _ _
theorem row_drew {w : World} {base n k : Nat} {e : TypeId} {size : Nat} {v : Value} {xs : List Value} (h : w.ownsRow base e size v n xs) : (w.drewN k).ownsRow base e size v n xs := h

theorem own_room {w : World} {base n : Nat} {v : Value} {xs : List Value} (h : w.ownsRow base 3 1 v n xs) : ∃ A c, v = .slice A n c ∧ n ≤ c := by
  rcases h.2 with ⟨rfl, h0⟩ | ⟨g, cap, cur, rfl, -, -, hn, -⟩
  · exact ⟨none, 0, by rw [h0], by omega⟩
  · exact ⟨_, cap, rfl, hn⟩

set_option maxRecDepth 100000 in
set_option maxHeartbeats 3200000 in
theorem tamariMeet (a b : ByteArray) (w : World) (ha : a.size ≤ 1099511627776) (hb : b.size ≤ 1099511627776) :
    Calls Try.prog 42 #[.string a, .string b] w fun e w' => e = .returned (.tuple #[.string (metP a b), .bool (metB a b)]) ∧ Below w.heap.size w w' := by
  have HF := Lib.hid (l17Fit a b w ha hb)
  rcases hf : fitT a b with _ | _
  · have HP := Lib.hid (met_no hf)
    rw [hf] at HF
    clear hf
    go_enter Try.func42, Try.ntmps42
    go_wp2_with fail
    (with_reducible refine HF.out.mono ?_)
    rintro e w' ⟨rfl, rfl⟩
    go_wp2
    go_ret2
    exact ⟨ret_sb HP.out.1.symm HP.out.2.symm, Below.refl _ _⟩
  · have HP := Lib.hid (met_yes hf)
    obtain ⟨n, hn17, hl1, hl2, -, -, hx8, hy8⟩ := fit_wts hf
    unfold mnL at HP
    rw [hl1] at HP
    have H8 := Lib.hid (And.intro hx8 hy8)
    have HA := Lib.hid (fun W => weightsOf a W ha)
    have HB := Lib.hid (fun W => weightsOf b W hb)
    generalize wtsP a = xs at *
    generalize wtsP b = ys at *
    have l1 : xs.length = n := by omega
    have l2 : ys.length = n := by omega
    rw [hf] at HF
    clear hf hl1 hl2 hx8 hy8
    go_enter Try.func42, Try.ntmps42
    go_wp2_with fail
    (with_reducible refine HF.out.mono ?_)
    rintro e w' ⟨rfl, rfl⟩
    go_wp2_with fail
    (with_reducible refine (HA.out _).mono ?_)
    rintro e w1 ⟨v1, rfl, o1, b1⟩
    obtain ⟨A1, c1, rfl, k1⟩ := id o1
    go_wp2_with fail
    (with_reducible refine (HB.out _).mono ?_)
    rintro e w2 ⟨v2, rfl, o2, b2⟩
    obtain ⟨A2, c2, rfl, k2⟩ := id o2
    have HO1 := Lib.hid ((o1.keep b2 (Nat.le_refl _)).wide (Nat.le_refl _) b2.size)
    have HO2 := Lib.hid o2
    have HB2 := Lib.hid (b1.trans (b2.mono b1.size))
    have z2 := HB2.out.size
    clear k1 k2 o1 o2 b1 b2
    have L1 := Lib.hid (show xs.length = n ∧ ys.length = n from ⟨l1, l2⟩)
    rw [l1] at HO1
    rw [l2] at HO2
    simp only [l2]
    clear l1 l2
    go_wp2
    go_loopw [8, 9] (fun v y wr => ∃ i : Nat, i ≤ n ∧ y = .int .i64 i ∧ wr.ownsRow w2.heap.size 3 1 v i ((hh min xs ys i).map (Value.int .i64)) ∧ Below w2.heap.size w2 wr) (fun _ y _ => n - (intOf y).toNat)
    case atStart => exact ⟨0, Nat.zero_le _, rfl, World.ownsRow_made w2 #[] 0 (Nat.le_refl _) (Nat.zero_le _) (by simp), (Below.refl _ _).alloc (Nat.le_refl _) _⟩
    case round =>
      obtain ⟨i, hi, rfl, hrow, hb⟩ := hrel
      have HROW := Lib.hid hrow
      have HBW := Lib.hid hb
      have hB := hb.size
      clear hrow hb
      by_cases hlt : i < n
      · obtain ⟨g1, p1, e1, -, -, hc1, -⟩ := (HO1.out.keep HBW.out (Nat.le_refl _)).cell (j := i) (by have := L1.out; omega)
        simp only [Value.slice.injEq] at e1
        obtain ⟨rfl, -, rfl⟩ := e1
        obtain ⟨g2, p2, e2, -, -, hc2, -⟩ := (HO2.out.keep HBW.out (Nat.le_refl _)).cell (j := i) (by have := L1.out; omega)
        simp only [Value.slice.injEq] at e2
        obtain ⟨rfl, -, rfl⟩ := e2
        have hii : (i : Int) < (n : Int) := by omega
        have HNX := Lib.hid (hh_next min xs ys i)
        generalize xs.getD i 0 = x at *
        generalize ys.getD i 0 = y at *
        go_wp2
        go_region_law (refine stepApp1 rfl _ _ (by rfl) w2.heap.size _ i (hh min xs ys i) (by rfl) (World.ownsRow.alloc (row_drew HROW.out) _) _ 1 (min x y) (by rfl) (cell_one_at (by simp)) (by omega) (by simp; omega) ?_; intro v' w' hown' hg'; have HOW := Lib.hid hown'; have HBG := Lib.hid (((below_drewN HBW.out _).alloc hB _).grown hg' (by simp; omega) (fun k hk => (World.ownsRow.lt HROW.out k hk).1)); clear hown' hg')
        all_goals go_wp2
        all_goals exact ⟨⟨i + 1, by omega, by simp, by rw [HNX.out]; exact HOW.out, HBG.out⟩, by simp [intOf]; omega⟩
      · obtain rfl : i = n := by omega
        have HOI := Lib.hid (OwnI.of_row HROW.out)
        obtain ⟨A5, c5, rfl, hc5⟩ := own_room HROW.out
        have HQ := Lib.hid (binaryOfWeights A5 (hh min xs ys i) c5 w2.heap.size wr.heap.size wr (by have h := HOI.out; rw [hh_len]; exact h) (Nat.le_refl _) (by rw [hh_len]; exact hc5) (fun y hy => by
          obtain ⟨k, hk, rfl⟩ := List.getElem_of_mem hy
          rw [hh_len] at hk
          have h1 := hh_at min xs ys i k hk
          rw [List.getD_eq_getElem?_getD, List.getElem?_eq_getElem (by rw [hh_len]; exact hk), Option.getD_some] at h1
          have h2 := H8.out.1 k hk
          have h3 := H8.out.2 k hk
          rw [h1]
          exact Go.WalkArith.wf_i64 (by omega)) (by rw [hh_len]; omega))
        rw [hh_len] at HQ
        go_wp2_with fail
        (with_reducible refine HQ.out.mono ?_)
        rintro e w3 ⟨rfl, hb3⟩
        go_wp2
        go_ret2
        exact ⟨ret_sb HP.out.1.symm HP.out.2.symm, HB2.out.trans ((HBW.out.trans (hb3.mono hB)).mono z2)⟩
theorem mir_bin (a : ByteArray) : binB (mirBP a) = binB a ∧ (binB a = true → (mirBP a).size = a.size) := by
  rcases h : binB a with _ | _
  · refine ⟨?_, fun h => by cases h⟩
    rw [show mirBP a = ⟨#[]⟩ from if_neg (by rw [h]; simp)]
    unfold binB
    have := endP_in ⟨#[]⟩ 0
    rcases this with h | ⟨h1, h2⟩
    · rw [h]; rfl
    · have : (⟨#[]⟩ : ByteArray).size = 0 := rfl
      omega
  · obtain ⟨t, rfl, hn, -⟩ := par_yes h
    rw [mir_tree t hn]
    exact ⟨bin_tree _ (by rw [mi_nds]; exact hn), fun _ => by rw [sz_sh, sz_sh, mi_nds]⟩
theorem mir_fit (a b : ByteArray) : fitT (mirBP a) (mirBP b) = fitT a b := by
  obtain ⟨h1, h2⟩ := mir_bin a
  obtain ⟨h3, h4⟩ := mir_bin b
  unfold fitT
  rw [h1, h3]
  rcases ha : binB a with _ | _
  · rfl
  · rcases hb : binB b with _ | _
    · rfl
    · rw [h2 ha, h4 hb]
set_option maxRecDepth 100000 in
set_option maxHeartbeats 800000 in
theorem tamariJoin (a b : ByteArray) (w : World) (ha : a.size ≤ 1099511627776) (hb : b.size ≤ 1099511627776) :
    Calls Try.prog 44 #[.string a, .string b] w fun e w' => e = .returned (.tuple #[.string (jonP a b), .bool (jonB a b)]) ∧ Below w.heap.size w w' := by
  have HF := Lib.hid (l17Fit a b w ha hb)
  rcases hf : fitT a b with _ | _
  · have HP := Lib.hid (show jonB a b = false ∧ jonP a b = ⟨#[]⟩ by
      have h1 : metB (mirBP a) (mirBP b) = false := by
        rcases hm : metB (mirBP a) (mirBP b) with _ | _
        · rfl
        · exfalso
          have hff : fitT (mirBP a) (mirBP b) = true := by
            rcases h2 : fitT (mirBP a) (mirBP b) with _ | _
            · rw [(met_no h2).2] at hm; cases hm
            · rfl
          rw [mir_fit a b, hf] at hff; cases hff
      unfold jonB jonP; rw [h1]; exact ⟨rfl, if_neg (by simp)⟩)
    rw [hf] at HF
    clear hf
    go_enter Try.func44, Try.ntmps44
    go_wp2_with fail
    (with_reducible refine HF.out.mono ?_)
    rintro e w' ⟨rfl, rfl⟩
    go_wp2
    go_ret2
    exact ⟨ret_sb HP.out.2.symm HP.out.1.symm, Below.refl _ _⟩
  · obtain ⟨t, u, ea, eb, hnu, hn, ba, bb, -⟩ := fitT_yes hf
    have ha25 := (bin_full ba).1
    have hb25 := (bin_full bb).1
    have HMA := Lib.hid (fun W => l6MirrorF a.size a ba (Nat.le_refl _) W)
    have HMB := Lib.hid (fun W => l6MirrorF b.size b bb (Nat.le_refl _) W)
    rw [show mirF a.size a = mirBP a from (if_pos ba).symm] at HMA
    rw [show mirF b.size b = mirBP b from (if_pos bb).symm] at HMB
    have sa : (mirBP a).size ≤ 25 := by rw [ea, mir_tree t hn, sz_sh, mi_nds]; omega
    have sb : (mirBP b).size ≤ 25 := by rw [eb, mir_tree u (by omega), sz_sh, mi_nds]; omega
    have HME := Lib.hid (fun W => tamariMeet (mirBP a) (mirBP b) W (by omega) (by omega))
    rw [hf] at HF
    clear hf ea eb ba bb
    rcases met_cases (mirBP a) (mirBP b) with ⟨h1, h2⟩ | ⟨T, hT, h1, h2⟩
    · have HP := Lib.hid (show jonB a b = false ∧ jonP a b = ⟨#[]⟩ from ⟨h1, if_neg (by rw [h1]; simp)⟩)
      rw [h1, h2] at HME
      clear h1 h2
      generalize mirBP a = MA at *
      generalize mirBP b = MB at *
      go_enter Try.func44, Try.ntmps44
      go_wp2_with fail
      (with_reducible refine HF.out.mono ?_)
      rintro e w' ⟨rfl, rfl⟩
      go_wp2_with fail
      (with_reducible refine (HMA.out _).mono ?_)
      rintro e w1 ⟨rfl, q1, rfl⟩
      go_wp2_with fail
      (with_reducible refine (HMB.out _).mono ?_)
      rintro e w2 ⟨rfl, q2, rfl⟩
      go_wp2_with fail
      (with_reducible refine (HME.out _).mono ?_)
      rintro e w3 ⟨rfl, hb3⟩
      go_wp2
      go_ret2
      exact ⟨ret_sb HP.out.2.symm HP.out.1.symm, (below_drewN (Below.refl _ _) _).trans hb3⟩
    · have HP := Lib.hid (show jonB a b = true ∧ jonP a b = baL (sh (mi T)) from ⟨h1, by
        unfold jonP; rw [if_pos h1, h2, mir_tree T hT]⟩)
      rw [h1, h2] at HME
      have HMT := Lib.hid (fun W => l6MirrorF (baL (sh T)).size (baL (sh T)) (bin_tree T hT) (Nat.le_refl _) W)
      rw [mirror_tree T _ (by rw [sz_sh]; omega)] at HMT
      clear h1 h2
      generalize mirBP a = MA at *
      generalize mirBP b = MB at *
      generalize baL (sh T) = ST at *
      go_enter Try.func44, Try.ntmps44
      go_wp2_with fail
      (with_reducible refine HF.out.mono ?_)
      rintro e w' ⟨rfl, rfl⟩
      go_wp2_with fail
      (with_reducible refine (HMA.out _).mono ?_)
      rintro e w1 ⟨rfl, q1, rfl⟩
      go_wp2_with fail
      (with_reducible refine (HMB.out _).mono ?_)
      rintro e w2 ⟨rfl, q2, rfl⟩
      go_wp2_with fail
      (with_reducible refine (HME.out _).mono ?_)
      rintro e w3 ⟨rfl, hb3⟩
      go_wp2_with fail
      (with_reducible refine (HMT.out _).mono ?_)
      rintro e w4 ⟨rfl, q4, rfl⟩
      go_wp2
      go_ret2
      exact ⟨ret_sb HP.out.2.symm HP.out.1.symm, below_drewN ((below_drewN (Below.refl _ _) _).trans hb3) _⟩

end Go.Proofs.Ytbbbnnkkjgikbaa
