/- The contracts of the model's l18Heights, LowerPath, UpperPath (written by tools/mk18s.py). -/
import Derived.Test.YtjjaildejonmfaaSpec18A
import Derived.Deep.RegionLaw
namespace Go.Proofs.Ytjjaildejonmfaa
open Go.ChangeShapes Go.WideShapes Go.ChangeAt Go.RowKit
open Go.PlainAid (bt bt_nonneg bt_le get_bt bt_end)
set_option linter.unusedVariables false

/-- An int appended to a row of this call's own, in a region. -/
theorem stepApp1 {w : World} {ops : Array Oper} {o : Oper} {a : Act} {K : Act → World → Prop} {Q : Exit → Act → World → Prop} {E : Prop} (hgd : o.guard = none) (s x : Operand)
    (ho : o.op = .call { callee := .builtin .append, args := #[s, x], argTypes := #[40, 40] })
    (base : Nat) (v : Value) (n : Nat) (xs : List Int) (hs : a.eval s = v) (hown : w.ownsRow base 3 1 v n (xs.map (Value.int .i64)))
    (b c : Nat) (y : Int) (hx : a.eval x = .slice (some ⟨b, 0, none⟩) 1 c) (hcell : w.cell? ⟨b, 0, none⟩ = some (.int .i64 y))
    (hn : n ≤ 1099511627776) (hbase : base ≤ w.heap.size)
    (h : ∀ v' w', w'.ownsRow base 3 1 v' (n + 1) ((xs ++ [y]).map (Value.int .i64)) → w.grownBy w' v.ownBlock → K (a.put o.dst v') w') :
    if Region.wanted o (yielded ops a.tmps) = true then Oper.wp Try.prog o a w K Q else E := by
  have hw : Region.wanted o (yielded ops a.tmps) = true := by simp [Region.wanted, hgd]
  rw [if_pos hw]
  obtain ⟨i0, hi, hz0, hz1, hz2⟩ := info_parts info3
  obtain ⟨v', w', hr, h2, h3, h4⟩ := run_append_own (P := Try.prog) w base 40 o.type 3 i0 (.int .i64 0) 1 8 Try.underlying40 hi hz0 hz1 hz2 rfl (by decide) v n _ hown ⟨b, 0, none⟩ 1 c [.int .i64 y] rfl (fun j u hj => by
    match j, hj with
    | 0, hj => simp at hj; subst hj; simpa [Addr.add] using hcell) (fun u hu => by simp at hu; subst hu; rfl) (by unfold maxLen; omega) (by omega) hbase
  unfold Oper.wp execOp
  simp only [ho, resolve, invoke, builtin, Sem.run_bind, Sem.run_pure, Result.andThen_ok, List.map_toArray, List.map_cons, List.map_nil, hs, hx, hr]
  exact h v' w' (by simpa using h2) h3
theorem cell_one_at {w : World} {x : Value} {t : TypeId} {b : Nat} (hb : b = w.heap.size) : (w.alloc (.cells #[x] t)).cell? ⟨b, 0, none⟩ = some x := by subst hb; exact cell_one _ _ _
theorem row_drew {w : World} {base n k : Nat} {e : TypeId} {size : Nat} {v : Value} {xs : List Value} (h : w.ownsRow base e size v n xs) : (w.drewN k).ownsRow base e size v n xs := h

set_option maxRecDepth 100000 in
set_option maxHeartbeats 3200000 in
theorem l18HeightsLowerPath (a b : ByteArray) (w : World) (ha : a.size ≤ 1099511627776) (hb : b.size ≤ 1099511627776) :
    Calls Try.prog 39 #[.string a, .string b, .bool true] w fun e w' => e = .returned (.tuple #[.string (thrP min a b), .bool (thrOk min a b)]) ∧ Below w.heap.size w w' := by
  have HF := Lib.hid (l18Fit a b w ha hb)
  rcases hf : fitB a b with _ | _
  · have HP := Lib.hid (thr_no (f := min) hf)
    rw [hf] at HF
    clear hf
    go_enter Try.func39, Try.ntmps39
    go_wp2_with fail
    (with_reducible refine HF.out.mono ?_)
    rintro e w' ⟨rfl, rfl⟩
    go_wp2
    go_ret2
    exact ⟨ret_sb HP.out.1.symm HP.out.2.symm, Below.refl _ _⟩
  · have HP := Lib.hid (thr_yes (f := min) hf)
    obtain ⟨d1, d2, hs⟩ := fit_yes hf
    have hl1 := hs_len d1
    have hl2 := hs_len d2
    have h16 := dyck_size d1
    have HA := Lib.hid (fun W => heightsOf a W ha)
    have HB := Lib.hid (fun W => heightsOf b W hb)
    obtain ⟨n, hn⟩ : ∃ n, n = a.size + 1 := ⟨_, rfl⟩
    rw [← hn] at HP
    generalize heightsP a = xs at *
    generalize heightsP b = ys at *
    have l1 : xs.length = n := by omega
    have l2 : ys.length = n := by omega
    have hn17 : n ≤ 17 := by omega
    rw [hf] at HF
    clear hf d1 d2 hs hl1 hl2 h16 hn
    go_enter Try.func39, Try.ntmps39
    go_wp2_with fail
    (with_reducible refine HF.out.mono ?_)
    rintro e w' ⟨rfl, rfl⟩
    go_wp2_with fail
    (with_reducible refine (HA.out _).mono ?_)
    rintro e w1 ⟨v1, rfl, o1, b1⟩
    obtain ⟨A1, c1, rfl, k1⟩ := id o1
    go_wp2_with fail
    (with_reducible refine (HB.out _).mono ?_)
    rintro e w2 ⟨v2, rfl, o2, b2⟩
    obtain ⟨A2, c2, rfl, k2⟩ := id o2
    have HO1 := Lib.hid ((o1.keep b2 (Nat.le_refl _)).wide (Nat.le_refl _) b2.size)
    have HO2 := Lib.hid o2
    have HB2 := Lib.hid (b1.trans (b2.mono b1.size))
    have z2 := HB2.out.size
    clear k1 k2 o1 o2 b1 b2
    have L1 := Lib.hid (show xs.length = n ∧ ys.length = n from ⟨l1, l2⟩)
    rw [l1] at HO1
    rw [l2] at HO2
    simp only [l2]
    clear l1 l2
    go_wp2
    go_loopw [10, 11] (fun v y wr => ∃ i : Nat, i ≤ n ∧ y = .int .i64 i ∧ wr.ownsRow w2.heap.size 3 1 v i ((hh min xs ys i).map (Value.int .i64)) ∧ Below w2.heap.size w2 wr) (fun _ y _ => n - (intOf y).toNat)
    case atStart => exact ⟨0, Nat.zero_le _, rfl, World.ownsRow_made w2 #[] 0 (Nat.le_refl _) (Nat.zero_le _) (by simp), (Below.refl _ _).alloc (Nat.le_refl _) _⟩
    case round =>
      obtain ⟨i, hi, rfl, hrow, hb⟩ := hrel
      have HROW := Lib.hid hrow
      have HBW := Lib.hid hb
      have hB := hb.size
      clear hrow hb
      by_cases hlt : i < n
      · obtain ⟨g1, p1, e1, -, -, hc1, -⟩ := (HO1.out.keep HBW.out (Nat.le_refl _)).cell (j := i) (by have := L1.out; omega)
        simp only [Value.slice.injEq] at e1
        obtain ⟨rfl, -, rfl⟩ := e1
        obtain ⟨g2, p2, e2, -, -, hc2, -⟩ := (HO2.out.keep HBW.out (Nat.le_refl _)).cell (j := i) (by have := L1.out; omega)
        simp only [Value.slice.injEq] at e2
        obtain ⟨rfl, -, rfl⟩ := e2
        have hii : (i : Int) < (n : Int) := by omega
        have HNX := Lib.hid (hh_next min xs ys i)
        generalize xs.getD i 0 = x at *
        generalize ys.getD i 0 = y at *
        go_wp2
        go_region_law (refine stepApp1 rfl _ _ (by rfl) w2.heap.size _ i (hh min xs ys i) (by rfl) (World.ownsRow.alloc (row_drew HROW.out) _) _ 1 (min x y) (by rfl) (cell_one_at (by simp)) (by omega) (by simp; omega) ?_; intro v' w' hown' hg'; have HOW := Lib.hid hown'; have HBG := Lib.hid (((below_drewN HBW.out _).alloc hB _).grown hg' (by simp; omega) (fun k hk => (World.ownsRow.lt HROW.out k hk).1)); clear hown' hg')
        all_goals go_wp2
        all_goals exact ⟨⟨i + 1, by omega, by simp, by rw [HNX.out]; exact HOW.out, HBG.out⟩, by simp [intOf]; omega⟩
      · obtain rfl : i = n := by omega
        have HOI := Lib.hid (OwnI.of_row HROW.out)
        have HQ := Lib.hid (fun v (h : OwnI wr w2.heap.size wr.heap.size v (hh min xs ys i)) => pathOfHeights v (hh min xs ys i) wr (ArgI.of_own h (Nat.le_refl _)) (by rw [hh_len]; omega))
        go_wp2_with fail
        (with_reducible refine (HQ.out _ HOI.out).mono ?_)
        rintro e w3 ⟨rfl, hb3⟩
        go_wp2
        go_ret2
        exact ⟨ret_sb HP.out.1.symm HP.out.2.symm, HB2.out.trans ((HBW.out.trans (hb3.mono hB)).mono z2)⟩
set_option maxRecDepth 100000 in
theorem specLowerPath (a b : ByteArray) (w : World) (ha : a.size ≤ 1099511627776) (hb : b.size ≤ 1099511627776) :
    Calls Try.prog 14 #[.string a, .string b] w fun e w' => e = .returned (.tuple #[.string (thrP min a b), .bool (thrOk min a b)]) ∧ Below w.heap.size w w' := by
  have HT := Lib.hid (l18HeightsLowerPath a b w ha hb)
  go_enter Try.func14, Try.ntmps14
  go_wp2_with fail
  (with_reducible refine HT.out.mono ?_)
  rintro e w1 ⟨rfl, hb1⟩
  go_wp2
  go_ret2
  exact ⟨rfl, hb1⟩

set_option maxRecDepth 100000 in
set_option maxHeartbeats 3200000 in
theorem l18HeightsUpperPath (a b : ByteArray) (w : World) (ha : a.size ≤ 1099511627776) (hb : b.size ≤ 1099511627776) :
    Calls Try.prog 39 #[.string a, .string b, .bool false] w fun e w' => e = .returned (.tuple #[.string (thrP max a b), .bool (thrOk max a b)]) ∧ Below w.heap.size w w' := by
  have HF := Lib.hid (l18Fit a b w ha hb)
  rcases hf : fitB a b with _ | _
  · have HP := Lib.hid (thr_no (f := max) hf)
    rw [hf] at HF
    clear hf
    go_enter Try.func39, Try.ntmps39
    go_wp2_with fail
    (with_reducible refine HF.out.mono ?_)
    rintro e w' ⟨rfl, rfl⟩
    go_wp2
    go_ret2
    exact ⟨ret_sb HP.out.1.symm HP.out.2.symm, Below.refl _ _⟩
  · have HP := Lib.hid (thr_yes (f := max) hf)
    obtain ⟨d1, d2, hs⟩ := fit_yes hf
    have hl1 := hs_len d1
    have hl2 := hs_len d2
    have h16 := dyck_size d1
    have HA := Lib.hid (fun W => heightsOf a W ha)
    have HB := Lib.hid (fun W => heightsOf b W hb)
    obtain ⟨n, hn⟩ : ∃ n, n = a.size + 1 := ⟨_, rfl⟩
    rw [← hn] at HP
    generalize heightsP a = xs at *
    generalize heightsP b = ys at *
    have l1 : xs.length = n := by omega
    have l2 : ys.length = n := by omega
    have hn17 : n ≤ 17 := by omega
    rw [hf] at HF
    clear hf d1 d2 hs hl1 hl2 h16 hn
    go_enter Try.func39, Try.ntmps39
    go_wp2_with fail
    (with_reducible refine HF.out.mono ?_)
    rintro e w' ⟨rfl, rfl⟩
    go_wp2_with fail
    (with_reducible refine (HA.out _).mono ?_)
    rintro e w1 ⟨v1, rfl, o1, b1⟩
    obtain ⟨A1, c1, rfl, k1⟩ := id o1
    go_wp2_with fail
    (with_reducible refine (HB.out _).mono ?_)
    rintro e w2 ⟨v2, rfl, o2, b2⟩
    obtain ⟨A2, c2, rfl, k2⟩ := id o2
    have HO1 := Lib.hid ((o1.keep b2 (Nat.le_refl _)).wide (Nat.le_refl _) b2.size)
    have HO2 := Lib.hid o2
    have HB2 := Lib.hid (b1.trans (b2.mono b1.size))
    have z2 := HB2.out.size
    clear k1 k2 o1 o2 b1 b2
    have L1 := Lib.hid (show xs.length = n ∧ ys.length = n from ⟨l1, l2⟩)
    rw [l1] at HO1
    rw [l2] at HO2
    simp only [l2]
    clear l1 l2
    go_wp2
    go_loopw [10, 11] (fun v y wr => ∃ i : Nat, i ≤ n ∧ y = .int .i64 i ∧ wr.ownsRow w2.heap.size 3 1 v i ((hh max xs ys i).map (Value.int .i64)) ∧ Below w2.heap.size w2 wr) (fun _ y _ => n - (intOf y).toNat)
    case atStart => exact ⟨0, Nat.zero_le _, rfl, World.ownsRow_made w2 #[] 0 (Nat.le_refl _) (Nat.zero_le _) (by simp), (Below.refl _ _).alloc (Nat.le_refl _) _⟩
    case round =>
      obtain ⟨i, hi, rfl, hrow, hb⟩ := hrel
      have HROW := Lib.hid hrow
      have HBW := Lib.hid hb
      have hB := hb.size
      clear hrow hb
      by_cases hlt : i < n
      · obtain ⟨g1, p1, e1, -, -, hc1, -⟩ := (HO1.out.keep HBW.out (Nat.le_refl _)).cell (j := i) (by have := L1.out; omega)
        simp only [Value.slice.injEq] at e1
        obtain ⟨rfl, -, rfl⟩ := e1
        obtain ⟨g2, p2, e2, -, -, hc2, -⟩ := (HO2.out.keep HBW.out (Nat.le_refl _)).cell (j := i) (by have := L1.out; omega)
        simp only [Value.slice.injEq] at e2
        obtain ⟨rfl, -, rfl⟩ := e2
        have hii : (i : Int) < (n : Int) := by omega
        have HNX := Lib.hid (hh_next max xs ys i)
        generalize xs.getD i 0 = x at *
        generalize ys.getD i 0 = y at *
        go_wp2
        go_region_law (refine stepApp1 rfl _ _ (by rfl) w2.heap.size _ i (hh max xs ys i) (by rfl) (World.ownsRow.alloc (row_drew HROW.out) _) _ 1 (max x y) (by rfl) (cell_one_at (by simp)) (by omega) (by simp; omega) ?_; intro v' w' hown' hg'; have HOW := Lib.hid hown'; have HBG := Lib.hid (((below_drewN HBW.out _).alloc hB _).grown hg' (by simp; omega) (fun k hk => (World.ownsRow.lt HROW.out k hk).1)); clear hown' hg')
        all_goals go_wp2
        all_goals exact ⟨⟨i + 1, by omega, by simp, by rw [HNX.out]; exact HOW.out, HBG.out⟩, by simp [intOf]; omega⟩
      · obtain rfl : i = n := by omega
        have HOI := Lib.hid (OwnI.of_row HROW.out)
        have HQ := Lib.hid (fun v (h : OwnI wr w2.heap.size wr.heap.size v (hh max xs ys i)) => pathOfHeights v (hh max xs ys i) wr (ArgI.of_own h (Nat.le_refl _)) (by rw [hh_len]; omega))
        go_wp2_with fail
        (with_reducible refine (HQ.out _ HOI.out).mono ?_)
        rintro e w3 ⟨rfl, hb3⟩
        go_wp2
        go_ret2
        exact ⟨ret_sb HP.out.1.symm HP.out.2.symm, HB2.out.trans ((HBW.out.trans (hb3.mono hB)).mono z2)⟩
set_option maxRecDepth 100000 in
theorem specUpperPath (a b : ByteArray) (w : World) (ha : a.size ≤ 1099511627776) (hb : b.size ≤ 1099511627776) :
    Calls Try.prog 16 #[.string a, .string b] w fun e w' => e = .returned (.tuple #[.string (thrP max a b), .bool (thrOk max a b)]) ∧ Below w.heap.size w w' := by
  have HT := Lib.hid (l18HeightsUpperPath a b w ha hb)
  go_enter Try.func16, Try.ntmps16
  go_wp2_with fail
  (with_reducible refine HT.out.mono ?_)
  rintro e w1 ⟨rfl, hb1⟩
  go_wp2
  go_ret2
  exact ⟨rfl, hb1⟩

end Go.Proofs.Ytjjaildejonmfaa
