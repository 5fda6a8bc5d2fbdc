/- The program's NodeAt, rotationsOf, CountRight, NeighboursOf, WeightsOf (written by tools/mk16c.py). -/
import Derived.Test.YtbbbnnkkjgikbaaImpl16B
import Derived.Test.YtbbbnnkkjgikbaaSpec16B
import Derived.Test.YtbbbnnkkjgikbaaStrs
import Derived.Test.YtbbbnnkkjgikbaaLawLists
namespace Go.Proofs.Ytbbbnnkkjgikbaa
open Go.ChangeShapes Go.WideShapes Go.ChangeAt Go.RowKit
set_option linter.unusedVariables false

theorem nods_get {t : Tr} {k : Nat} (h : k < nds t) : (nods t).getD k .leaf = nat' t k := by
  rw [List.getD_eq_getElem?_getD, nods_at t k h]; rfl
set_option maxRecDepth 100000 in
set_option maxHeartbeats 1600000 in
theorem nodeAtI (s : ByteArray) (v : Int) (w : World) (hs : s.size ≤ 1099511627776) :
    Calls Try.prog 31 #[.string s, .int .i64 v] w fun e w' => e = .returned (.tuple #[.string (nodP s v), .bool (nodB s v)]) ∧ Below w.heap.size w w' := by
  have HT := Lib.hid (treeOfB s w hs)
  have HNI := Lib.hid (fun W => nodesNil W)
  go_enter Try.func31, Try.ntmps31
  go_wp2_with fail
  (with_reducible refine HT.out.mono ?_)
  rintro e w1 ⟨u, rfl, ht, hb1⟩
  have z1 := hb1.size
  rcases ht with ⟨hb, t, hn, es, rfl⟩ | ⟨hb, rfl⟩
  · have HN := Lib.hid (fun W => nodesF t (by omega) W)
    have hln := nods_len t
    have hnp : nodesP s = (nds t : Int) := by rw [es]; exact nodes_sh t hn
    rw [hb]
    by_cases hv : 0 ≤ v ∧ v < nds t
    · obtain ⟨j, rfl⟩ : ∃ j : Nat, v = j := ⟨v.toNat, by omega⟩
      have hj : j < nds t := by omega
      obtain ⟨a, b, en, hl⟩ := nat_node t j hv.1 hv.2
      have HP := Lib.hid (show nodP s j = baL (sh (.node a b)) ∧ nodB s j = true by
        rw [es]; unfold nodP nodB; rw [nodO_sh hn, if_pos (by omega), en]; exact ⟨rfl, rfl⟩)
      have hget := nods_get hj
      rw [en] at hget
      have HX := Lib.hid (fun W => textF (.node a b) (by omega) W)
      have hjl : j < (nods t).length := by omega
      have hji : (j : Int) < ((nods t).length : Int) := by omega
      have hl8 : (nods t).length ≤ 8 := by omega
      clear hb es hv en hl hnp hln hj
      generalize nods t = l at *
      generalize ty t = Ta at *
      generalize body t = Va at *
      go_wp2_with fail
      (with_reducible refine (HN.out _).mono ?_)
      rintro e w2 ⟨v2, rfl, hrow, hb2⟩
      have HB2 := Lib.hid (hb1.trans (hb2.mono z1))
      have z2 := HB2.out.size
      obtain ⟨g, cap, rfl, -, hg, hc0, hc1⟩ := hrow.cell hjl
      rw [hget] at hc0 hc1
      have hc0' : w2.cell? ⟨g, j * 2, none⟩ = some (.iface (ty a) (body a)) := hc0
      have hc1' : w2.cell? ⟨g, j * 2 + 1, none⟩ = some (.iface (ty b) (body b)) := hc1
      have HX2 : Hid (∀ W : World, Calls Try.prog 76 #[.agg #[.iface (ty a) (body a), .iface (ty b) (body b)]] W fun e w' => e = .returned (.string (baL (sh (.node a b)))) ∧ Below W.heap.size W w') := HX
      clear hrow hb2 hget hc0 hc1 hb1 HX
      generalize baL (sh (.node a b)) = R at *
      generalize ty a = Xa at *
      generalize ty b = Xb at *
      generalize body a = Ya at *
      generalize body b = Yb at *
      go_wp2_with fail
      (with_reducible refine (HX2.out _).mono ?_)
      rintro e w3 ⟨rfl, hb3⟩
      go_wp2
      go_ret2
      exact ⟨ret_sb HP.out.1.symm HP.out.2.symm, HB2.out.trans (hb3.mono z2)⟩
    · have HP := Lib.hid (nod_out (s := s) (v := v) (by rw [hnp]; omega))
      have hv2 : v < 0 ∨ ((nods t).length : Int) ≤ v := by omega
      clear hb es hv hnp hln
      generalize nods t = l at *
      generalize ty t = Ta at *
      generalize body t = Va at *
      go_wp2_with fail
      (with_reducible refine (HN.out _).mono ?_)
      rintro e w2 ⟨v2, rfl, hrow, hb2⟩
      have HB2 := Lib.hid (hb1.trans (hb2.mono z1))
      obtain ⟨A2, c2, rfl⟩ := hrow.form
      clear hrow hb2 hb1
      rcases hv2 with hv2 | hv2
      · go_wp2
        go_ret2
        exact ⟨ret_sb HP.out.1.symm HP.out.2.symm, HB2.out⟩
      · by_cases h0 : v < 0
        · go_wp2
          go_ret2
          exact ⟨ret_sb HP.out.1.symm HP.out.2.symm, HB2.out⟩
        · go_wp2
          go_ret2
          exact ⟨ret_sb HP.out.1.symm HP.out.2.symm, HB2.out⟩
  · have HP := Lib.hid (nod_out (s := s) (v := v) (by rw [nodes_no hb]; omega))
    rw [hb]
    clear hb
    go_wp2_with fail
    (with_reducible refine (HNI.out _).mono ?_)
    rintro e w2 ⟨v2, rfl, hrow, hb2⟩
    have HB2 := Lib.hid (hb1.trans (hb2.mono z1))
    obtain ⟨A2, c2, rfl⟩ := hrow.form
    simp only [List.length_nil]
    clear hrow hb2 hb1
    by_cases h0 : v < 0
    · go_wp2
      go_ret2
      exact ⟨ret_sb HP.out.1.symm HP.out.2.symm, HB2.out⟩
    · have h00 : (0 : Int) ≤ v := by omega
      go_wp2
      go_ret2
      exact ⟨ret_sb HP.out.1.symm HP.out.2.symm, HB2.out⟩

/-- A row of strings that the call owns. -/
def RowS (w : World) (base : Nat) (v : Value) (xs : List ByteArray) : Prop := w.ownsRow base 9 1 v xs.length (xs.map Value.string)
theorem RowS.keep {w w' : World} {base B : Nat} {v : Value} {xs : List ByteArray} (h : RowS w base v xs) (hb : Below B w w') (hB : w.heap.size ≤ B) : RowS w' base v xs := by
  obtain ⟨h1, h2⟩ := h
  refine ⟨h1, h2.elim .inl fun ⟨g, cap, cur, e, hg, hh, r⟩ => .inr ⟨g, cap, cur, e, hg, ?_, r⟩⟩
  have : g < w.heap.size := (Array.getElem?_eq_some_iff.1 hh).1
  exact (hb.block g (by omega)).trans hh
theorem RowS.low {w : World} {base base' : Nat} {v : Value} {xs : List ByteArray} (h : RowS w base v xs) (hb : base' ≤ base) : RowS w base' v xs :=
  ⟨h.1, h.2.elim .inl fun ⟨g, cap, cur, e, hg, r⟩ => .inr ⟨g, cap, cur, e, Nat.le_trans hb hg, r⟩⟩
theorem RowS.form {w : World} {base : Nat} {v : Value} {xs : List ByteArray} (h : RowS w base v xs) : ∃ A cap, v = .slice A xs.length cap := by
  obtain ⟨-, h⟩ := h
  rcases h with ⟨rfl, h0⟩ | ⟨g, cap, cur, rfl, -⟩
  · exact ⟨none, 0, by rw [h0]⟩
  · exact ⟨_, cap, rfl⟩
theorem RowS.own {w : World} {base : Nat} {v : Value} {xs : List ByteArray} (h : RowS w base v xs) : OwnS w base w.heap.size v xs := OwnS.of_row h
theorem RowS.next {w : World} {base n : Nat} {v : Value} {xs ys : List ByteArray} (h : w.ownsRow base 9 1 v n (ys.map Value.string)) (hn : n = xs.length) (e : ys = xs) : RowS w base v xs := by subst hn; subst e; exact h
theorem RowS.cells {w : World} {base : Nat} {v : Value} {l : List ByteArray} (h : RowS w base v l) : (v = .slice none 0 0 ∧ l = []) ∨ ∃ g cap, v = .slice (some ⟨g, 0, none⟩) l.length cap ∧ base ≤ g ∧ g < w.heap.size ∧ ∀ j u, (l.map Value.string)[j]? = some u → w.cell? (Addr.add ⟨g, 0, none⟩ j) = some u := by
  obtain ⟨hl, h⟩ := h
  rcases h with ⟨rfl, h0⟩ | ⟨g, cap, cur, rfl, hb, hg, hn, hcap, hsz, ht⟩
  · exact .inl ⟨rfl, List.length_eq_zero_iff.1 h0⟩
  · have hlt : g < w.heap.size := (Array.getElem?_eq_some_iff.1 hg).1
    refine .inr ⟨g, cap, rfl, hb, hlt, fun j u hj => ?_⟩
    have hjl : j < l.length * 1 := by
      have := (List.getElem?_eq_some_iff.1 hj).1
      simpa using this
    rw [Addr.add_lit, Nat.zero_add, cell_of_row w g j cur _ (0, 0) hg, ← hj, ← ht, List.getElem?_take, if_pos hjl, Array.getElem?_toList]
/-- A row of strings behind a row of strings of this call's own. -/
theorem wpAppSs {w : World} {ops : Array Oper} {rest : List Oper} {o : Oper} {a : Act} {Q : Exit → Act → World → Prop} (hgd : o.guard = none) (s x : Operand)
    (ho : o.op = .call { callee := .builtin .append, args := #[s, x], argTypes := #[30, 30] })
    (base base' : Nat) (v u : Value) (xs ys : List ByteArray) (hs : a.eval s = v) (hown : RowS w base v xs) (hx : a.eval x = u) (hown2 : RowS w base' u ys)
    (hn : xs.length ≤ 1099511627) (hm : ys.length ≤ 1099511627) (hbase : base ≤ w.heap.size)
    (h : ∀ v' w', RowS w' base v' (xs ++ ys) → Below w.heap.size w w' ∨ w.grownBy w' v.ownBlock → wpList Try.prog ops Q rest (a.put o.dst v') w') : wpList Try.prog ops Q (o :: rest) a w := by
  obtain ⟨i0, hi, hz0, hz1, hz2⟩ := info_parts info9
  rcases hown2.cells with ⟨rfl, rfl⟩ | ⟨g, cap, rfl, -, -, hc⟩
  · refine wpList_append_own_none hgd s x 30 ho base 9 i0 1 Try.underlying30 hi v xs.length _ hs hown hx ?_
    exact h v w (by rw [List.append_nil]; exact hown) (.inl (Below.refl _ _))
  · refine wpList_append_own _ hgd s x 30 ho base 9 i0 (.string ⟨#[]⟩) 1 16 Try.underlying30 hi hz0 hz1 hz2 rfl (by decide) v xs.length _ hs hown ⟨g, 0, none⟩ ys.length cap (ys.map Value.string) hx (by simp) hc ?_ (by unfold maxLen; omega) (by omega) hbase ?_
    · intro u hu
      obtain ⟨y, -, rfl⟩ := List.mem_map.1 hu
      rfl
    · intro v' w' h1 h2 _
      exact h v' w' (by unfold RowS; rw [List.length_append, List.map_append]; exact h1) (.inr h2)
theorem rot_some {f : Tr → Option Tr} {s : ByteArray} {t x : Tr} {v : Int} (e : rotO f s v = chg f t v) (hc : chg f t v = some x) : rotP f s v = baL (sh x) ∧ rotB f s v = true := by unfold rotP rotB; rw [e, hc]; exact ⟨rfl, rfl⟩
theorem rot_none {f : Tr → Option Tr} {s : ByteArray} {t : Tr} {v : Int} (e : rotO f s v = chg f t v) (hc : chg f t v = none) : rotP f s v = ⟨#[]⟩ ∧ rotB f s v = false := by unfold rotP rotB; rw [e, hc]; exact ⟨rfl, rfl⟩

set_option maxRecDepth 100000 in
set_option maxHeartbeats 1600000 in
theorem rotationsR (s : ByteArray) (w : World) (hs : s.size ≤ 1099511627776) :
    Calls Try.prog 66 #[.string s, .func (.func 14) #[] #[]] w fun e w' => ∃ v, e = .returned v ∧ RowS w' w.heap.size v (rotsP rotR s) ∧ Below w.heap.size w w' := by
  have HN := Lib.hid (nodesOfI s w hs)
  rcases hb : binB s with _ | _
  · have HP := Lib.hid (rots_no (f := rotR) hb)
    rw [nodes_no hb] at HN
    clear hb
    go_enter Try.func66, Try.ntmps66
    go_wp2_with fail
    (with_reducible refine HN.out.mono ?_)
    rintro e w1 ⟨rfl, hb1⟩
    go_wp2
    go_loop [5, 11] (fun v y => v = .slice none 0 0 ∧ y = .int .i64 0) (fun _ _ => 0)
    case atStart => exact ⟨rfl, rfl⟩
    case round =>
      obtain ⟨rfl, rfl⟩ := hrel
      go_wp2
      go_ret
      exact ⟨_, rfl, by rw [HP.out]; exact ⟨rfl, .inl ⟨rfl, rfl⟩⟩, hb1⟩
  · obtain ⟨t, es, hn, -⟩ := par_yes hb
    have HP := Lib.hid (show rotsP rotR s = chgL rotR t (nds t) by rw [es]; exact rots_sh hn)
    have HO := Lib.hid (fun v => show rotO rotR s v = chg rotR t v by rw [es]; exact rotO_sh hn v)
    rw [es, nodes_sh t hn, ← es] at HN
    have HRO := Lib.hid (fun v W h0 h1 => rotateRI s v W hs h0 h1)
    have HLE := Lib.hid (chgL_le rotR t)
    have HSO := Lib.hid (fun k x => chgL_some (f := rotR) (t := t) (x := x) (k := k))
    have HNO := Lib.hid (fun k => chgL_none (f := rotR) (t := t) (k := k))
    clear hb es
    obtain ⟨n, hnn⟩ : ∃ n, n = nds t := ⟨_, rfl⟩
    rw [← hnn] at HP HN hn
    clear hnn
    go_enter Try.func66, Try.ntmps66
    go_wp2_with fail
    (with_reducible refine HN.out.mono ?_)
    rintro e w1 ⟨rfl, hb1⟩
    have HB1 := Lib.hid hb1
    clear hb1
    go_wp2
    go_loopw [5, 11] (fun v y wr => ∃ i : Nat, i ≤ n ∧ y = .int .i64 i ∧ RowS wr w.heap.size v (chgL rotR t i) ∧ Below w.heap.size w wr) (fun _ y _ => n - (intOf y).toNat)
    case atStart => exact ⟨0, Nat.zero_le _, rfl, ⟨rfl, .inl ⟨rfl, rfl⟩⟩, HB1.out⟩
    case round =>
      obtain ⟨i, hi, rfl, hrow, hb⟩ := hrel
      have HROW := Lib.hid hrow
      have HB := Lib.hid hb
      have hB := hb.size
      clear hrow hb
      by_cases hlt : i < n
      · have hii : (i : Int) < (n : Int) := by omega
        have hle := HLE.out i
        have HR := Lib.hid (fun W => HRO.out (i : Int) W (by omega) (by omega))
        cases hc : chg rotR t i with
        | none =>
          obtain ⟨e1, e2⟩ := rot_none (HO.out i) hc
          have HL := Lib.hid (HNO.out i hc)
          rw [e1, e2] at HR
          clear e1 e2 hc
          go_wp2_with fail
          (with_reducible refine (HR.out _).mono ?_)
          rintro e w2 ⟨rfl, hb2⟩
          go_wp2
          exact ⟨⟨i + 1, by omega, by simp, by rw [HL.out]; exact HROW.out.keep hb2 (Nat.le_refl _), HB.out.trans (hb2.mono hB)⟩, by simp [intOf]; omega⟩
        | some x =>
          obtain ⟨e1, e2⟩ := rot_some (HO.out i) hc
          have HL := Lib.hid (HSO.out i x hc)
          rw [e1, e2] at HR
          clear e1 e2 hc
          generalize baL (sh x) = S at *
          go_wp2_with fail
          (with_reducible refine (HR.out _).mono ?_)
          rintro e w2 ⟨rfl, hb2⟩
          have HROW2 := Lib.hid (HROW.out.keep hb2 (Nat.le_refl _))
          have HB2 := Lib.hid (HB.out.trans (hb2.mono hB))
          have z2 := HB2.out.size
          clear hb2
          go_wp2_with (at_builtin; go_must (refine wpAppStr rfl _ _ rfl w.heap.size _ _ _ rfl (World.ownsRow.alloc HROW2.out _) w2.heap.size _ _ rfl (cell_one _ _ _) (by omega) (base_up z2) ?_); intro v' w' hown' hg')
          go_roundw
          case rel => exact ⟨i + 1, by omega, by simp, RowS.next hown' (by rw [HL.out]; simp) HL.out.symm, (HB2.out.alloc z2 _).grown hg' (base_up z2) (fun k hk => (World.ownsRow.lt HROW2.out k hk).1)⟩
          case measure => simp [intOf]; omega
      · obtain rfl : i = n := by omega
        go_wp2
        go_ret
        exact ⟨_, rfl, by rw [HP.out]; exact HROW.out, HB.out⟩

set_option maxRecDepth 100000 in
set_option maxHeartbeats 1600000 in
theorem rotationsL (s : ByteArray) (w : World) (hs : s.size ≤ 1099511627776) :
    Calls Try.prog 66 #[.string s, .func (.func 16) #[] #[]] w fun e w' => ∃ v, e = .returned v ∧ RowS w' w.heap.size v (rotsP rotL s) ∧ Below w.heap.size w w' := by
  have HN := Lib.hid (nodesOfI s w hs)
  rcases hb : binB s with _ | _
  · have HP := Lib.hid (rots_no (f := rotL) hb)
    rw [nodes_no hb] at HN
    clear hb
    go_enter Try.func66, Try.ntmps66
    go_wp2_with fail
    (with_reducible refine HN.out.mono ?_)
    rintro e w1 ⟨rfl, hb1⟩
    go_wp2
    go_loop [5, 11] (fun v y => v = .slice none 0 0 ∧ y = .int .i64 0) (fun _ _ => 0)
    case atStart => exact ⟨rfl, rfl⟩
    case round =>
      obtain ⟨rfl, rfl⟩ := hrel
      go_wp2
      go_ret
      exact ⟨_, rfl, by rw [HP.out]; exact ⟨rfl, .inl ⟨rfl, rfl⟩⟩, hb1⟩
  · obtain ⟨t, es, hn, -⟩ := par_yes hb
    have HP := Lib.hid (show rotsP rotL s = chgL rotL t (nds t) by rw [es]; exact rots_sh hn)
    have HO := Lib.hid (fun v => show rotO rotL s v = chg rotL t v by rw [es]; exact rotO_sh hn v)
    rw [es, nodes_sh t hn, ← es] at HN
    have HRO := Lib.hid (fun v W h0 h1 => rotateLI s v W hs h0 h1)
    have HLE := Lib.hid (chgL_le rotL t)
    have HSO := Lib.hid (fun k x => chgL_some (f := rotL) (t := t) (x := x) (k := k))
    have HNO := Lib.hid (fun k => chgL_none (f := rotL) (t := t) (k := k))
    clear hb es
    obtain ⟨n, hnn⟩ : ∃ n, n = nds t := ⟨_, rfl⟩
    rw [← hnn] at HP HN hn
    clear hnn
    go_enter Try.func66, Try.ntmps66
    go_wp2_with fail
    (with_reducible refine HN.out.mono ?_)
    rintro e w1 ⟨rfl, hb1⟩
    have HB1 := Lib.hid hb1
    clear hb1
    go_wp2
    go_loopw [5, 11] (fun v y wr => ∃ i : Nat, i ≤ n ∧ y = .int .i64 i ∧ RowS wr w.heap.size v (chgL rotL t i) ∧ Below w.heap.size w wr) (fun _ y _ => n - (intOf y).toNat)
    case atStart => exact ⟨0, Nat.zero_le _, rfl, ⟨rfl, .inl ⟨rfl, rfl⟩⟩, HB1.out⟩
    case round =>
      obtain ⟨i, hi, rfl, hrow, hb⟩ := hrel
      have HROW := Lib.hid hrow
      have HB := Lib.hid hb
      have hB := hb.size
      clear hrow hb
      by_cases hlt : i < n
      · have hii : (i : Int) < (n : Int) := by omega
        have hle := HLE.out i
        have HR := Lib.hid (fun W => HRO.out (i : Int) W (by omega) (by omega))
        cases hc : chg rotL t i with
        | none =>
          obtain ⟨e1, e2⟩ := rot_none (HO.out i) hc
          have HL := Lib.hid (HNO.out i hc)
          rw [e1, e2] at HR
          clear e1 e2 hc
          go_wp2_with fail
          (with_reducible refine (HR.out _).mono ?_)
          rintro e w2 ⟨rfl, hb2⟩
          go_wp2
          exact ⟨⟨i + 1, by omega, by simp, by rw [HL.out]; exact HROW.out.keep hb2 (Nat.le_refl _), HB.out.trans (hb2.mono hB)⟩, by simp [intOf]; omega⟩
        | some x =>
          obtain ⟨e1, e2⟩ := rot_some (HO.out i) hc
          have HL := Lib.hid (HSO.out i x hc)
          rw [e1, e2] at HR
          clear e1 e2 hc
          generalize baL (sh x) = S at *
          go_wp2_with fail
          (with_reducible refine (HR.out _).mono ?_)
          rintro e w2 ⟨rfl, hb2⟩
          have HROW2 := Lib.hid (HROW.out.keep hb2 (Nat.le_refl _))
          have HB2 := Lib.hid (HB.out.trans (hb2.mono hB))
          have z2 := HB2.out.size
          clear hb2
          go_wp2_with (at_builtin; go_must (refine wpAppStr rfl _ _ rfl w.heap.size _ _ _ rfl (World.ownsRow.alloc HROW2.out _) w2.heap.size _ _ rfl (cell_one _ _ _) (by omega) (base_up z2) ?_); intro v' w' hown' hg')
          go_roundw
          case rel => exact ⟨i + 1, by omega, by simp, RowS.next hown' (by rw [HL.out]; simp) HL.out.symm, (HB2.out.alloc z2 _).grown hg' (base_up z2) (fun k hk => (World.ownsRow.lt HROW2.out k hk).1)⟩
          case measure => simp [intOf]; omega
      · obtain rfl : i = n := by omega
        go_wp2
        go_ret
        exact ⟨_, rfl, by rw [HP.out]; exact HROW.out, HB.out⟩

set_option maxRecDepth 100000 in
theorem countRightI (s : ByteArray) (w : World) (hs : s.size ≤ 1099511627776) : Calls Try.prog 27 #[.string s] w fun e w' => e = .returned (.int .i64 (cntP s)) ∧ Below w.heap.size w w' := by
  have HI := Lib.hid (isBinaryI s w hs)
  have HR := Lib.hid (fun W => rotationsR s W hs)
  rcases hb : binB s with _ | _
  · have HP := Lib.hid (show cntP s = -1 from if_neg (by rw [hb]; simp))
    rw [hb] at HI
    clear hb
    go_enter Try.func27, Try.ntmps27
    go_wp2_with fail
    (with_reducible refine HI.out.mono ?_)
    rintro e w1 ⟨rfl, hb1⟩
    go_wp2
    go_ret
    exact ⟨ret_int HP.out.symm, hb1⟩
  · have HP := Lib.hid (show cntP s = (((rotsP rotR s).length : Nat) : Int) from if_pos hb)
    rw [hb] at HI
    clear hb
    generalize rotsP rotR s = l at *
    go_enter Try.func27, Try.ntmps27
    go_wp2_with fail
    (with_reducible refine HI.out.mono ?_)
    rintro e w1 ⟨rfl, hb1⟩
    have z1 := hb1.size
    go_wp2_with fail
    (with_reducible refine (HR.out _).mono ?_)
    rintro e w2 ⟨v, rfl, hrow, hb2⟩
    obtain ⟨A2, c2, rfl⟩ := hrow.form
    go_wp2
    go_ret
    exact ⟨ret_int HP.out.symm, hb1.trans (hb2.mono z1)⟩
theorem rots_le (f : Tr → Option Tr) (s : ByteArray) : (rotsP f s).length ≤ 8 := by
  rcases hb : binB s with _ | _
  · rw [rots_no hb]; simp
  · obtain ⟨t, rfl, hn, -⟩ := par_yes hb
    rw [rots_sh hn]
    have := chgL_le f t (nds t); omega
set_option maxRecDepth 100000 in
set_option maxHeartbeats 800000 in
theorem neighboursOfI (s : ByteArray) (w : World) (hs : s.size ≤ 1099511627776) : Calls Try.prog 20 #[.string s] w (AnsS (neiP s) w) := by
  have HR := Lib.hid (fun W => rotationsR s W hs)
  have HL := Lib.hid (fun W => rotationsL s W hs)
  have hl1 := rots_le rotR s
  have hl2 := rots_le rotL s
  have HP := Lib.hid (show neiP s = rotsP rotR s ++ rotsP rotL s from rfl)
  generalize rotsP rotR s = xs at *
  generalize rotsP rotL s = ys at *
  go_enter Try.func20, Try.ntmps20
  go_wp2_with fail
  (with_reducible refine (HR.out _).mono ?_)
  rintro e w1 ⟨v1, rfl, hrow1, hb1⟩
  have HB1 := Lib.hid hb1
  have z1 := hb1.size
  have HR1 := Lib.hid hrow1
  clear hb1 hrow1
  go_wp2_with fail
  (with_reducible refine (HL.out _).mono ?_)
  rintro e w2 ⟨v2, rfl, hrow2, hb2⟩
  have HR2 := Lib.hid (HR1.out.keep hb2 (Nat.le_refl _))
  have HR3 := Lib.hid hrow2
  have HB2 := Lib.hid (HB1.out.trans (hb2.mono z1))
  have z2 := HB2.out.size
  clear hb2 hrow2
  go_wp2_with (at_builtin; go_must (refine wpAppSs rfl _ _ rfl w.heap.size w1.heap.size v1 v2 xs ys rfl HR2.out rfl HR3.out (by omega) (by omega) z2 ?_); intro v3 w3 hown3 hg3)
  go_ret
  refine ⟨v3, rfl, ?_, ?_⟩
  · rw [HP.out]; exact hown3.own
  · rcases hg3 with hg3 | hg3
    · exact HB2.out.trans (hg3.mono z2)
    · exact HB2.out.grown hg3 z2 (fun k hk => (World.ownsRow.lt HR2.out k hk).1)

end Go.Proofs.Ytbbbnnkkjgikbaa
