/- The program's WeightsOf, RightComb, LeftComb, BinaryOfWeights. -/
import Derived.Test.YtbbbnnkkjgikbaaImpl16C
import Derived.Test.YtbbbnnkkjgikbaaFact16W
import Derived.Test.YtbbbnnkkjgikbaaRepG16
import Derived.Test.YtbbbnnkkjgikbaaSubUp
import Derived.Test.YtbbbnnkkjgikbaaMark2
namespace Go.Proofs.Ytbbbnnkkjgikbaa
open Go.ChangeShapes Go.WideShapes Go.ChangeAt Go.RowKit
set_option linter.unusedVariables false

theorem wts_getI {t : Tr} {k : Nat} (h : k < nds t) : ∃ a b, (nods t).getD k .leaf = .node a b ∧ nds (.node a b) ≤ nds t ∧ (wts t).take (k + 1) = (wts t).take k ++ [(nds b : Int)] := by
  obtain ⟨a, b, e, hl⟩ := nat_node t k (by omega) (by omega)
  refine ⟨a, b, by rw [nods_get h, e], hl, ?_⟩
  have h1 := wts_at t k h
  rw [e] at h1
  rw [List.take_add_one, h1]; rfl
theorem row_room {w : World} {base : Nat} {v : Value} {xs : List Int} (h : w.ownsRow base 3 1 v xs.length (xs.map (Value.int .i64))) : ∃ A c, v = .slice A xs.length c ∧ xs.length ≤ c := by
  rcases h.2 with ⟨rfl, h0⟩ | ⟨g, cap, cur, rfl, -, -, hn, -⟩
  · exact ⟨none, 0, by rw [h0], by omega⟩
  · exact ⟨_, cap, rfl, hn⟩
theorem row_below {w w' : World} {base B n : Nat} {v : Value} {xs : List Value} (h : w.ownsRow base 3 1 v n xs) (hb : Below B w w') (hB : w.heap.size ≤ B) : w'.ownsRow base 3 1 v n xs := by
  obtain ⟨h1, h2⟩ := h
  refine ⟨h1, h2.elim .inl fun ⟨g, cap, cur, e, hg, hh, r⟩ => .inr ⟨g, cap, cur, e, hg, ?_, r⟩⟩
  have : g < w.heap.size := (Array.getElem?_eq_some_iff.1 hh).1
  exact (hb.block g (by omega)).trans hh
set_option maxRecDepth 100000 in
set_option maxHeartbeats 3200000 in
theorem weightsOfIR (s : ByteArray) (w : World) (hs : s.size ≤ 1099511627776) : Calls Try.prog 21 #[.string s] w fun e w' => ∃ v, e = .returned v ∧ (OwnI w' w.heap.size w'.heap.size v (wtsP s) ∧ ∃ A c, v = .slice A (wtsP s).length c ∧ (wtsP s).length ≤ c) ∧ Below w.heap.size w w' := by
  have HT := Lib.hid (treeOfB s w hs)
  have HNI := Lib.hid (fun W => nodesNil W)
  go_enter Try.func21, Try.ntmps21
  go_wp2_with fail
  (with_reducible refine HT.out.mono ?_)
  rintro e w1 ⟨u, rfl, ht, hb1⟩
  have z1 := hb1.size
  rcases ht with ⟨hb, t, hn, es, rfl⟩ | ⟨hb, rfl⟩
  · have HN := Lib.hid (fun W => nodesF t (by omega) W)
    have hln := nods_len t
    have hlw := wts_len t
    have HP := Lib.hid (show wtsP s = wts t by rw [es]; exact wtsP_sh hn)
    have HG := Lib.hid (fun k (h : k < nds t) => wts_getI h)
    rw [hb]
    obtain ⟨n, hnn⟩ : ∃ n, n = nds t := ⟨_, rfl⟩
    rw [← hnn] at HG hln hlw hn
    clear hb es hnn
    generalize wts t = ws at *
    generalize nods t = l at *
    generalize ty t = Ta at *
    generalize body t = Va at *
    go_wp2_with fail
    (with_reducible refine (HN.out _).mono ?_)
    rintro e w2 ⟨v2, rfl, hrow, hb2⟩
    have HB2 := Lib.hid (hb1.trans (hb2.mono z1))
    have z2 := HB2.out.size
    obtain ⟨A2, c2, rfl⟩ := hrow.form
    have HROW := Lib.hid hrow
    have HLN := Lib.hid hln
    rw [hln]
    clear hrow hb2 hb1 hln
    go_wp2
    go_loopw [5, 16] (fun v y wr => ∃ i : Nat, i ≤ n ∧ y = .int .i64 i ∧ wr.ownsRow w2.heap.size 3 1 v i ((ws.take i).map (Value.int .i64)) ∧ Below w2.heap.size w2 wr) (fun _ y _ => n - (intOf y).toNat)
    case atStart => exact ⟨0, Nat.zero_le _, rfl, ⟨by simp, .inl ⟨rfl, rfl⟩⟩, Below.refl _ _⟩
    case round =>
      obtain ⟨i, hi, rfl, hown, hb⟩ := hrel
      have HOWN := Lib.hid hown
      have HB := Lib.hid hb
      have hB := hb.size
      clear hown hb
      by_cases hlt : i < n
      · have hii : (i : Int) < (n : Int) := by omega
        obtain ⟨a, b, en, hl, hL⟩ := HG.out i hlt
        have HL := Lib.hid hL
        obtain ⟨g, cap, e', -, hg, hc0, hc1⟩ := (HROW.out.keep HB.out (Nat.le_refl _)).cell (j := i) (by have := HLN.out; omega)
        simp only [Value.slice.injEq] at e'
        obtain ⟨rfl, -, rfl⟩ := e'
        rw [en] at hc0 hc1
        have hc0' : wr.cell? ⟨g, i * 2, none⟩ = some (.iface (ty a) (body a)) := hc0
        have hc1' : wr.cell? ⟨g, i * 2 + 1, none⟩ = some (.iface (ty b) (body b)) := hc1
        simp only [nds] at hl
        have HNB := Lib.hid (fun W => nodesF b (by omega) W)
        have hlb := nods_len b
        have HLB := Lib.hid hlb
        have hb8 : nds b ≤ 8 := by omega
        clear hc0 hc1 en hl hL hlb
        have HS := Lib.hid (rs_start wr (.iface (ty a) (body a)) (.iface (ty b) (body b)) 51)
        generalize nods b = lb at *
        generalize nds b = nb at *
        generalize ty a = Xa at *
        generalize ty b = Xb at *
        generalize body a = Ya at *
        generalize body b = Yb at *
        go_wp2_with fail
        (with_reducible refine (HNB.out _).mono ?_)
        rintro e w3 ⟨v3, rfl, hrow3, hb3⟩
        obtain ⟨A3, c3, rfl⟩ := hrow3.form
        rw [HLB.out]
        have HS3 := Lib.hid (rs_call hb3 HS.out)
        have HB3 := Lib.hid (HB.out.trans (HS3.out.2.2.1.mono hB))
        have z3 := HB3.out.size
        have HOWN3 := Lib.hid (row_below HOWN.out HS3.out.2.2.1 (Nat.le_refl _))
        clear hrow3 hb3
        go_wp2_with (at_builtin; go_must (refine wpAppInt rfl _ _ rfl w2.heap.size _ _ _ rfl (World.ownsRow.alloc HOWN3.out _) w3.heap.size _ _ rfl (cell_one _ _ _) (by omega) (base_up z3) ?_); intro v' w' hown' hg')
        go_roundw
        case rel => exact ⟨i + 1, by omega, by simp, by rw [HL.out]; exact hown', (HB3.out.alloc z3 _).grown hg' (base_up z3) (fun k hk => (World.ownsRow.lt HOWN3.out k hk).1)⟩
        case measure => simp [intOf]; omega
      · obtain rfl : i = n := by omega
        go_wp2
        go_ret
        refine ⟨_, rfl, ?_, HB2.out.trans (HB.out.mono z2)⟩
        have h := HOWN.out
        rw [List.take_of_length_le (by omega)] at h
        rw [HP.out]; exact ⟨(OwnI.of_row h).wide z2 (Nat.le_refl _), row_room (by rw [show ws.length = i by omega]; exact h)⟩
  · have HP := Lib.hid (wtsP_no hb)
    rw [hb]
    clear hb
    go_wp2_with fail
    (with_reducible refine (HNI.out _).mono ?_)
    rintro e w2 ⟨v2, rfl, hrow, hb2⟩
    have HB2 := Lib.hid (hb1.trans (hb2.mono z1))
    obtain ⟨A2, c2, rfl⟩ := hrow.form
    simp only [List.length_nil]
    clear hrow hb2 hb1
    go_wp2
    go_loop [5, 16] (fun v y => v = .slice none 0 0 ∧ y = .int .i64 0) (fun _ _ => 0)
    case atStart => exact ⟨rfl, rfl⟩
    case round =>
      obtain ⟨rfl, rfl⟩ := hrel
      go_wp2
      go_ret
      exact ⟨_, rfl, by rw [HP.out]; exact ⟨⟨_, _, rfl, .inl rfl⟩, _, _, rfl, Nat.le_refl _⟩, HB2.out⟩

theorem weightsOfI (s : ByteArray) (w : World) (hs : s.size ≤ 1099511627776) : Calls Try.prog 21 #[.string s] w (AnsI (wtsP s) w) :=
  (weightsOfIR s w hs).mono fun _ _ ⟨v, h1, h2, h3⟩ => ⟨v, h1, h2.1, h3⟩

theorem comb_cat (k : Nat) : (repW [40, 46] k ++ ⟨#[46]⟩) ++ repW [41] k = baL (sh (cmb k)) := by
  show (baL (Lib.repeatL [40, 46] k) ++ baL [46]) ++ baL (Lib.repeatL [41] k) = _
  rw [baL_app, baL_app, cmb_sh]; congr 1; simp
theorem repW_size (L : List UInt8) (k : Nat) : (repW L k).size = k * L.length := by
  show (baL (Lib.repeatL L k)).size = _
  rw [baL_size, Lib.repeatL_length]
set_option maxRecDepth 100000 in
set_option maxHeartbeats 800000 in
theorem rightCombI (n : Int) (w : World) : Calls Try.prog 34 #[.int .i64 n] w fun e w' => e = .returned (.tuple #[.string (combP n), .bool (combB n)]) ∧ Below w.heap.size w w' := by
  by_cases hn : 0 ≤ n ∧ n ≤ 8
  · obtain ⟨k, rfl⟩ : ∃ k : Nat, n = k := ⟨n.toNat, by omega⟩
    have hk : k ≤ 8 := by omega
    have hk0 : ¬ (k : Int) < 0 := by omega
    have hk9 : ¬ (8 : Int) < (k : Int) := by omega
    obtain ⟨h1, h2, -⟩ := comb_yes hk
    rw [← comb_cat] at h1
    have HP := Lib.hid (And.intro h1 h2)
    have HA := Lib.hid (fun W => repComb k W hk)
    have HB := Lib.hid (fun W => repClose k W hk)
    have z1 : (repW [40, 46] k).size ≤ 16 := by rw [repW_size]; simp; omega
    have z2 : (repW [41] k).size ≤ 8 := by rw [repW_size]; simp; omega
    clear hn h1 h2
    generalize repW [40, 46] k = SA at *
    generalize repW [41] k = SB at *
    have y1 : ¬ 9223372036854775807 < SA.size + (⟨#[46]⟩ : ByteArray).size := by rw [one_size]; omega
    have y2 : ¬ 9223372036854775807 < (SA ++ ⟨#[46]⟩ : ByteArray).size + SB.size := by rw [ByteArray.size_append, one_size]; omega
    go_enter Try.func34, Try.ntmps34
    go_wp2_with fail
    (with_reducible refine (HA.out _).mono ?_)
    rintro e w1 ⟨rfl, hb1⟩
    have z3 := hb1.size
    go_wp2_with fail
    (with_reducible refine (HB.out _).mono ?_)
    rintro e w2 ⟨rfl, hb2⟩
    go_wp2
    go_ret2
    exact ⟨ret_sb HP.out.1.symm HP.out.2.symm, hb1.trans (hb2.mono z3)⟩
  · obtain ⟨h1, h2, -⟩ := comb_no (n := n) (by omega)
    have HP := Lib.hid (And.intro h1 h2)
    clear h1 h2
    by_cases h0 : n < 0
    · go_enter Try.func34, Try.ntmps34
      go_wp2
      go_ret2
      exact ⟨ret_sb HP.out.1.symm HP.out.2.symm, Below.refl _ _⟩
    · have h9 : (8 : Int) < n := by omega
      clear hn
      go_enter Try.func34, Try.ntmps34
      go_wp2
      go_ret2
      exact ⟨ret_sb HP.out.1.symm HP.out.2.symm, Below.refl _ _⟩
theorem bin_empty : binB ⟨#[]⟩ = false := by
  unfold binB
  have := endP_in ⟨#[]⟩ 0
  rcases this with h | ⟨h1, h2⟩
  · rw [h]; rfl
  · have : (⟨#[]⟩ : ByteArray).size = 0 := rfl
    omega
set_option maxRecDepth 100000 in
theorem leftCombI (n : Int) (w : World) : Calls Try.prog 36 #[.int .i64 n] w fun e w' => e = .returned (.tuple #[.string (lcmP n), .bool (combB n)]) ∧ Below w.heap.size w w' := by
  have HR := Lib.hid (rightCombI n w)
  have HM := Lib.hid (fun W => mirrorBinaryI (combP n) W (by
    by_cases hn : 0 ≤ n ∧ n ≤ 8
    · obtain ⟨k, rfl⟩ : ∃ k : Nat, n = k := ⟨n.toNat, by omega⟩
      rw [(comb_yes (k := k) (by omega)).1, sz_sh, cmb_nds]; omega
    · rw [(comb_no (n := n) (by omega)).1]; show (0 : Nat) ≤ _; omega))
  have HE := Lib.hid (show mirBP (combP n) = lcmP n ∧ binB (combP n) = combB n by
    by_cases hn : 0 ≤ n ∧ n ≤ 8
    · obtain ⟨k, rfl⟩ : ∃ k : Nat, n = k := ⟨n.toNat, by omega⟩
      obtain ⟨h1, h2, h3⟩ := comb_yes (k := k) (by omega)
      rw [h1, h2, h3, mir_tree _ (by rw [cmb_nds]; omega), bin_tree _ (by rw [cmb_nds]; omega)]
      exact ⟨rfl, rfl⟩
    · obtain ⟨h1, h2, h3⟩ := comb_no (n := n) (by omega)
      rw [h1, h2, h3, bin_empty]
      exact ⟨if_neg (by rw [bin_empty]; simp), rfl⟩)
  rw [HE.out.1, HE.out.2] at HM
  generalize combP n = S at *
  go_enter Try.func36, Try.ntmps36
  go_wp2_with fail
  (with_reducible refine HR.out.mono ?_)
  rintro e w1 ⟨rfl, hb1⟩
  have z1 := hb1.size
  go_wp2_with fail
  (with_reducible refine (HM.out _).mono ?_)
  rintro e w2 ⟨rfl, hb2⟩
  go_wp2
  go_ret2
  exact ⟨rfl, hb1.trans (hb2.mono z1)⟩

theorem SubI.keep {w w' : World} {A : Option Addr} {cap : Nat} {xs : List Int} (h : SubI w A cap xs) (hb : Below w.heap.size w w') : SubI w' A cap xs := by
  refine ⟨h.1, fun j hj => ?_⟩
  obtain ⟨g, o, e, hc⟩ := h.2 j hj
  exact ⟨g, o, e, (hb.cell (p := ⟨g, o + j, none⟩) (World.block_lt_of_cell? _ _ hc)).trans hc⟩
/-- What treeOfWeights answers. -/
def TW (xs : List Int) (v : Value) (ok : Bool) : Prop := (ok = true ∧ ∃ t, xs = wts t ∧ v = .iface (ty t) (body t)) ∨ (ok = false ∧ (∀ t, xs ≠ wts t) ∧ (v = .nilIface ∨ ∃ T V, v = .iface T V))
def TWA (xs : List Int) (e : Ending) : Prop := ∃ v ok, e = .returned (.tuple #[v, .bool ok]) ∧ TW xs v ok
theorem ret_vb' {u v : Value} {x y : Bool} (h : u = v) (h' : x = y) : Ending.returned (.tuple #[u, .bool x]) = .returned (.tuple #[v, .bool y]) := by rw [h, h']
theorem mkNode (x : Value) (w : World) : (Instr.makeInterface 51 x).run Try.prog w = .ok (.iface 51 x) w := run_makeInterface w 51 x (by kernel_rfl)
theorem bdNode (x y : Value) (hx : x = .nilIface ∨ ∃ T V, x = .iface T V) (hy : y = .nilIface ∨ ∃ T V, y = .iface T V) (w : World) : (Instr.build 51 #[(0, x), (1, y)]).run Try.prog w = .ok (.agg #[x, y]) w := by
  rcases hx with rfl | ⟨T, V, rfl⟩ <;> rcases hy with rfl | ⟨T', V', rfl⟩ <;> kernel_rfl
set_option maxRecDepth 100000 in
set_option maxHeartbeats 3200000 in
theorem treeOfWeightsF : ∀ (f : Nat) (xs : List Int), xs.length ≤ f → xs.length ≤ 1000 → ∀ (w : World) (A : Option Addr) (cap : Nat), SubI w A cap xs → (∀ y ∈ xs, (Lit.int .i64 y).wf = true) →
    Calls Try.prog 68 #[.slice A xs.length cap] w fun e w' => TWA xs e ∧ w = w' := by
  intro f
  induction f with
  | zero =>
    intro xs h h10 w A cap hv hwf
    obtain rfl : xs = [] := List.eq_nil_of_length_eq_zero (by omega)
    simp only [List.length_nil]
    have hbd := bdLeaf
    have hmk := mkLeaf
    go_enter Try.func68, Try.ntmps68
    go_wp2
    go_ret2
    exact ⟨⟨_, _, rfl, .inl ⟨rfl, .leaf, rfl, rfl⟩⟩, rfl⟩
  | succ f ih =>
    intro xs h h10 w A cap hv hwf
    by_cases h0 : xs.length = 0
    · obtain rfl : xs = [] := List.eq_nil_of_length_eq_zero h0
      simp only [List.length_nil]
      have hbd := bdLeaf
      have hmk := mkLeaf
      clear ih
      go_enter Try.func68, Try.ntmps68
      go_wp2
      go_ret2
      exact ⟨⟨_, _, rfl, .inl ⟨rfl, .leaf, rfl, rfl⟩⟩, rfl⟩
    have HIH := Lib.hid ih
    have HV := Lib.hid hv
    have HWF := Lib.hid hwf
    have hxc := hv.1
    have HFU := Lib.hid h
    obtain ⟨n, hn⟩ : ∃ n, n = xs.length := ⟨_, rfl⟩
    have HN := Lib.hid hn
    rw [← hn]
    have hb0 : ((n : Int) == 0) = false := beq_eq_false_iff_ne.2 (by omega)
    have hn1 : 1 ≤ n := by omega
    have hn10 : n ≤ 1000 := by omega
    clear ih hv hwf h h0 h10 hn
    go_enter Try.func68, Try.ntmps68
    go_wp2
    go_loopw [17] (fun y wr => ∃ i : Nat, i ≤ n ∧ y = .int .i64 i ∧ wr = w ∧ ∀ j, j < i → xs.getD j 0 ≠ (n : Int) - 1 - j) (fun y _ => n - (intOf y).toNat)
    case atStart => exact ⟨0, Nat.zero_le _, rfl, rfl, fun j hj => absurd hj (Nat.not_lt_zero _)⟩
    case round =>
      obtain ⟨i, hi, rfl, rfl, hno⟩ := hrel
      have HNO := Lib.hid hno
      clear hno
      by_cases hlt : i < n
      · have hii : (i : Int) < (n : Int) := by omega
        obtain ⟨g, o, hA, hc⟩ := HV.out.2 i (by have := HN.out; omega)
        have HADD := Lib.hid hA
        have hwx := HWF.out (xs.getD i 0) (by
          have := HN.out
          rw [List.getD_eq_getElem?_getD, List.getElem?_eq_getElem (by omega)]; exact List.getElem_mem _)
        have HX := Lib.hid (show xs.getD i 0 = xs.getD i 0 from rfl)
        obtain ⟨q, hq⟩ : ∃ q : Nat, q = n - 1 - i := ⟨_, rfl⟩
        have g1 : (n : Int) - 1 - (i : Int) = (q : Int) := by omega
        have HQ := Lib.hid (show (q : Int) = (n : Int) - 1 - (i : Int) by omega)
        have hq10 : q ≤ 1000 := by omega
        by_cases e : xs.getD i 0 = (q : Int)
        · have HE := Lib.hid e
          have hsl := fun W => run_upto W A n cap i (by have := HN.out; omega)
          have hsr := fun W => run_from W A n cap (i + 1) (by omega)
          rw [show (((i + 1 : Nat) : Int)) = (i : Int) + 1 by omega] at hsr
          have HL := Lib.hid (HIH.out (xs.take i) (by have := HN.out; have := HFU.out; rw [List.length_take]; omega) (by have := HN.out; rw [List.length_take]; omega) wr A cap (HV.out.upto i (by have := HN.out; omega)) (fun y hy => HWF.out y (List.mem_of_mem_take hy)))
          have HR := Lib.hid (HIH.out (xs.drop (i + 1)) (by have := HN.out; have := HFU.out; rw [List.length_drop]; omega) (by have := HN.out; rw [List.length_drop]; omega) wr _ _ (HV.out.from (i + 1) (by have := HN.out; omega)) (fun y hy => HWF.out y (List.mem_of_mem_drop hy)))
          rw [show (xs.take i).length = i by have := HN.out; rw [List.length_take]; omega] at HL
          rw [show (xs.drop (i + 1)).length = n - (i + 1) by have := HN.out; rw [List.length_drop]; omega] at HR
          have hbeq : (xs.getD i 0 != (q : Int)) = false := by simpa using e
          generalize (if cap = i + 1 then A else A.map (·.add (i + 1))) = A2 at *
          generalize cap - (i + 1) = cap2 at *
          generalize n - (i + 1) = n2 at *
          clear e hq
          generalize hxx : xs.getD i 0 = x at *
          have HXX := Lib.hid hxx
          clear hxx
          subst hA
          go_wp2_with fail
          (with_reducible refine HL.out.mono ?_)
          rintro e w' ⟨⟨vl, okl, rfl, hl⟩, rfl⟩
          go_wp2_with fail
          (with_reducible refine HR.out.mono ?_)
          rintro e w' ⟨⟨vr, okr, rfl, hr⟩, rfl⟩
          have HJ := Lib.hid (fun (a b : Tr) (ha : xs.take i = wts a) (hb : xs.drop (i + 1) = wts b) => wts_join (xs := xs) (i := i) (by have := HN.out; omega) (by rw [HXX.out, HE.out, HQ.out, ← HN.out]) ha hb)
          have HNO2 := Lib.hid (fun (t : Tr) (ht : xs = wts t) => show ∃ a b, t = .node a b ∧ xs.take i = wts a ∧ xs.drop (i + 1) = wts b from by
            cases t with
            | leaf => have h1 := congrArg List.length ht; rw [← HN.out] at h1; simp [wts] at h1; omega
            | node a b =>
              obtain ⟨h1, h2, h3, h4, h5⟩ := wts_first ht
              rw [← HN.out] at h1 h2
              have hia : i = nds a := by
                rcases Nat.lt_trichotomy i (nds a) with hc | hc | hc
                · have h6 := h3 i hc
                  have h7 := HE.out
                  have h8 := HQ.out
                  have h9 := HXX.out
                  rw [← HN.out] at h6
                  omega
                · exact hc
                · exact absurd h2 (HNO.out (nds a) hc)
              refine ⟨a, b, rfl, ?_, ?_⟩
              · rw [hia]; exact h4
              · rw [hia]; exact h5)
          have hmkn := mkNode
          rcases hl with ⟨rfl, a, ha, rfl⟩ | ⟨rfl, hna, hva⟩
          · rcases hr with ⟨rfl, b, hb, rfl⟩ | ⟨rfl, hnb, hvb⟩
            · have HT := Lib.hid (HJ.out a b ha hb)
              have hbd := bdNode (.iface (ty a) (body a)) (.iface (ty b) (body b)) (.inr ⟨_, _, rfl⟩) (.inr ⟨_, _, rfl⟩)
              have HV2 := Lib.hid (show (Value.iface 51 (.agg #[.iface (ty a) (body a), .iface (ty b) (body b)])) = .iface (ty (.node a b)) (body (.node a b)) from rfl)
              clear ha hb
              generalize Tr.node a b = tn at *
              generalize ty a = Ta at *
              generalize ty b = Tb at *
              generalize body a = Va at *
              generalize body b = Vb at *
              go_wp2
              go_ret2
              exact ⟨⟨_, _, rfl, .inl ⟨rfl, _, HT.out, HV2.out⟩⟩, rfl⟩
            · have HT := Lib.hid (show ∀ t, xs ≠ wts t from fun t ht => by
                obtain ⟨a', b', -, -, h5⟩ := HNO2.out t ht
                exact hnb b' h5)
              have hbd := bdNode (.iface (ty a) (body a)) vr (.inr ⟨_, _, rfl⟩) hvb
              have hvb' := hvb
              clear ha hnb hvb
              generalize ty a = Ta at *
              generalize body a = Va at *
              rcases hvb' with rfl | ⟨T2, V2, rfl⟩
              · go_wp2
                go_ret2
                exact ⟨⟨_, _, rfl, .inr ⟨rfl, HT.out, .inr ⟨_, _, rfl⟩⟩⟩, rfl⟩
              · go_wp2
                go_ret2
                exact ⟨⟨_, _, rfl, .inr ⟨rfl, HT.out, .inr ⟨_, _, rfl⟩⟩⟩, rfl⟩
          · have HT := Lib.hid (show ∀ t, xs ≠ wts t from fun t ht => by
              obtain ⟨a', b', -, h4, -⟩ := HNO2.out t ht
              exact hna a' h4)
            have hvr : vr = .nilIface ∨ ∃ T V, vr = .iface T V := by
              rcases hr with ⟨-, b, -, rfl⟩ | ⟨-, -, h⟩
              · exact .inr ⟨_, _, rfl⟩
              · exact h
            have hbd := bdNode vl vr hva hvr
            clear hna hr
            rcases hva with rfl | ⟨T1, V1, rfl⟩ <;> rcases hvr with rfl | ⟨T2, V2, rfl⟩
            all_goals go_wp2
            all_goals go_ret2
            all_goals exact ⟨⟨_, _, rfl, .inr ⟨rfl, HT.out, .inr ⟨_, _, rfl⟩⟩⟩, rfl⟩
        · have hne : (xs.getD i 0 != (q : Int)) = true := by simpa using e
          have HNE := Lib.hid e
          have HSTEP := Lib.hid (show ∀ j, j < i + 1 → xs.getD j 0 ≠ (n : Int) - 1 - j from fun j hj => by
            by_cases ej : j = i
            · subst ej; rw [← HQ.out]; exact HNE.out
            · exact HNO.out j (by omega))
          clear e hq
          generalize xs.getD i 0 = x at *
          go_wp2
          exact ⟨⟨i + 1, by omega, by simp, by first | rfl | trivial, HSTEP.out⟩, by simp [intOf]; omega⟩
      · obtain rfl : i = n := by omega
        go_wp2
        go_ret2
        refine ⟨⟨_, _, rfl, .inr ⟨rfl, ?_, .inl rfl⟩⟩, rfl⟩
        intro t ht
        cases t with
        | leaf => have h1 := congrArg List.length ht; rw [← HN.out] at h1; simp [wts] at h1; omega
        | node a b =>
          obtain ⟨h1, h2, -⟩ := wts_first ht
          rw [← HN.out] at h1 h2
          exact HNO.out (nds a) h1 h2

set_option maxRecDepth 100000 in
set_option maxHeartbeats 800000 in
theorem binaryOfWeightsI (A : Option Addr) (xs : List Int) (cap lo hi : Nat) (w : World) (ho : OwnI w lo hi (.slice A xs.length cap) xs) (hcap : xs.length ≤ cap) (hwf : ∀ y ∈ xs, (Lit.int .i64 y).wf = true) (hl : xs.length ≤ 1048576) :
    Calls Try.prog 25 #[.slice A xs.length cap] w fun e w' => e = .returned (.tuple #[.string (wobP xs), .bool (wobB xs)]) ∧ Below w.heap.size w w' := by
  by_cases h8 : 8 < xs.length
  · have HP := Lib.hid (wobP_no (xs := xs) (.inl h8))
    have h8i : (8 : Int) < (xs.length : Int) := by omega
    clear ho hwf
    go_enter Try.func25, Try.ntmps25
    go_wp2
    go_ret2
    exact ⟨ret_sb HP.out.1.symm HP.out.2.symm, Below.refl _ _⟩
  · have h8i : ¬ (8 : Int) < (xs.length : Int) := by omega
    have HT := Lib.hid (treeOfWeightsF xs.length xs (Nat.le_refl _) (by omega) w A cap (SubI.own ho hcap) hwf)
    clear ho hwf
    go_enter Try.func25, Try.ntmps25
    go_wp2_with fail
    (with_reducible refine HT.out.mono ?_)
    rintro e w1 ⟨⟨v, ok, rfl, hv⟩, rfl⟩
    rcases hv with ⟨rfl, t, ht, rfl⟩ | ⟨rfl, hno, -⟩
    · have hn : nds t ≤ 8 := by rw [← wts_len t, ← ht]; omega
      have HP := Lib.hid (show wobP xs = baL (sh t) ∧ wobB xs = true by rw [ht]; exact wobP_yes hn)
      have HX := Lib.hid (textF t (by omega))
      have na := nil_text t
      have ma := met_text t
      have ea := ent_text t
      clear ht
      generalize ty t = Tx at *
      generalize body t = Vx at *
      generalize fText t = Fx at *
      go_wp2_with fail
      (with_reducible refine (HX.out _).mono ?_)
      rintro e w3 ⟨rfl, hb3⟩
      go_wp2
      go_ret2
      exact ⟨ret_sb HP.out.1.symm HP.out.2.symm, hb3⟩
    · have HP := Lib.hid (wobP_no (xs := xs) (.inr hno))
      clear hno
      go_wp2
      go_ret2
      exact ⟨ret_sb HP.out.1.symm HP.out.2.symm, Below.refl _ _⟩

end Go.Proofs.Ytbbbnnkkjgikbaa
