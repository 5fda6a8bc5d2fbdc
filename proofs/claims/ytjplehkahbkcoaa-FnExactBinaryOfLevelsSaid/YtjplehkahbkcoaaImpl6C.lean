/- Levels of leaves, heights, numbers of nodes: the program's levels, LeafLevels, HeightOf, NodesOf. -/
import Derived.Test.YtjplehkahbkcoaaImpl6B
import Derived.Test.YtjplehkahbkcoaaSpec6F
import Derived.Deep.AppendLies
import Derived.Lib.Bytealg
import Derived.Deep.RegionHeld3
namespace Go.Proofs.Ytjplehkahbkcoaa
open Go.ChangeShapes Go.WideShapes Go.ChangeAt Go.RowKit
open Go.PlainAid (bt bt_nonneg bt_le get_bt bt_end)
set_option linter.unusedVariables false

def fLevels : Tr → FuncId
  | .leaf => 105
  | .node _ _ => 101
theorem nil_levels (t : Tr) (w : World) : (nilAhead 201 (ty t) (body t) "loop.example/g03401/impl.levels").run Try.prog w = .ok (some false) w := by cases t <;> kernel_rfl
theorem met_levels (t : Tr) (w : World) : (method 201 (ty t) (body t) "loop.example/g03401/impl.levels").run Try.prog w = .ok (fLevels t, body t) w := by cases t <;> kernel_rfl
theorem ent_levels (t : Tr) (args : Array Value) (w : World) : (callFunc (fLevels t) args).run Try.prog w = .ok (.enter (fLevels t) args) w := by cases t <;> kernel_rfl
theorem ownsRow_keepI {w w' : World} {base B n : Nat} {v : Value} {xs : List Value} (h : w.ownsRow base 3 1 v n xs) (hb : Below B w w') (hB : w.heap.size ≤ B) : w'.ownsRow base 3 1 v n xs := by
  obtain ⟨h1, h2⟩ := h
  refine ⟨h1, h2.elim .inl fun ⟨g, cap, cur, e, hg, hh, r⟩ => .inr ⟨g, cap, cur, e, hg, ?_, r⟩⟩
  have : g < w.heap.size := (Array.getElem?_eq_some_iff.1 hh).1
  exact (hb.block g (by omega)).trans hh
theorem ownsRow_low {w : World} {base base' n : Nat} {v : Value} {xs : List Value} (h : w.ownsRow base 3 1 v n xs) (hb : base' ≤ base) : w.ownsRow base' 3 1 v n xs :=
  ⟨h.1, h.2.elim .inl fun ⟨g, cap, cur, e, hg, r⟩ => .inr ⟨g, cap, cur, e, Nat.le_trans hb hg, r⟩⟩
theorem rs_grown {w W w' : World} {x y : Value} {row : Option Nat} (hg : W.grownBy w' row) (hr : ∀ j, row = some j → w.heap.size < j) (h : W.cell? ⟨w.heap.size, 0, none⟩ = some x ∧ W.cell? ⟨w.heap.size, 1, none⟩ = some y ∧ Below w.heap.size w W ∧ w.heap.size < W.heap.size) :
    w'.cell? ⟨w.heap.size, 0, none⟩ = some x ∧ w'.cell? ⟨w.heap.size, 1, none⟩ = some y ∧ Below w.heap.size w w' ∧ w.heap.size < w'.heap.size := by
  obtain ⟨h1, h2, h3, h4⟩ := h
  have hs := hg.size
  have hne : some w.heap.size ≠ row := fun e => Nat.lt_irrefl _ (hr _ e.symm)
  exact ⟨hg.cell h1 hne, hg.cell h2 hne, h3.grown hg (Nat.le_of_lt h4) (fun j hj => Nat.le_of_lt (hr j hj)), by omega⟩
theorem ret_sl {A : Option Addr} {n m cap : Nat} (h : n = m) : Ending.returned (.slice A n cap) = .returned (.slice A m cap) := by rw [h]
theorem lv_ne (t : Tr) (v : Int) : 0 < (lv v t).length := by rw [lv_len]; omega

theorem row_one6 (w : World) (x : Int) : (w.alloc (.cells #[.int .i64 x] 3)).ownsRow w.heap.size 3 1 (.slice (some ⟨w.heap.size, 0, none⟩) 1 1) 1 [.int .i64 x] :=
  ⟨rfl, .inr ⟨w.heap.size, 1, _, rfl, Nat.le_refl _, heap_alloc_new w _, Nat.le_refl _, by decide, rfl, rfl⟩⟩
/-- What levels answers: a new row of the levels. -/
def LvAns (xs : List Int) (w : World) (e : Ending) (w' : World) : Prop :=
  ∃ g cap, e = .returned (.slice (some ⟨g, 0, none⟩) xs.length cap) ∧ w'.ownsRow w.heap.size 3 1 (.slice (some ⟨g, 0, none⟩) xs.length cap) xs.length (xs.map (Value.int .i64)) ∧ Below w.heap.size w w'
/-- One row behind another one, both of this call's own, in a region. -/
theorem stepAppI {w : World} {ops : Array Oper} {o : Oper} {a : Act} {K : Act → World → Prop} {Q : Exit → Act → World → Prop} {E : Prop} (hgd : o.guard = none) (s x : Operand)
    (ho : o.op = .call { callee := .builtin .append, args := #[s, x], argTypes := #[27, 27] })
    (base : Nat) (v : Value) (xs ys : List Int) (hs : a.eval s = v) (hown : w.ownsRow base 3 1 v xs.length (xs.map (Value.int .i64)))
    (base' b c : Nat) (hx : a.eval x = .slice (some ⟨b, 0, none⟩) ys.length c) (hown2 : w.ownsRow base' 3 1 (.slice (some ⟨b, 0, none⟩) ys.length c) ys.length (ys.map (Value.int .i64))) (h0 : 0 < ys.length)
    (hn : xs.length ≤ 1099511627776) (hm : ys.length ≤ 1099511627776) (hbase : base ≤ w.heap.size)
    (h : ∀ g cap w', w'.ownsRow base 3 1 (.slice (some ⟨g, 0, none⟩) (xs.length + ys.length) cap) (xs.length + ys.length) ((xs ++ ys).map (Value.int .i64)) → w.grownBy w' v.ownBlock → K (a.put o.dst (.slice (some ⟨g, 0, none⟩) (xs.length + ys.length) cap)) w') :
    if Region.wanted o (yielded ops a.tmps) = true then Oper.wp Try.prog o a w K Q else E := by
  obtain ⟨i0, hi, hz0, hz1, hz2⟩ := info_parts info3
  refine step_append_lies w hgd s x 27 ho base 3 i0 (.int .i64 0) 1 8 Try.underlying27 hi hz0 hz1 hz2 rfl (by decide) v xs.length _ hs hown ⟨b, 0, none⟩ ys.length c (ys.map (Value.int .i64)) hx (by simp) ?_ ?_ h0 (by unfold maxLen; omega) (by omega) hbase _ rfl ?_
  · exact hown2.cells rfl
  · intro u hu
    obtain ⟨y, -, rfl⟩ := List.mem_map.1 hu
    rfl
  · intro g cap w' h1 h2 _ _
    exact h g cap w' (by simpa using h1) h2

set_option maxRecDepth 100000 in
set_option maxHeartbeats 3200000 in
theorem levelsF : ∀ (t : Tr) (v : Int), 0 ≤ v → v + dp t ≤ 1000 → nds t ≤ 1000 → ∀ w : World, Calls Try.prog (fLevels t) #[body t, .int .i64 v] w (LvAns (lv v t) w) := by
  intro t
  induction t with
  | leaf =>
    intro v h0 hv _ w
    show Calls Try.prog 105 #[.agg #[], .int .i64 v] w (LvAns [v] w)
    have HR := Lib.hid (row_one6 (w.alloc (.cells #[] 75)) v)
    go_enter Try.func105, Try.ntmps105
    go_wp2
    go_ret
    have e : (w.alloc (.cells #[] 75)).heap.size = w.heap.size + 1 := by simp
    have h := HR.out
    rw [e] at h
    exact ⟨_, 1, rfl, ownsRow_low (base := w.heap.size + 1) h (by omega), ((Below.refl _ w).alloc (Nat.le_refl _) _).alloc (by simp) _⟩
  | node a b ia ib =>
    intro v h0 hv hn w
    simp only [nds, dp] at hn hv
    have hvw : IntKind.i64.wrap (v + 1) = v + 1 := IntWalk.i64_in _ (by omega)
    have HA := Lib.hid (ia (v + 1) (by omega) (by omega) (by omega))
    have HB := Lib.hid (ib (v + 1) (by omega) (by omega) (by omega))
    have na := nil_levels a
    have nb := nil_levels b
    have ma := met_levels a
    have mb := met_levels b
    have ea := ent_levels a
    have eb := ent_levels b
    have la := lv_len a (v + 1)
    have lb := lv_len b (v + 1)
    have HL := Lib.hid (show lv v (.node a b) = lv (v + 1) a ++ lv (v + 1) b from rfl)
    clear ia ib
    show Calls Try.prog 101 #[.agg #[.iface (ty a) (body a), .iface (ty b) (body b)], .int .i64 v] w _
    generalize ty a = Ta at *
    generalize ty b = Tb at *
    generalize body a = Va at *
    generalize body b = Vb at *
    generalize fLevels a = Fa at *
    generalize fLevels b = Fb at *
    generalize lv (v + 1) a = xa at *
    generalize lv (v + 1) b = xb at *
    have la1 : xa.length ≤ 1001 := by omega
    have lb1 : xb.length ≤ 1001 := by omega
    have lb0 : 0 < xb.length := by omega
    clear la lb
    have HS := Lib.hid (rs_start w (.iface Ta Va) (.iface Tb Vb) 56)
    go_enter Try.func101, Try.ntmps101
    go_wp2
    go_region_held3 (fun w' => w'.cell? ⟨w.heap.size, 0, none⟩ = some (.iface Ta Va) ∧ w'.cell? ⟨w.heap.size, 1, none⟩ = some (.iface Tb Vb) ∧ Below w.heap.size w w' ∧ w.heap.size < w'.heap.size)
      (first | exact HS.out | exact rs_drew (by first | assumption | exact HS.out) | exact rs_call (by assumption) (by first | assumption | exact HS.out | exact rs_drew HS.out | exact rs_drew (by assumption)) | exact rs_grown (by assumption) (fun j hj => by have := (HOA2.out.lt j hj).1; simp at this; omega) (by first | assumption | exact rs_drew (by assumption)))
      (first | ((with_reducible refine (HA.out _).mono ?_); rintro e w' ⟨ga, ca, rfl, hoa, hb⟩; have hsa := hb.size; have HOA := Lib.hid hoa; clear hoa) | ((with_reducible refine (HB.out _).mono ?_); rintro e w' ⟨gb, cb, rfl, hob, hb⟩; have hsb := hb.size; have HOB := Lib.hid hob; have HOA2 := Lib.hid (ownsRow_keepI HOA.out hb (Nat.le_refl _)); clear hob) | (refine stepAppI rfl _ _ (by rfl) _ _ xa xb (by rfl) HOA2.out _ _ _ (by rfl) HOB.out (by omega) (by omega) (by omega) (Nat.le_trans hsa hsb) ?_; intro g cap w5 hown hgr; have HO5 := Lib.hid hown; clear hown))
    all_goals go_wp2
    all_goals go_ret
    all_goals exact ⟨_, _, ret_sl (by rw [HL.out, List.length_append]), by rw [HL.out, List.length_append]; exact ownsRow_low HO5.out (by simp), (‹_ ∧ _ ∧ Below w.heap.size w _ ∧ _› : _ ∧ _ ∧ _ ∧ _).2.2.1⟩

set_option maxRecDepth 100000 in
set_option maxHeartbeats 800000 in
theorem leafLevelsI (s : ByteArray) (w : World) (hs : s.size ≤ 1099511627776) : Calls Try.prog 17 #[.string s] w fun e w' => ∃ v, e = .returned v ∧ (OwnI w' w.heap.size w'.heap.size v (lvP s) ∧ Room v (lvP s).length) ∧ Below w.heap.size w w' := by
  have HT := Lib.hid (treeOfB s w hs)
  go_enter Try.func17, Try.ntmps17
  go_wp2_with fail
  (with_reducible refine HT.out.mono ?_)
  rintro e w1 ⟨v, rfl, ht, hb1⟩
  have z1 := hb1.size
  rcases ht with ⟨hb, t, hn, es, rfl⟩ | ⟨hb, rfl⟩
  · have hd := dp_le t
    have HP := Lib.hid (show lvP s = lv 0 t by rw [es]; exact lvP_tree t hn)
    have HF := Lib.hid (levelsF t 0 (Int.le_refl _) (by omega) (by omega))
    have HS := Lib.hid es
    have na := nil_levels t
    have ma := met_levels t
    have ea := ent_levels t
    rw [hb]
    clear hb es
    generalize ty t = Ta at *
    generalize body t = Va at *
    generalize fLevels t = Fa at *
    go_wp2_with fail
    (with_reducible refine (HF.out _).mono ?_)
    rintro e w2 ⟨g, cap, rfl, ho, hb2⟩
    have HO := Lib.hid ho
    have HB2 := Lib.hid hb2
    clear ho hb2
    go_wp2
    go_ret
    rw [HP.out]
    exact ⟨_, rfl, ⟨(OwnI.of_row HO.out).wide z1 (Nat.le_refl _), Room.of_row HO.out⟩, hb1.trans (HB2.out.mono z1)⟩
  · have HP := Lib.hid (show lvP s = [] from if_neg (by rw [hb]; simp))
    rw [hb]
    clear hb
    go_wp2
    go_ret
    rw [HP.out]
    exact ⟨_, rfl, ⟨⟨none, 0, rfl, .inl rfl⟩, none, 0, rfl, Nat.le_refl _⟩, hb1⟩

theorem count_sh : ∀ t : Tr, (sh t).count 40 = nds t
  | .leaf => rfl
  | .node a b => by simp only [sh, nds, List.count_cons, List.count_append, count_sh a, count_sh b, List.count_nil]; simp
/-- How many parentheses a text opens. -/
def opens (s : ByteArray) : Int := (s.data.toList.count 40 : Nat)
set_option maxRecDepth 100000 in
set_option maxHeartbeats 800000 in
theorem count_open (s : ByteArray) (w : World) : Calls Try.prog 46 #[.string s, .string ⟨#[40]⟩] w fun e w' => e = .returned (.int .i64 (opens s)) ∧ w = w' := by
  have hc : ∀ w : World, (callFunc 66 #[.string s, .int .u8 (((⟨#[40]⟩ : ByteArray)[0]'(by decide)).toNat : Int)]).run Try.prog w = .ok (.value (.int .i64 (opens s))) w := fun w => by
    rw [run_callFunc_extern Try.func66 (by kernel_rfl) (by kernel_rfl) (by kernel_rfl) (e := Extern.BytealgCount.count) (by kernel_rfl), Lib.run_countString]
    rfl
  go_enter Try.func46, Try.ntmps46
  go_wp2
  go_ret
  exact ⟨rfl, rfl⟩
set_option maxRecDepth 100000 in
set_option maxHeartbeats 800000 in
theorem nodesOfI (s : ByteArray) (w : World) (hs : s.size ≤ 1099511627776) : Calls Try.prog 21 #[.string s] w fun e w' => e = .returned (.int .i64 (nodesP s)) ∧ Below w.heap.size w w' := by
  have HI := Lib.hid (isBinaryI s w hs)
  rcases hb : binB s with _ | _
  · have HP := Lib.hid (show nodesP s = -1 from if_neg (by rw [hb]; simp))
    rw [hb] at HI
    clear hb
    go_enter Try.func21, Try.ntmps21
    go_wp2_with fail
    (with_reducible refine HI.out.mono ?_)
    rintro e w1 ⟨rfl, hb1⟩
    go_wp2
    go_ret
    exact ⟨ret_int HP.out.symm, hb1⟩
  · have HP := Lib.hid (show nodesP s = opens s by
      obtain ⟨t, rfl⟩ := tree_of s.size s (Nat.le_refl _) hb
      unfold opens
      rw [baL_list, count_sh]
      unfold nodesP
      rw [if_pos hb, baL_size, sh_len]
      congr 1; omega)
    have HC := Lib.hid (count_open s)
    rw [hb] at HI
    clear hb
    go_enter Try.func21, Try.ntmps21
    go_wp2_with fail
    (with_reducible refine HI.out.mono ?_)
    rintro e w1 ⟨rfl, hb1⟩
    go_wp2_with fail
    (with_reducible refine (HC.out _).mono ?_)
    rintro e w2 ⟨rfl, rfl⟩
    go_wp2
    go_ret
    exact ⟨ret_int HP.out.symm, hb1⟩

theorem drop_int6 (xs : List Int) (i : Nat) (h : i < xs.length) : xs.drop i = xs.getD i 0 :: xs.drop (i + 1) := by
  rw [List.drop_eq_getElem_cons h, List.getD_eq_getElem?_getD, List.getElem?_eq_getElem h]; rfl
set_option maxRecDepth 100000 in
set_option maxHeartbeats 1600000 in
theorem maxOfI (v : Value) (xs : List Int) (lo hi : Nat) (w : World) (hv : OwnI w lo hi v xs) (h0 : 0 < xs.length) (hl : xs.length ≤ 1099511627776) :
    Calls Try.prog 47 #[v] w fun e w' => e = .returned (.int .i64 (maxL (xs.getD 0 0) (xs.drop 1))) ∧ w = w' := by
  obtain ⟨A1, c1, rfl, k1⟩ := id hv
  clear k1
  have HO := Lib.hid hv
  obtain ⟨g0, p0, e0, -, -, hc0, -⟩ := hv.cell h0
  simp only [Value.slice.injEq] at e0
  obtain ⟨rfl, -, rfl⟩ := e0
  have hl0 : ¬ (xs.length : Int) < 1 := by omega
  have hl1 : (0 : Int) < (xs.length : Int) := by omega
  generalize hx : xs.getD 0 0 = x0 at *
  clear hv hx
  go_enter Try.func47, Try.ntmps47
  go_wp2
  clear hc0
  go_loop [3, 4] (fun x y => ∃ (i : Nat) (n : Int), i ≤ xs.length ∧ y = .int .i64 i ∧ x = .int .i64 n ∧ maxL n (xs.drop i) = maxL x0 (xs.drop 1)) (fun _ y => xs.length - (intOf y).toNat)
  case atStart => exact ⟨1, x0, by omega, rfl, rfl, rfl⟩
  case round =>
    obtain ⟨i, n, hi, rfl, rfl, ha⟩ := hrel
    have HA := Lib.hid ha
    clear ha
    by_cases hlt : i < xs.length
    · have HD := Lib.hid (drop_int6 xs i hlt)
      obtain ⟨g1, p1, e1, -, -, hc1, -⟩ := HO.out.cell hlt
      simp only [Value.slice.injEq] at e1
      obtain ⟨e1, -, -⟩ := e1
      obtain rfl : g0 = g1 := by simpa using e1
      have hii : (i : Int) < (xs.length : Int) := by omega
      generalize xs.getD i 0 = y at hc1 HD
      go_wp2
      refine ⟨⟨i + 1, max n y, by omega, by simp, by rw [show max n y = if n < y then y else n by split <;> omega], ?_⟩, by simp [intOf]; omega⟩
      rw [← HA.out, HD.out]; rfl
    · obtain rfl : i = xs.length := by omega
      go_wp2
      go_ret
      refine ⟨ret_int ?_, rfl⟩
      have h := HA.out
      rw [List.drop_length] at h
      simpa [maxL] using h
theorem height_tree (t : Tr) (h : nds t ≤ 8) : heightP (baL (sh t)) = maxL ((lv 0 t).getD 0 0) ((lv 0 t).drop 1) := by
  unfold heightP
  rw [lvP_tree t h]
  obtain ⟨y, l, e, hy, -⟩ := lv_head t 0
  rw [e]
  show maxL (max (-1) y) l = maxL y l
  rw [show max (-1) y = y by omega]
set_option maxRecDepth 100000 in
set_option maxHeartbeats 800000 in
theorem heightOfI (s : ByteArray) (w : World) (hs : s.size ≤ 1099511627776) : Calls Try.prog 23 #[.string s] w fun e w' => e = .returned (.int .i64 (heightP s)) ∧ Below w.heap.size w w' := by
  have HI := Lib.hid (isBinaryI s w hs)
  have HL := Lib.hid fun W => leafLevelsI s W hs
  rcases hb : binB s with _ | _
  · have HP := Lib.hid (show heightP s = -1 by unfold heightP; rw [show lvP s = [] from if_neg (by rw [hb]; simp)]; rfl)
    rw [hb] at HI
    clear hb
    go_enter Try.func23, Try.ntmps23
    go_wp2_with fail
    (with_reducible refine HI.out.mono ?_)
    rintro e w1 ⟨rfl, hb1⟩
    go_wp2
    go_ret
    exact ⟨ret_int HP.out.symm, hb1⟩
  · obtain ⟨t, ht⟩ := tree_of s.size s (Nat.le_refl _) hb
    have h25 := (bin_full hb).1
    have hn : nds t ≤ 8 := by
      have := congrArg ByteArray.size ht
      rw [baL_size, sh_len] at this; omega
    have HE := Lib.hid (show lvP s = lv 0 t by rw [ht]; exact lvP_tree t hn)
    obtain ⟨M, hM⟩ : ∃ M, M = maxL ((lv 0 t).getD 0 0) ((lv 0 t).drop 1) := ⟨_, rfl⟩
    have HP := Lib.hid (show heightP s = M by rw [ht, hM]; exact height_tree t hn)
    have hlen := lv_len t 0
    rw [hb] at HI
    clear hb ht
    go_enter Try.func23, Try.ntmps23
    go_wp2_with fail
    (with_reducible refine HI.out.mono ?_)
    rintro e w1 ⟨rfl, hb1⟩
    have z1 := hb1.size
    go_wp2_with fail
    (with_reducible refine (HL.out _).mono ?_)
    rintro e w2 ⟨v, rfl, ⟨ho, -⟩, hb2⟩
    rw [HE.out] at ho
    have HM := Lib.hid (maxOfI v (lv 0 t) _ _ w2 ho (by omega) (by omega))
    rw [← hM] at HM
    clear hM
    have HO := Lib.hid ho
    clear ho
    go_wp2_with fail
    (with_reducible refine HM.out.mono ?_)
    rintro e w3 ⟨rfl, rfl⟩
    go_wp2
    go_ret
    exact ⟨ret_int HP.out.symm, hb1.trans (hb2.mono z1)⟩

end Go.Proofs.Ytjplehkahbkcoaa
