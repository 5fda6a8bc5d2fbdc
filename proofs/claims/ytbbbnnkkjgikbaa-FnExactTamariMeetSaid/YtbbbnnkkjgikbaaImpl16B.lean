/- The program's rotations: turnedRight, turnedLeft, changeNode, rotate (written by tools/mk16b.py). -/
import Derived.Test.YtbbbnnkkjgikbaaImpl16A
namespace Go.Proofs.Ytbbbnnkkjgikbaa
open Go.ChangeShapes Go.WideShapes Go.ChangeAt Go.RowKit
set_option linter.unusedVariables false

/-- The value of what may be no tree. -/
def ov : Option Tr → Value
  | none => .nilIface
  | some t => .iface (ty t) (body t)
theorem ret_v {a b : Value} (h : a = b) : Ending.returned a = .returned b := by rw [h]
theorem chg_lt {f : Tr → Option Tr} {a b : Tr} {v : Int} (h : v < nds a) : chg f (.node a b) v = (chg f a v).map (fun x => .node x b) := by rw [chg, if_pos h]
theorem chg_gt {f : Tr → Option Tr} {a b : Tr} {v : Int} (h : (nds a : Int) < v) : chg f (.node a b) v = (chg f b (v - nds a - 1)).map (fun x => .node a x) := by rw [chg, if_neg (by omega), if_pos h]
theorem chg_eq {f : Tr → Option Tr} {a b : Tr} {v : Int} (h : v = nds a) : chg f (.node a b) v = f (.node a b) := by rw [chg, if_neg (by omega), if_neg (by omega)]
theorem isNode (t : Tr) : (t = .leaf) ∨ ∃ a b, t = .node a b := by cases t; exact .inl rfl; exact .inr ⟨_, _, rfl⟩

set_option maxRecDepth 100000 in
set_option maxHeartbeats 1600000 in
theorem turnR (a b : Tr) (w : World) : Calls Try.prog 58 #[.agg #[.iface (ty a) (body a), .iface (ty b) (body b)]] w fun e w' => e = .returned (ov (rotR (.node a b))) ∧ Below w.heap.size w w' := by
  have hn1 := asNode
  have hn2 := asNode_leaf
  rcases isNode a with rfl | ⟨c, d, rfl⟩
  · have HR := Lib.hid (show rotR (.node .leaf b) = none from rfl)
    rw [show ty Tr.leaf = 85 from rfl]
    generalize body Tr.leaf = V at *
    generalize ty b = Tb at *
    generalize body b = Vb at *
    go_enter Try.func58, Try.ntmps58
    go_wp2
    go_ret
    rw [HR.out]
    exact ⟨rfl, by repeat (first | exact Below.refl _ _ | refine Below.alloc ?_ (by simp) _)⟩
  · have HR := Lib.hid (show ov (rotR (.node (.node c d) b)) = .iface 51 (.agg #[.iface (ty c) (body c), .iface 51 (.agg #[.iface (ty d) (body d), .iface (ty b) (body b)])]) from rfl)
    rw [show ty (Tr.node c d) = 51 from rfl, show body (Tr.node c d) = .agg #[.iface (ty c) (body c), .iface (ty d) (body d)] from rfl]
    generalize ty b = Tb at *
    generalize body b = Vb at *
    generalize ty c = Tc at *
    generalize body c = Vc at *
    generalize ty d = Td at *
    generalize body d = Vd at *
    go_enter Try.func58, Try.ntmps58
    go_wp2
    all_goals (try (go_quiet (fail)))
    all_goals (try go_wp2)
    all_goals go_ret
    all_goals exact ⟨ret_v HR.out.symm, by repeat (first | exact Below.refl _ _ | exact below_drewN (Below.refl _ _) _ | refine below_drewN ?_ _ | refine Below.alloc ?_ (by simp) _)⟩
set_option maxRecDepth 100000 in
set_option maxHeartbeats 1600000 in
theorem turnL (a b : Tr) (w : World) : Calls Try.prog 63 #[.agg #[.iface (ty a) (body a), .iface (ty b) (body b)]] w fun e w' => e = .returned (ov (rotL (.node a b))) ∧ Below w.heap.size w w' := by
  have hn1 := asNode
  have hn2 := asNode_leaf
  rcases isNode b with rfl | ⟨c, d, rfl⟩
  · have HR := Lib.hid (show rotL (.node a .leaf) = none by cases a <;> rfl)
    rw [show ty Tr.leaf = 85 from rfl]
    generalize body Tr.leaf = V at *
    generalize ty a = Ta at *
    generalize body a = Va at *
    go_enter Try.func63, Try.ntmps63
    go_wp2
    go_ret
    rw [HR.out]
    exact ⟨rfl, by repeat (first | exact Below.refl _ _ | refine Below.alloc ?_ (by simp) _)⟩
  · have HR := Lib.hid (show ov (rotL (.node a (.node c d))) = .iface 51 (.agg #[.iface 51 (.agg #[.iface (ty a) (body a), .iface (ty c) (body c)]), .iface (ty d) (body d)]) by cases a <;> rfl)
    rw [show ty (Tr.node c d) = 51 from rfl, show body (Tr.node c d) = .agg #[.iface (ty c) (body c), .iface (ty d) (body d)] from rfl]
    generalize rotL (Tr.node a (Tr.node c d)) = R at *
    generalize ty a = Ta at *
    generalize body a = Va at *
    generalize ty c = Tc at *
    generalize body c = Vc at *
    generalize ty d = Td at *
    generalize body d = Vd at *
    go_enter Try.func63, Try.ntmps63
    go_wp2
    all_goals (try (go_quiet (fail)))
    all_goals (try go_wp2)
    all_goals go_ret
    all_goals exact ⟨ret_v HR.out.symm, by repeat (first | exact Below.refl _ _ | exact below_drewN (Below.refl _ _) _ | refine below_drewN ?_ _ | refine Below.alloc ?_ (by simp) _)⟩

set_option maxRecDepth 100000 in
set_option maxHeartbeats 3200000 in
theorem changeR : ∀ (t : Tr), nds t ≤ 1000 → ∀ (v : Int), -9223372036854775808 ≤ v → v ≤ 9223372036854775807 → ∀ w : World, Calls Try.prog 90 #[.iface (ty t) (body t), .int .i64 v, .func (.func 58) #[] #[]] w fun e w' => e = .returned (ov (chg rotR t v)) ∧ Below w.heap.size w w' := by
  intro t
  induction t with
  | leaf =>
    intro _ v v0 v1 w
    have hn2 := asNode_leaf
    have HR := Lib.hid (show chg rotR .leaf v = none from rfl)
    rw [show ty Tr.leaf = 85 from rfl]
    generalize body Tr.leaf = V
    go_enter Try.func90, Try.ntmps90
    go_wp2
    go_ret
    rw [HR.out]
    exact ⟨rfl, by repeat (first | exact Below.refl _ _ | refine Below.alloc ?_ (by simp) _)⟩
  | node a b ia ib =>
    intro hn v v0 v1 w
    simp only [nds] at hn
    have hn1 := asNode
    have HL := Lib.hid (fun W => nodesF a (by omega) W)
    have la := nods_len a
    have HT := Lib.hid (fun W => turnR a b W)
    have HTV := Lib.hid (show tv (.node a b) = .iface 51 (.agg #[.iface (ty a) (body a), .iface (ty b) (body b)]) from rfl)
    have HNN := Lib.hid (fun x => show ov (some (Tr.node x b)) = .iface 51 (.agg #[.iface (ty x) (body x), .iface (ty b) (body b)]) from rfl)
    have HNM := Lib.hid (fun x => show ov (some (Tr.node a x)) = .iface 51 (.agg #[.iface (ty a) (body a), .iface (ty x) (body x)]) from rfl)
    have HS := Lib.hid (rs_start w (.iface (ty a) (body a)) (.iface (ty b) (body b)) 51)
    rw [show ty (Tr.node a b) = 51 from rfl, show body (Tr.node a b) = .agg #[.iface (ty a) (body a), .iface (ty b) (body b)] from rfl]
    by_cases p : v < nds a
    · have HC := Lib.hid (chg_lt (f := rotR) (b := b) p)
      have HA := Lib.hid (ia (by omega) v v0 v1)
      have p2 : v < ((nods a).length : Int) := by omega
      have l1 : (nods a).length ≤ 1000 := by omega
      cases hc : chg rotR a v with
      | none =>
        have HC2 := Lib.hid (show chg rotR (.node a b) v = none by rw [HC.out, hc]; rfl)
        rw [hc] at HA
        clear ia ib hc HC HT HNN HNM la hn p
        generalize chg rotR (.node a b) v = R at *
        generalize nods a = la' at *
        generalize ty a = Ta at *
        generalize ty b = Tb at *
        generalize body a = Va at *
        generalize body b = Vb at *
        go_enter Try.func90, Try.ntmps90
        go_wp2_with fail
        (with_reducible refine (HL.out _).mono ?_)
        rintro e w1 ⟨v1', rfl, hrow, hb⟩
        obtain ⟨A1, c1, rfl⟩ := hrow.form
        have HS1 := Lib.hid (rs_call hb HS.out)
        have hc0 := HS1.out.1
        have hc1 := HS1.out.2.1
        clear hrow hb
        go_wp2_with fail
        (with_reducible refine (HA.out _).mono ?_)
        rintro e w2 ⟨rfl, hb2⟩
        rw [show ov none = Value.nilIface from rfl]
        go_wp2
        go_ret
        rw [HC2.out]
        exact ⟨rfl, (rs_call hb2 HS1.out).2.2.1⟩
      | some x =>
        have HC2 := Lib.hid (show ov (chg rotR (.node a b) v) = .iface 51 (.agg #[.iface (ty x) (body x), .iface (ty b) (body b)]) by rw [HC.out, hc]; rfl)
        rw [hc, show ov (some x) = .iface (ty x) (body x) from rfl] at HA
        clear ia ib hc HC HT HNN HNM la hn p
        generalize chg rotR (.node a b) v = R at *
        generalize nods a = la' at *
        generalize ty a = Ta at *
        generalize ty b = Tb at *
        generalize ty x = Tx at *
        generalize body a = Va at *
        generalize body b = Vb at *
        generalize body x = Vx at *
        go_enter Try.func90, Try.ntmps90
        go_wp2_with fail
        (with_reducible refine (HL.out _).mono ?_)
        rintro e w1 ⟨v1', rfl, hrow, hb⟩
        obtain ⟨A1, c1, rfl⟩ := hrow.form
        have HS1 := Lib.hid (rs_call hb HS.out)
        have hc0 := HS1.out.1
        have hc1 := HS1.out.2.1
        clear hrow hb
        go_wp2_with fail
        (with_reducible refine (HA.out _).mono ?_)
        rintro e w2 ⟨rfl, hb2⟩
        have HS2 := Lib.hid (rs_call hb2 HS1.out)
        have hd0 := HS2.out.1
        have hd1 := HS2.out.2.1
        go_wp2
        go_ret
        exact ⟨ret_v HC2.out.symm, HS2.out.2.2.1⟩
    · by_cases q : (nds a : Int) < v
      · have HC := Lib.hid (chg_gt (f := rotR) (b := b) q)
        obtain ⟨k, hk⟩ : ∃ k : Nat, nds a = k := ⟨_, rfl⟩
        have HA := Lib.hid (ib (by omega) (v - nds a - 1) (by omega) (by omega))
        have p2 : ¬ v < ((nods a).length : Int) := by omega
        have q2 : ((nods a).length : Int) < v := by omega
        have l1 : (nods a).length ≤ 1000 := by omega
        have hw1 : IntKind.i64.wrap (v - ((nods a).length : Int)) = v - ((nods a).length : Int) := IntWalk.i64_in _ (by omega)
        have hw2 : IntKind.i64.wrap (v - ((nods a).length : Int) - 1) = v - ((nods a).length : Int) - 1 := IntWalk.i64_in _ (by omega)
        rw [show ((nds a : Int)) = ((nods a).length : Int) by omega] at HC HA
        cases hc : chg rotR b (v - ((nods a).length : Int) - 1) with
        | none =>
          have HC2 := Lib.hid (show chg rotR (.node a b) v = none by rw [HC.out, hc]; rfl)
          rw [hc] at HA
          clear ia ib hc HC HT HNN HNM la hn p q hk
          generalize chg rotR (.node a b) v = R at *
          generalize nods a = la' at *
          generalize ty a = Ta at *
          generalize ty b = Tb at *
          generalize body a = Va at *
          generalize body b = Vb at *
          go_enter Try.func90, Try.ntmps90
          go_wp2_with fail
          (with_reducible refine (HL.out _).mono ?_)
          rintro e w1 ⟨v1', rfl, hrow, hb⟩
          obtain ⟨A1, c1, rfl⟩ := hrow.form
          have HS1 := Lib.hid (rs_call hb HS.out)
          have hc0 := HS1.out.1
          have hc1 := HS1.out.2.1
          clear hrow hb
          go_wp2_with fail
          (with_reducible refine (HA.out _).mono ?_)
          rintro e w2 ⟨rfl, hb2⟩
          rw [show ov none = Value.nilIface from rfl]
          go_wp2
          go_ret
          rw [HC2.out]
          exact ⟨rfl, (rs_call hb2 HS1.out).2.2.1⟩
        | some x =>
          have HC2 := Lib.hid (show ov (chg rotR (.node a b) v) = .iface 51 (.agg #[.iface (ty a) (body a), .iface (ty x) (body x)]) by rw [HC.out, hc]; rfl)
          rw [hc, show ov (some x) = .iface (ty x) (body x) from rfl] at HA
          clear ia ib hc HC HT HNN HNM la hn p q hk
          generalize chg rotR (.node a b) v = R at *
          generalize nods a = la' at *
          generalize ty a = Ta at *
          generalize ty b = Tb at *
          generalize ty x = Tx at *
          generalize body a = Va at *
          generalize body b = Vb at *
          generalize body x = Vx at *
          go_enter Try.func90, Try.ntmps90
          go_wp2_with fail
          (with_reducible refine (HL.out _).mono ?_)
          rintro e w1 ⟨v1', rfl, hrow, hb⟩
          obtain ⟨A1, c1, rfl⟩ := hrow.form
          have HS1 := Lib.hid (rs_call hb HS.out)
          have hc0 := HS1.out.1
          have hc1 := HS1.out.2.1
          clear hrow hb
          go_wp2_with fail
          (with_reducible refine (HA.out _).mono ?_)
          rintro e w2 ⟨rfl, hb2⟩
          have HS2 := Lib.hid (rs_call hb2 HS1.out)
          have hd0 := HS2.out.1
          have hd1 := HS2.out.2.1
          go_wp2
          go_ret
          exact ⟨ret_v HC2.out.symm, HS2.out.2.2.1⟩
      · have HC := Lib.hid (chg_eq (f := rotR) (b := b) (show v = nds a by omega))
        have p2 : ¬ v < ((nods a).length : Int) := by omega
        have q2 : ¬ ((nods a).length : Int) < v := by omega
        have l1 : (nods a).length ≤ 1000 := by omega
        clear ia ib HNN HNM la hn p q
        rw [← HC.out] at HT
        generalize chg rotR (.node a b) v = R at *
        generalize nods a = la' at *
        generalize ty a = Ta at *
        generalize ty b = Tb at *
        generalize body a = Va at *
        generalize body b = Vb at *
        go_enter Try.func90, Try.ntmps90
        go_wp2_with fail
        (with_reducible refine (HL.out _).mono ?_)
        rintro e w1 ⟨v1', rfl, hrow, hb⟩
        obtain ⟨A1, c1, rfl⟩ := hrow.form
        have HS1 := Lib.hid (rs_call hb HS.out)
        have hc0 := HS1.out.1
        have hc1 := HS1.out.2.1
        clear hrow hb
        go_wp2_with fail
        (with_reducible refine (HT.out _).mono ?_)
        rintro e w2 ⟨rfl, hb2⟩
        have HS2 := Lib.hid (rs_call hb2 HS1.out)
        go_wp2
        go_ret
        exact ⟨rfl, HS2.out.2.2.1⟩

set_option maxRecDepth 100000 in
set_option maxHeartbeats 1600000 in
theorem rotateFR (s : ByteArray) (v : Int) (w : World) (hs : s.size ≤ 1099511627776) (v0 : -9223372036854775808 ≤ v) (v1 : v ≤ 9223372036854775807) :
    Calls Try.prog 57 #[.string s, .int .i64 v, .func (.func 58) #[] #[]] w fun e w' => e = .returned (.tuple #[.string (rotP rotR s v), .bool (rotB rotR s v)]) ∧ Below w.heap.size w w' := by
  have HT := Lib.hid (treeOfB s w hs)
  go_enter Try.func57, Try.ntmps57
  go_wp2_with fail
  (with_reducible refine HT.out.mono ?_)
  rintro e w1 ⟨u, rfl, ht, hb1⟩
  have z1 := hb1.size
  rcases ht with ⟨hb, t, hn, es, rfl⟩ | ⟨hb, rfl⟩
  · have HC := Lib.hid (fun W => changeR t (by omega) v v0 v1 W)
    have HO := Lib.hid (show rotO rotR s v = chg rotR t v by rw [es]; exact rotO_sh hn v)
    rw [hb]
    clear hb es
    cases hc : chg rotR t v with
    | none =>
      rw [hc, show ov none = Value.nilIface from rfl] at HC
      have HP := Lib.hid (show rotP rotR s v = ⟨#[]⟩ ∧ rotB rotR s v = false by unfold rotP rotB; rw [HO.out, hc]; exact ⟨rfl, rfl⟩)
      clear HO hc
      generalize ty t = Ta at *
      generalize body t = Va at *
      go_wp2_with fail
      (with_reducible refine (HC.out _).mono ?_)
      rintro e w2 ⟨rfl, hb2⟩
      go_wp2
      go_ret2
      exact ⟨ret_sb HP.out.1.symm HP.out.2.symm, hb1.trans (hb2.mono z1)⟩
    | some x =>
      rw [hc, show ov (some x) = .iface (ty x) (body x) from rfl] at HC
      have HP := Lib.hid (show rotP rotR s v = baL (sh x) ∧ rotB rotR s v = true by unfold rotP rotB; rw [HO.out, hc]; exact ⟨rfl, rfl⟩)
      have hx : nds x ≤ 8 := by rw [chg_nds (f := rotR) (fun t x h => rotR_nds h) t v x hc]; exact hn
      have HX := Lib.hid (textF x (by omega))
      have na := nil_text x
      have ma := met_text x
      have ea := ent_text x
      clear HO hc
      generalize ty x = Tx at *
      generalize body x = Vx at *
      generalize fText x = Fx at *
      generalize ty t = Ta at *
      generalize body t = Va at *
      go_wp2_with fail
      (with_reducible refine (HC.out _).mono ?_)
      rintro e w2 ⟨rfl, hb2⟩
      have HB2 := Lib.hid (hb1.trans (hb2.mono z1))
      have z2 := HB2.out.size
      go_wp2_with fail
      (with_reducible refine (HX.out _).mono ?_)
      rintro e w3 ⟨rfl, hb3⟩
      go_wp2
      go_ret2
      exact ⟨ret_sb HP.out.1.symm HP.out.2.symm, HB2.out.trans (hb3.mono z2)⟩
  · have HP := Lib.hid (show rotP rotR s v = ⟨#[]⟩ ∧ rotB rotR s v = false by unfold rotP rotB; rw [rotO_no hb]; exact ⟨rfl, rfl⟩)
    rw [hb]
    clear hb
    go_wp2
    go_ret2
    exact ⟨ret_sb HP.out.1.symm HP.out.2.symm, hb1⟩

set_option maxRecDepth 100000 in
theorem rotateRI (s : ByteArray) (v : Int) (w : World) (hs : s.size ≤ 1099511627776) (v0 : -9223372036854775808 ≤ v) (v1 : v ≤ 9223372036854775807) :
    Calls Try.prog 14 #[.string s, .int .i64 v] w fun e w' => e = .returned (.tuple #[.string (rotP rotR s v), .bool (rotB rotR s v)]) ∧ Below w.heap.size w w' := by
  have HT := Lib.hid (rotateFR s v w hs v0 v1)
  go_enter Try.func14, Try.ntmps14
  go_wp2_with fail
  (with_reducible refine HT.out.mono ?_)
  rintro e w1 ⟨rfl, hb1⟩
  go_wp2
  go_ret2
  exact ⟨rfl, hb1⟩

set_option maxRecDepth 100000 in
set_option maxHeartbeats 3200000 in
theorem changeL : ∀ (t : Tr), nds t ≤ 1000 → ∀ (v : Int), -9223372036854775808 ≤ v → v ≤ 9223372036854775807 → ∀ w : World, Calls Try.prog 90 #[.iface (ty t) (body t), .int .i64 v, .func (.func 63) #[] #[]] w fun e w' => e = .returned (ov (chg rotL t v)) ∧ Below w.heap.size w w' := by
  intro t
  induction t with
  | leaf =>
    intro _ v v0 v1 w
    have hn2 := asNode_leaf
    have HR := Lib.hid (show chg rotL .leaf v = none from rfl)
    rw [show ty Tr.leaf = 85 from rfl]
    generalize body Tr.leaf = V
    go_enter Try.func90, Try.ntmps90
    go_wp2
    go_ret
    rw [HR.out]
    exact ⟨rfl, by repeat (first | exact Below.refl _ _ | refine Below.alloc ?_ (by simp) _)⟩
  | node a b ia ib =>
    intro hn v v0 v1 w
    simp only [nds] at hn
    have hn1 := asNode
    have HL := Lib.hid (fun W => nodesF a (by omega) W)
    have la := nods_len a
    have HT := Lib.hid (fun W => turnL a b W)
    have HTV := Lib.hid (show tv (.node a b) = .iface 51 (.agg #[.iface (ty a) (body a), .iface (ty b) (body b)]) from rfl)
    have HNN := Lib.hid (fun x => show ov (some (Tr.node x b)) = .iface 51 (.agg #[.iface (ty x) (body x), .iface (ty b) (body b)]) from rfl)
    have HNM := Lib.hid (fun x => show ov (some (Tr.node a x)) = .iface 51 (.agg #[.iface (ty a) (body a), .iface (ty x) (body x)]) from rfl)
    have HS := Lib.hid (rs_start w (.iface (ty a) (body a)) (.iface (ty b) (body b)) 51)
    rw [show ty (Tr.node a b) = 51 from rfl, show body (Tr.node a b) = .agg #[.iface (ty a) (body a), .iface (ty b) (body b)] from rfl]
    by_cases p : v < nds a
    · have HC := Lib.hid (chg_lt (f := rotL) (b := b) p)
      have HA := Lib.hid (ia (by omega) v v0 v1)
      have p2 : v < ((nods a).length : Int) := by omega
      have l1 : (nods a).length ≤ 1000 := by omega
      cases hc : chg rotL a v with
      | none =>
        have HC2 := Lib.hid (show chg rotL (.node a b) v = none by rw [HC.out, hc]; rfl)
        rw [hc] at HA
        clear ia ib hc HC HT HNN HNM la hn p
        generalize chg rotL (.node a b) v = R at *
        generalize nods a = la' at *
        generalize ty a = Ta at *
        generalize ty b = Tb at *
        generalize body a = Va at *
        generalize body b = Vb at *
        go_enter Try.func90, Try.ntmps90
        go_wp2_with fail
        (with_reducible refine (HL.out _).mono ?_)
        rintro e w1 ⟨v1', rfl, hrow, hb⟩
        obtain ⟨A1, c1, rfl⟩ := hrow.form
        have HS1 := Lib.hid (rs_call hb HS.out)
        have hc0 := HS1.out.1
        have hc1 := HS1.out.2.1
        clear hrow hb
        go_wp2_with fail
        (with_reducible refine (HA.out _).mono ?_)
        rintro e w2 ⟨rfl, hb2⟩
        rw [show ov none = Value.nilIface from rfl]
        go_wp2
        go_ret
        rw [HC2.out]
        exact ⟨rfl, (rs_call hb2 HS1.out).2.2.1⟩
      | some x =>
        have HC2 := Lib.hid (show ov (chg rotL (.node a b) v) = .iface 51 (.agg #[.iface (ty x) (body x), .iface (ty b) (body b)]) by rw [HC.out, hc]; rfl)
        rw [hc, show ov (some x) = .iface (ty x) (body x) from rfl] at HA
        clear ia ib hc HC HT HNN HNM la hn p
        generalize chg rotL (.node a b) v = R at *
        generalize nods a = la' at *
        generalize ty a = Ta at *
        generalize ty b = Tb at *
        generalize ty x = Tx at *
        generalize body a = Va at *
        generalize body b = Vb at *
        generalize body x = Vx at *
        go_enter Try.func90, Try.ntmps90
        go_wp2_with fail
        (with_reducible refine (HL.out _).mono ?_)
        rintro e w1 ⟨v1', rfl, hrow, hb⟩
        obtain ⟨A1, c1, rfl⟩ := hrow.form
        have HS1 := Lib.hid (rs_call hb HS.out)
        have hc0 := HS1.out.1
        have hc1 := HS1.out.2.1
        clear hrow hb
        go_wp2_with fail
        (with_reducible refine (HA.out _).mono ?_)
        rintro e w2 ⟨rfl, hb2⟩
        have HS2 := Lib.hid (rs_call hb2 HS1.out)
        have hd0 := HS2.out.1
        have hd1 := HS2.out.2.1
        go_wp2
        go_ret
        exact ⟨ret_v HC2.out.symm, HS2.out.2.2.1⟩
    · by_cases q : (nds a : Int) < v
      · have HC := Lib.hid (chg_gt (f := rotL) (b := b) q)
        obtain ⟨k, hk⟩ : ∃ k : Nat, nds a = k := ⟨_, rfl⟩
        have HA := Lib.hid (ib (by omega) (v - nds a - 1) (by omega) (by omega))
        have p2 : ¬ v < ((nods a).length : Int) := by omega
        have q2 : ((nods a).length : Int) < v := by omega
        have l1 : (nods a).length ≤ 1000 := by omega
        have hw1 : IntKind.i64.wrap (v - ((nods a).length : Int)) = v - ((nods a).length : Int) := IntWalk.i64_in _ (by omega)
        have hw2 : IntKind.i64.wrap (v - ((nods a).length : Int) - 1) = v - ((nods a).length : Int) - 1 := IntWalk.i64_in _ (by omega)
        rw [show ((nds a : Int)) = ((nods a).length : Int) by omega] at HC HA
        cases hc : chg rotL b (v - ((nods a).length : Int) - 1) with
        | none =>
          have HC2 := Lib.hid (show chg rotL (.node a b) v = none by rw [HC.out, hc]; rfl)
          rw [hc] at HA
          clear ia ib hc HC HT HNN HNM la hn p q hk
          generalize chg rotL (.node a b) v = R at *
          generalize nods a = la' at *
          generalize ty a = Ta at *
          generalize ty b = Tb at *
          generalize body a = Va at *
          generalize body b = Vb at *
          go_enter Try.func90, Try.ntmps90
          go_wp2_with fail
          (with_reducible refine (HL.out _).mono ?_)
          rintro e w1 ⟨v1', rfl, hrow, hb⟩
          obtain ⟨A1, c1, rfl⟩ := hrow.form
          have HS1 := Lib.hid (rs_call hb HS.out)
          have hc0 := HS1.out.1
          have hc1 := HS1.out.2.1
          clear hrow hb
          go_wp2_with fail
          (with_reducible refine (HA.out _).mono ?_)
          rintro e w2 ⟨rfl, hb2⟩
          rw [show ov none = Value.nilIface from rfl]
          go_wp2
          go_ret
          rw [HC2.out]
          exact ⟨rfl, (rs_call hb2 HS1.out).2.2.1⟩
        | some x =>
          have HC2 := Lib.hid (show ov (chg rotL (.node a b) v) = .iface 51 (.agg #[.iface (ty a) (body a), .iface (ty x) (body x)]) by rw [HC.out, hc]; rfl)
          rw [hc, show ov (some x) = .iface (ty x) (body x) from rfl] at HA
          clear ia ib hc HC HT HNN HNM la hn p q hk
          generalize chg rotL (.node a b) v = R at *
          generalize nods a = la' at *
          generalize ty a = Ta at *
          generalize ty b = Tb at *
          generalize ty x = Tx at *
          generalize body a = Va at *
          generalize body b = Vb at *
          generalize body x = Vx at *
          go_enter Try.func90, Try.ntmps90
          go_wp2_with fail
          (with_reducible refine (HL.out _).mono ?_)
          rintro e w1 ⟨v1', rfl, hrow, hb⟩
          obtain ⟨A1, c1, rfl⟩ := hrow.form
          have HS1 := Lib.hid (rs_call hb HS.out)
          have hc0 := HS1.out.1
          have hc1 := HS1.out.2.1
          clear hrow hb
          go_wp2_with fail
          (with_reducible refine (HA.out _).mono ?_)
          rintro e w2 ⟨rfl, hb2⟩
          have HS2 := Lib.hid (rs_call hb2 HS1.out)
          have hd0 := HS2.out.1
          have hd1 := HS2.out.2.1
          go_wp2
          go_ret
          exact ⟨ret_v HC2.out.symm, HS2.out.2.2.1⟩
      · have HC := Lib.hid (chg_eq (f := rotL) (b := b) (show v = nds a by omega))
        have p2 : ¬ v < ((nods a).length : Int) := by omega
        have q2 : ¬ ((nods a).length : Int) < v := by omega
        have l1 : (nods a).length ≤ 1000 := by omega
        clear ia ib HNN HNM la hn p q
        rw [← HC.out] at HT
        generalize chg rotL (.node a b) v = R at *
        generalize nods a = la' at *
        generalize ty a = Ta at *
        generalize ty b = Tb at *
        generalize body a = Va at *
        generalize body b = Vb at *
        go_enter Try.func90, Try.ntmps90
        go_wp2_with fail
        (with_reducible refine (HL.out _).mono ?_)
        rintro e w1 ⟨v1', rfl, hrow, hb⟩
        obtain ⟨A1, c1, rfl⟩ := hrow.form
        have HS1 := Lib.hid (rs_call hb HS.out)
        have hc0 := HS1.out.1
        have hc1 := HS1.out.2.1
        clear hrow hb
        go_wp2_with fail
        (with_reducible refine (HT.out _).mono ?_)
        rintro e w2 ⟨rfl, hb2⟩
        have HS2 := Lib.hid (rs_call hb2 HS1.out)
        go_wp2
        go_ret
        exact ⟨rfl, HS2.out.2.2.1⟩

set_option maxRecDepth 100000 in
set_option maxHeartbeats 1600000 in
theorem rotateFL (s : ByteArray) (v : Int) (w : World) (hs : s.size ≤ 1099511627776) (v0 : -9223372036854775808 ≤ v) (v1 : v ≤ 9223372036854775807) :
    Calls Try.prog 57 #[.string s, .int .i64 v, .func (.func 63) #[] #[]] w fun e w' => e = .returned (.tuple #[.string (rotP rotL s v), .bool (rotB rotL s v)]) ∧ Below w.heap.size w w' := by
  have HT := Lib.hid (treeOfB s w hs)
  go_enter Try.func57, Try.ntmps57
  go_wp2_with fail
  (with_reducible refine HT.out.mono ?_)
  rintro e w1 ⟨u, rfl, ht, hb1⟩
  have z1 := hb1.size
  rcases ht with ⟨hb, t, hn, es, rfl⟩ | ⟨hb, rfl⟩
  · have HC := Lib.hid (fun W => changeL t (by omega) v v0 v1 W)
    have HO := Lib.hid (show rotO rotL s v = chg rotL t v by rw [es]; exact rotO_sh hn v)
    rw [hb]
    clear hb es
    cases hc : chg rotL t v with
    | none =>
      rw [hc, show ov none = Value.nilIface from rfl] at HC
      have HP := Lib.hid (show rotP rotL s v = ⟨#[]⟩ ∧ rotB rotL s v = false by unfold rotP rotB; rw [HO.out, hc]; exact ⟨rfl, rfl⟩)
      clear HO hc
      generalize ty t = Ta at *
      generalize body t = Va at *
      go_wp2_with fail
      (with_reducible refine (HC.out _).mono ?_)
      rintro e w2 ⟨rfl, hb2⟩
      go_wp2
      go_ret2
      exact ⟨ret_sb HP.out.1.symm HP.out.2.symm, hb1.trans (hb2.mono z1)⟩
    | some x =>
      rw [hc, show ov (some x) = .iface (ty x) (body x) from rfl] at HC
      have HP := Lib.hid (show rotP rotL s v = baL (sh x) ∧ rotB rotL s v = true by unfold rotP rotB; rw [HO.out, hc]; exact ⟨rfl, rfl⟩)
      have hx : nds x ≤ 8 := by rw [chg_nds (f := rotL) (fun t x h => rotL_nds h) t v x hc]; exact hn
      have HX := Lib.hid (textF x (by omega))
      have na := nil_text x
      have ma := met_text x
      have ea := ent_text x
      clear HO hc
      generalize ty x = Tx at *
      generalize body x = Vx at *
      generalize fText x = Fx at *
      generalize ty t = Ta at *
      generalize body t = Va at *
      go_wp2_with fail
      (with_reducible refine (HC.out _).mono ?_)
      rintro e w2 ⟨rfl, hb2⟩
      have HB2 := Lib.hid (hb1.trans (hb2.mono z1))
      have z2 := HB2.out.size
      go_wp2_with fail
      (with_reducible refine (HX.out _).mono ?_)
      rintro e w3 ⟨rfl, hb3⟩
      go_wp2
      go_ret2
      exact ⟨ret_sb HP.out.1.symm HP.out.2.symm, HB2.out.trans (hb3.mono z2)⟩
  · have HP := Lib.hid (show rotP rotL s v = ⟨#[]⟩ ∧ rotB rotL s v = false by unfold rotP rotB; rw [rotO_no hb]; exact ⟨rfl, rfl⟩)
    rw [hb]
    clear hb
    go_wp2
    go_ret2
    exact ⟨ret_sb HP.out.1.symm HP.out.2.symm, hb1⟩

set_option maxRecDepth 100000 in
theorem rotateLI (s : ByteArray) (v : Int) (w : World) (hs : s.size ≤ 1099511627776) (v0 : -9223372036854775808 ≤ v) (v1 : v ≤ 9223372036854775807) :
    Calls Try.prog 16 #[.string s, .int .i64 v] w fun e w' => e = .returned (.tuple #[.string (rotP rotL s v), .bool (rotB rotL s v)]) ∧ Below w.heap.size w w' := by
  have HT := Lib.hid (rotateFL s v w hs v0 v1)
  go_enter Try.func16, Try.ntmps16
  go_wp2_with fail
  (with_reducible refine HT.out.mono ?_)
  rintro e w1 ⟨rfl, hb1⟩
  go_wp2
  go_ret2
  exact ⟨rfl, hb1⟩

end Go.Proofs.Ytbbbnnkkjgikbaa
