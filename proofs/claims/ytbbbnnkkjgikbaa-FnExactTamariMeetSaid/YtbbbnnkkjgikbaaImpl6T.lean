/- The methods of the program's trees: texts, paths, mirrors; and the functions that use them. -/
import Derived.Test.YtbbbnnkkjgikbaaImpl6A
import Derived.Deep.RegionHeld3
namespace Go.Proofs.Ytbbbnnkkjgikbaa
open Go.ChangeShapes Go.WideShapes Go.ChangeAt Go.RowKit
open Go.PlainAid (bt bt_nonneg bt_le get_bt bt_end)
set_option linter.unusedVariables false

def fText : Tr → FuncId
  | .leaf => 186
  | .node _ _ => 76
theorem nil_text (t : Tr) (w : World) : (nilAhead 266 (ty t) (body t) "loop.example/g03401/impl.text").run Try.prog w = .ok (some false) w := by cases t <;> kernel_rfl
theorem met_text (t : Tr) (w : World) : (method 266 (ty t) (body t) "loop.example/g03401/impl.text").run Try.prog w = .ok (fText t, body t) w := by cases t <;> kernel_rfl
theorem ent_text (t : Tr) (args : Array Value) (w : World) : (callFunc (fText t) args).run Try.prog w = .ok (.enter (fText t) args) w := by cases t <;> kernel_rfl
def fMirror : Tr → FuncId
  | .leaf => 184
  | .node _ _ => 181
theorem nil_mirror (t : Tr) (w : World) : (nilAhead 266 (ty t) (body t) "loop.example/g03401/impl.mirror").run Try.prog w = .ok (some false) w := by cases t <;> kernel_rfl
theorem met_mirror (t : Tr) (w : World) : (method 266 (ty t) (body t) "loop.example/g03401/impl.mirror").run Try.prog w = .ok (fMirror t, body t) w := by cases t <;> kernel_rfl
theorem ent_mirror (t : Tr) (args : Array Value) (w : World) : (callFunc (fMirror t) args).run Try.prog w = .ok (.enter (fMirror t) args) w := by cases t <;> kernel_rfl

/-- The receiver's cells stand, behind each step of a region. -/
theorem rs_call {w W w' : World} {x y : Value} (hb : Below W.heap.size W w') (h : W.cell? ⟨w.heap.size, 0, none⟩ = some x ∧ W.cell? ⟨w.heap.size, 1, none⟩ = some y ∧ Below w.heap.size w W ∧ w.heap.size < W.heap.size) :
    w'.cell? ⟨w.heap.size, 0, none⟩ = some x ∧ w'.cell? ⟨w.heap.size, 1, none⟩ = some y ∧ Below w.heap.size w w' ∧ w.heap.size < w'.heap.size := by
  obtain ⟨h1, h2, h3, h4⟩ := h
  have := hb.size
  exact ⟨(hb.cell (p := ⟨w.heap.size, 0, none⟩) h4).trans h1, (hb.cell (p := ⟨w.heap.size, 1, none⟩) h4).trans h2, h3.trans (hb.mono h3.size), by omega⟩
theorem rs_drew {w W : World} {x y : Value} (h : W.cell? ⟨w.heap.size, 0, none⟩ = some x ∧ W.cell? ⟨w.heap.size, 1, none⟩ = some y ∧ Below w.heap.size w W ∧ w.heap.size < W.heap.size) :
    W.drew.cell? ⟨w.heap.size, 0, none⟩ = some x ∧ W.drew.cell? ⟨w.heap.size, 1, none⟩ = some y ∧ Below w.heap.size w W.drew ∧ w.heap.size < W.drew.heap.size :=
  ⟨h.1, h.2.1, below_drewN h.2.2.1 1, h.2.2.2⟩
theorem rs_start (w : World) (x y : Value) (t : TypeId) : (w.alloc (.cells #[x, y] t)).cell? ⟨w.heap.size, 0, none⟩ = some x ∧ (w.alloc (.cells #[x, y] t)).cell? ⟨w.heap.size, 1, none⟩ = some y ∧ Below w.heap.size w (w.alloc (.cells #[x, y] t)) ∧ w.heap.size < (w.alloc (.cells #[x, y] t)).heap.size := by
  refine ⟨?_, ?_, (Below.refl _ w).alloc (Nat.le_refl _) _, by simp⟩
  · rw [World.cell?_alloc_at _ _ _ _ rfl]; rfl
  · rw [World.cell?_alloc_at _ _ _ _ rfl]; rfl

set_option maxRecDepth 100000 in
set_option maxHeartbeats 3200000 in
theorem textF : ∀ (t : Tr), nds t ≤ 1000 → ∀ w : World, Calls Try.prog (fText t) #[body t] w fun e w' => e = .returned (.string (baL (sh t))) ∧ Below w.heap.size w w' := by
  intro t
  induction t with
  | leaf =>
    intro _ w
    have hbd := bdLeaf
    have hmk := mkLeaf
    show Calls Try.prog 186 #[.agg #[]] w _
    go_enter Try.func186, Try.ntmps186
    go_wp2
    go_ret
    exact ⟨rfl, (Below.refl _ w).alloc (Nat.le_refl _) _⟩
  | node a b ia ib =>
    intro hn w
    simp only [nds] at hn
    have HA := Lib.hid (ia (by omega))
    have HB := Lib.hid (ib (by omega))
    have HF := Lib.hid (show ((⟨#[40]⟩ ++ baL (sh a)) ++ baL (sh b)) ++ ⟨#[41]⟩ = baL (sh (.node a b)) by
      show ((baL [40] ++ baL (sh a)) ++ baL (sh b)) ++ baL [41] = _
      rw [baL_app, baL_app, baL_app]; congr 1; simp [sh])
    have ya : (baL (sh a)).size = 3 * nds a + 1 := by rw [baL_size, sh_len]
    have yb : (baL (sh b)).size = 3 * nds b + 1 := by rw [baL_size, sh_len]
    have z1 : ¬ 9223372036854775807 < (⟨#[40]⟩ : ByteArray).size + (baL (sh a)).size := by rw [one_size]; omega
    have z2 : ¬ 9223372036854775807 < (⟨#[40]⟩ ++ baL (sh a) : ByteArray).size + (baL (sh b)).size := by rw [ByteArray.size_append, one_size]; omega
    have z3 : ¬ 9223372036854775807 < ((⟨#[40]⟩ ++ baL (sh a)) ++ baL (sh b) : ByteArray).size + (⟨#[41]⟩ : ByteArray).size := by simp only [ByteArray.size_append, one_size]; omega
    have y1 : ¬ 9223372036854775807 < 1 + (baL (sh a)).size := by omega
    have y2 : ¬ 9223372036854775807 < 1 + (baL (sh a)).size + (baL (sh b)).size := by omega
    have y3 : ¬ 9223372036854775807 < 1 + (baL (sh a)).size + (baL (sh b)).size + 1 := by omega
    clear ia ib hn ya yb
    have na := nil_text a
    have nb := nil_text b
    have ma := met_text a
    have mb := met_text b
    have ea := ent_text a
    have eb := ent_text b
    show Calls Try.prog 76 #[.agg #[.iface (ty a) (body a), .iface (ty b) (body b)]] w _
    generalize baL (sh a) = Sa at *
    generalize baL (sh b) = Sb at *
    generalize ty a = Ta at *
    generalize ty b = Tb at *
    generalize body a = Va at *
    generalize body b = Vb at *
    generalize fText a = Fa at *
    generalize fText b = Fb at *
    have HS := Lib.hid (rs_start w (.iface Ta Va) (.iface Tb Vb) 51)
    go_enter Try.func76, Try.ntmps76
    go_wp2
    go_region_held3 (fun w' => w'.cell? ⟨w.heap.size, 0, none⟩ = some (.iface Ta Va) ∧ w'.cell? ⟨w.heap.size, 1, none⟩ = some (.iface Tb Vb) ∧ Below w.heap.size w w' ∧ w.heap.size < w'.heap.size)
      (first | exact HS.out | exact rs_drew (by first | assumption | exact HS.out) | exact rs_call (by assumption) (by first | assumption | exact HS.out | exact rs_drew HS.out | exact rs_drew (by assumption)))
      (first | ((with_reducible refine (HA.out _).mono ?_); rintro e w' ⟨rfl, hb⟩) | ((with_reducible refine (HB.out _).mono ?_); rintro e w' ⟨rfl, hb⟩))
    all_goals go_wp2
    all_goals go_ret
    all_goals exact ⟨ret_str HF.out, (‹_ ∧ _ ∧ Below w.heap.size w _ ∧ _› : _ ∧ _ ∧ _ ∧ _).2.2.1⟩

set_option maxRecDepth 100000 in
set_option maxHeartbeats 3200000 in
theorem mirrorF : ∀ (t : Tr), ∀ w : World, Calls Try.prog (fMirror t) #[body t] w fun e w' => e = .returned (.iface (ty (mi t)) (body (mi t))) ∧ Below w.heap.size w w' := by
  intro t
  induction t with
  | leaf =>
    intro w
    have hbd := bdLeaf
    have hmk := mkLeaf
    show Calls Try.prog 184 #[.agg #[]] w _
    go_enter Try.func184, Try.ntmps184
    go_wp2
    go_ret
    exact ⟨rfl, (Below.refl _ w).alloc (Nat.le_refl _) _⟩
  | node a b ia ib =>
    intro w
    have HA := Lib.hid ia
    have HB := Lib.hid ib
    clear ia ib
    have na := nil_mirror a
    have nb := nil_mirror b
    have ma := met_mirror a
    have mb := met_mirror b
    have ea := ent_mirror a
    have eb := ent_mirror b
    show Calls Try.prog 181 #[.agg #[.iface (ty a) (body a), .iface (ty b) (body b)]] w (fun e w' => e = .returned (.iface 51 (.agg #[.iface (ty (mi b)) (body (mi b)), .iface (ty (mi a)) (body (mi a))])) ∧ Below w.heap.size w w')
    generalize ty (mi a) = Ua at *
    generalize ty (mi b) = Ub at *
    generalize body (mi a) = Xa at *
    generalize body (mi b) = Xb at *
    generalize ty a = Ta at *
    generalize ty b = Tb at *
    generalize body a = Va at *
    generalize body b = Vb at *
    generalize fMirror a = Fa at *
    generalize fMirror b = Fb at *
    have HS := Lib.hid (rs_start w (.iface Ta Va) (.iface Tb Vb) 51)
    go_enter Try.func181, Try.ntmps181
    go_wp2
    go_region_held3 (fun w' => w'.cell? ⟨w.heap.size, 0, none⟩ = some (.iface Ta Va) ∧ w'.cell? ⟨w.heap.size, 1, none⟩ = some (.iface Tb Vb) ∧ Below w.heap.size w w' ∧ w.heap.size < w'.heap.size)
      (first | exact HS.out | exact rs_drew (by first | assumption | exact HS.out) | exact rs_call (by assumption) (by first | assumption | exact HS.out | exact rs_drew HS.out | exact rs_drew (by assumption)))
      (first | ((with_reducible refine (HA.out _).mono ?_); rintro e w' ⟨rfl, hb⟩) | ((with_reducible refine (HB.out _).mono ?_); rintro e w' ⟨rfl, hb⟩))
    all_goals go_wp2
    all_goals go_ret
    all_goals exact ⟨rfl, (‹_ ∧ _ ∧ Below w.heap.size w _ ∧ _› : _ ∧ _ ∧ _ ∧ _).2.2.1⟩

theorem treeOfB (s : ByteArray) (w : World) (hs : s.size ≤ 1099511627776) : Calls Try.prog 64 #[.string s] w fun e w' => ∃ v, e = .returned (.tuple #[v, .bool (binB s)]) ∧ TreeIs s v ∧ Below w.heap.size w w' :=
  (treeOf s w hs).mono fun _ _ ⟨⟨v, he, ht⟩, m, hm⟩ => ⟨v, he, ht, hm ▸ below_drewN (Below.refl _ _) m⟩
theorem asNode (x : Value) (w : World) : (Instr.typeAssert (.iface 51 x) 49 51 true).run Try.prog w = .ok (.tuple #[x, .bool true]) w := by kernel_rfl
theorem asNode_leaf (x : Value) (w : World) : (Instr.typeAssert (.iface 85 x) 49 51 true).run Try.prog w = .ok (.tuple #[.agg #[.nilIface, .nilIface], .bool false]) w := by kernel_rfl
theorem asNode_nil (w : World) : (Instr.typeAssert .nilIface 49 51 true).run Try.prog w = .ok (.tuple #[.agg #[.nilIface, .nilIface], .bool false]) w := by kernel_rfl

set_option maxRecDepth 100000 in
theorem isBinaryI (s : ByteArray) (w : World) (hs : s.size ≤ 1099511627776) : Calls Try.prog 18 #[.string s] w fun e w' => e = .returned (.bool (binB s)) ∧ Below w.heap.size w w' := by
  have HT := Lib.hid (treeOfB s w hs)
  go_enter Try.func18, Try.ntmps18
  go_wp2_with fail
  (with_reducible refine HT.out.mono ?_)
  rintro e w' ⟨v, rfl, ht, hb1⟩
  have HV := Lib.hid ht
  clear ht
  go_wp2
  go_ret
  exact ⟨rfl, hb1⟩

set_option maxRecDepth 100000 in
set_option maxHeartbeats 800000 in
theorem mirrorBinaryI (s : ByteArray) (w : World) (hs : s.size ≤ 1099511627776) : Calls Try.prog 78 #[.string s] w fun e w' => e = .returned (.tuple #[.string (mirBP s), .bool (binB s)]) ∧ Below w.heap.size w w' := by
  have HT := Lib.hid (treeOfB s w hs)
  go_enter Try.func78, Try.ntmps78
  go_wp2_with fail
  (with_reducible refine HT.out.mono ?_)
  rintro e w' ⟨v, rfl, ht, hb1⟩
  have z1 := hb1.size
  rcases ht with ⟨hb, t, hn, es, rfl⟩ | ⟨hb, rfl⟩
  · have HP := Lib.hid (show mirBP s = baL (sh (mi t)) by rw [es]; exact mir_tree t hn)
    have HF := Lib.hid (mirrorF t)
    have HG := Lib.hid (textF (mi t) (by rw [mi_nds]; omega))
    have nb := nil_text (mi t)
    have mb := met_text (mi t)
    have eb := ent_text (mi t)
    have HS := Lib.hid es
    have HB := Lib.hid hb
    have na := nil_mirror t
    have ma := met_mirror t
    have ea := ent_mirror t
    rw [hb]
    clear hb es
    generalize ty (mi t) = Tb at *
    generalize body (mi t) = Vb at *
    generalize fText (mi t) = Fb at *
    generalize ty t = Ta at *
    generalize body t = Va at *
    generalize fMirror t = Fa at *
    go_wp2_with fail
    (with_reducible refine (HF.out _).mono ?_)
    rintro e w2 ⟨rfl, hb2⟩
    have hb3 := hb1.trans (hb2.mono z1)
    have z3 := hb3.size
    go_wp2_with fail
    (with_reducible refine (HG.out _).mono ?_)
    rintro e w3 ⟨rfl, hb4⟩
    have hb5 := hb3.trans (hb4.mono z3)
    go_wp2
    go_ret2
    exact ⟨ret_sb HP.out.symm HB.out.symm, hb5⟩
  · have HP := Lib.hid (show mirBP s = ⟨#[]⟩ from if_neg (by rw [hb]; simp))
    have HB := Lib.hid hb
    rw [hb]
    clear hb
    go_wp2
    go_ret2
    exact ⟨ret_sb HP.out.symm HB.out.symm, hb1⟩

theorem pb_call {w W w' : World} (hb : Below W.heap.size W w') (h : Below w.heap.size w W) : Below w.heap.size w w' := h.trans (hb.mono h.size)
theorem pb_drew {w W : World} (h : Below w.heap.size w W) : Below w.heap.size w W.drew := below_drewN h 1
end Go.Proofs.Ytbbbnnkkjgikbaa
