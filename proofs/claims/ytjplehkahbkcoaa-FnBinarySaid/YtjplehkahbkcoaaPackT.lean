/- What the functions of chapter 6 answer for a tree, with letters for the answers. -/
import Derived.Test.YtjplehkahbkcoaaPlainT
import Derived.Test.YtjplehkahbkcoaaDraw6
import Derived.Test.YtjplehkahbkcoaaSame
namespace Go.Proofs.Ytjplehkahbkcoaa
open Go.ChangeShapes Go.WideShapes Go.ChangeAt Go.RowKit
open Go.PlainAid (bt bt_nonneg bt_le get_bt bt_end)
set_option linter.unusedVariables false

/-- In each world the function answers v and changes nothing that was there. -/
def Gv (f : FuncId) (args : Array Value) (v : Value) : Prop := ∀ w : World, Calls Try.prog f args w fun e w' => e = .returned v ∧ Below w.heap.size w w'
theorem Gv.now {f : FuncId} {a : Array Value} {v : Value} (h : Gv f a v) (w : World) : Calls Try.prog f a w fun e w' => e = .returned v ∧ Below w.heap.size w w' := h w
theorem gv_of {f : FuncId} {args : Array Value} {v : Value} (h : ∀ w : World, Calls Try.prog f args w fun e w' => e = .returned v ∧ w = w') : Gv f args v := fun w => (h w).mono fun _ _ h => ⟨h.1, h.2 ▸ Below.refl _ _⟩

/-- What is asked of the program's functions of chapter 6. -/
structure ImplT : Prop where
  path : ∀ s : ByteArray, s.size ≤ 1048576 → Gv 15 #[.string s] (.tuple #[.string (pobiP s), .bool (binB s)])
  isb : ∀ s : ByteArray, s.size ≤ 1048576 → Gv 18 #[.string s] (.bool (binB s))
  lvs : ∀ s : ByteArray, s.size ≤ 1048576 → ∀ w : World, Calls Try.prog 17 #[.string s] w fun e w' => ∃ v, e = .returned v ∧ (OwnI w' w.heap.size w'.heap.size v (lvP s) ∧ Room v (lvP s).length) ∧ Below w.heap.size w w'
  nod : ∀ s : ByteArray, s.size ≤ 1048576 → Gv 21 #[.string s] (.int .i64 (nodesP s))
  hei : ∀ s : ByteArray, s.size ≤ 1048576 → Gv 23 #[.string s] (.int .i64 (heightP s))
  bin : ∀ s : ByteArray, s.size ≤ 1048576 → Gv 25 #[.string s] (.tuple #[.string (boP s), .bool (dyck s)])
  bol : ∀ (A : Option Addr) (xs : List Int) (cap lo hi : Nat) (w : World), OwnI w lo hi (.slice A xs.length cap) xs → xs.length ≤ cap → xs.length ≤ 1048576 → hi ≤ w.heap.size → Calls Try.prog 26 #[.slice A xs.length cap] w fun e w' => e = .returned (.tuple #[.string (bolP xs), .bool (bolOk xs)]) ∧ Below w.heap.size w w'
  mir : ∀ s : ByteArray, s.size ≤ 1048576 → Gv 27 #[.string s] (.tuple #[.string (mirBP s), .bool (binB s)])
  par : ∀ s : ByteArray, s.size ≤ 1048576 → Gv 29 #[.string s] (.tuple #[.string (partA s), .string (partB s), .bool (partOk s)])

theorem pkTree {t : ByteArray} (h : binB t = true) : ∃ (p m : ByteArray) (k : Nat), pobiP t = p ∧ dyck p = true ∧ boP p = t ∧ bolOk (lvP t) = true ∧ bolP (lvP t) = t ∧ mirBP t = m ∧ binB m = true ∧ mirBP m = t ∧ (lvP t).length = k + 1 ∧ nodesP t = k ∧ k ≤ 8 ∧ m.size ≤ 25 ∧ p.size ≤ 16 ∧ (∀ y ∈ lvP t, 0 ≤ y ∧ y ≤ 8) ∧ ((lvP t).map weight).sum = 256 := by
  obtain ⟨T, rfl⟩ := tree_of t.size t (Nat.le_refl _) h
  have h25 := (bin_full h).1
  have hl := sh_len T
  rw [baL_size] at h25
  have hk : nds T ≤ 8 := by omega
  have hz : (baL (sh T)).size = 3 * nds T + 1 := by rw [baL_size, hl]
  have hlv : lvP (baL (sh T)) = lv 0 T := by
    unfold lvP
    rw [if_pos h, baL_list]
    have := llL_tree T 0 []
    rw [List.append_nil] at this
    rw [this, llL_nil, List.append_nil]
  have hp : pobiP (baL (sh T)) = baL (pt T) := by unfold pobiP; rw [if_pos h, path_tree T _ (by omega)]
  have hm : mirBP (baL (sh T)) = baL (sh (mi T)) := by unfold mirBP; rw [if_pos h, mirror_tree T _ (by omega)]
  have hbm := bin_tree (mi T) (by rw [mi_nds]; exact hk)
  have hmz : (baL (sh (mi T))).size = 3 * nds T + 1 := by rw [baL_size, sh_len, mi_nds]
  have hdp := dp_le T
  have hb := bld_tree T 9 0 [] (by omega)
  rw [List.append_nil] at hb
  have hbd := lv_bd T 0
  have hgood : bolGood (lv 0 T) := by
    refine ⟨fun j hj => ?_, by rw [lv_len]; omega, by rw [lv_len]; omega, by rw [hb, lv_len]⟩
    have hmem : (lv 0 T).getD j 0 ∈ lv 0 T := by rw [List.getD_eq_getElem?_getD, List.getElem?_eq_getElem hj]; exact List.getElem_mem hj
    have := hbd _ hmem; omega
  obtain ⟨g1, g2⟩ := bol_yes hgood
  rw [hb] at g2
  refine ⟨baL (pt T), baL (sh (mi T)), nds T, hp, path_dyck_tree T hk, ?_, by rw [hlv]; exact g1, by rw [hlv]; exact g2, hm, hbm, ?_, by rw [hlv, lv_len], ?_, hk, by omega, by rw [baL_size, pt_len]; omega, ?_, ?_⟩
  · unfold boP; rw [if_pos (path_dyck_tree T hk), bin_path T _ (by rw [baL_size, pt_len]; omega)]
  · unfold mirBP; rw [if_pos hbm, mirror_tree (mi T) _ (by rw [hmz, mi_nds]; omega), mi_mi]
  · unfold nodesP; rw [if_pos h, hz]; congr 1; omega
  · intro y hy; rw [hlv] at hy; have := hbd y hy; omega
  · rw [hlv, weigh T 0 (by omega) (by omega)]; decide
/-- A text that has parts is its parts in parentheses. -/
theorem pkParts {a : ByteArray} (h : partOk a = true) : a = ((⟨#[40]⟩ ++ partA a) ++ partB a) ++ ⟨#[41]⟩ := by
  obtain ⟨hb, hne⟩ := of_decide_eq_true h
  obtain ⟨T, rfl⟩ := tree_of a.size a (Nat.le_refl _) hb
  cases T with
  | leaf => exact absurd rfl hne
  | node x y =>
    obtain ⟨e1, e2, e3⟩ := node_parts x y
    have hA : partA (baL (sh (.node x y))) = baL (sh x) := by unfold partA; rw [if_pos ⟨hb, hne⟩, e1]; exact e2
    have hB : partB (baL (sh (.node x y))) = baL (sh y) := by unfold partB; rw [if_pos ⟨hb, hne⟩, e1]; exact e3
    rw [hA, hB]
    show _ = ((baL [40] ++ baL (sh x)) ++ baL (sh y)) ++ baL [41]
    rw [baL_app, baL_app, baL_app]; congr 1; simp [sh]

end Go.Proofs.Ytjplehkahbkcoaa
