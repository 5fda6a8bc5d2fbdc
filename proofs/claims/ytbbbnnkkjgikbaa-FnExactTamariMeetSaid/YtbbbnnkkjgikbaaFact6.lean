/- Facts of trees, of their texts, of the levels of their leaves and of paths, that the program's functions need. -/
import Derived.Test.YtbbbnnkkjgikbaaPlainT
namespace Go.Proofs.Ytbbbnnkkjgikbaa
open Go.ChangeShapes Go.WideShapes Go.ChangeAt Go.RowKit
open Go.PlainAid (bt bt_nonneg bt_le get_bt bt_end)
set_option linter.unusedVariables false

/-- No text of a tree begins another one. -/
theorem sh_free : ∀ (a b : Tr) (r q : List UInt8), sh a ++ r = sh b ++ q → a = b ∧ r = q := by
  intro a
  induction a with
  | leaf =>
    intro b r q h
    cases b with
    | leaf => simp [sh] at h; exact ⟨rfl, h⟩
    | node x y => simp [sh] at h
  | node x y ix iy =>
    intro b r q h
    cases b with
    | leaf => simp [sh] at h
    | node x' y' =>
      have h' : sh x ++ (sh y ++ (41 :: r)) = sh x' ++ (sh y' ++ (41 :: q)) := by simpa [sh] using h
      obtain ⟨rfl, h2⟩ := ix _ _ _ h'
      obtain ⟨rfl, h3⟩ := iy _ _ _ h2
      exact ⟨rfl, by simpa using h3⟩
theorem sh_node (a b : Tr) (r : List UInt8) : sh (.node a b) ++ r = 40 :: (sh a ++ (sh b ++ (41 :: r))) := by simp [sh]
/-- No levels of a tree begin those of another one. -/
theorem lv_head (t : Tr) (v : Int) : ∃ y l, lv v t = y :: l ∧ v ≤ y ∧ (y = v → t = .leaf) := by
  induction t generalizing v with
  | leaf => exact ⟨v, [], rfl, Int.le_refl _, fun _ => rfl⟩
  | node a b ia ib =>
    obtain ⟨y, l, h1, h2, -⟩ := ia (v + 1)
    exact ⟨y, l ++ lv (v + 1) b, by rw [lv, h1]; rfl, by omega, fun h => by omega⟩
theorem lv_free : ∀ (a b : Tr) (v : Int) (r q : List Int), lv v a ++ r = lv v b ++ q → a = b ∧ r = q := by
  intro a
  induction a with
  | leaf =>
    intro b v r q h
    cases b with
    | leaf => simp [lv] at h; exact ⟨rfl, h⟩
    | node x y =>
      obtain ⟨z, l, h1, h2, h3⟩ := lv_head (.node x y) v
      rw [h1] at h
      simp only [lv, List.cons_append, List.nil_append, List.cons.injEq] at h
      exact absurd (h3 h.1.symm) (by simp)
  | node x y ix iy =>
    intro b v r q h
    cases b with
    | leaf =>
      obtain ⟨z, l, h1, h2, h3⟩ := lv_head (.node x y) v
      rw [h1] at h
      simp only [lv, List.cons_append, List.nil_append, List.cons.injEq] at h
      exact absurd (h3 h.1) (by simp)
    | node x' y' =>
      have h' : lv (v + 1) x ++ (lv (v + 1) y ++ r) = lv (v + 1) x' ++ (lv (v + 1) y' ++ q) := by simpa [lv] using h
      obtain ⟨rfl, h2⟩ := ix _ _ _ _ h'
      obtain ⟨rfl, h3⟩ := iy _ _ _ _ h2
      exact ⟨rfl, h3⟩
/-- What has passed is a tree's text, of at most 8 nodes. -/
theorem bin_iff (s : ByteArray) : binB s = true ↔ s.size ≤ 25 ∧ ∃ t, s.data.toList = sh t ++ [] := by
  constructor
  · intro h
    obtain ⟨t, rfl⟩ := tree_of s.size s (Nat.le_refl _) h
    exact ⟨(bin_full h).1, t, by rw [baL_list, List.append_nil]⟩
  · rintro ⟨h, t, e⟩
    rw [List.append_nil] at e
    have e' := eq_baL e
    subst e'
    rw [baL_size, sh_len] at h
    exact bin_tree t (by omega)
/-- What l6Build takes is a tree's levels. -/
theorem bld_some : ∀ (f : Nat) (xs : List Int) (v : Int), (bld f xs v).2 ≠ 0 → ∃ t r, xs = lv v t ++ r ∧ (bld f xs v).1 = baL (sh t) ∧ (bld f xs v).2 = (lv v t).length := by
  intro f
  induction f with
  | zero => intro xs v h; exact absurd rfl h
  | succ f ih =>
    intro xs v h
    rw [bld] at h ⊢
    split at h
    · exact absurd rfl h
    · rename_i h0
      rw [if_neg h0]
      split at h
      · rename_i h1
        rw [if_pos h1]
        obtain ⟨y, l, rfl⟩ : ∃ y l, xs = y :: l := by
          cases xs with
          | nil => exact absurd (Or.inl rfl) h0
          | cons y l => exact ⟨y, l, rfl⟩
        have : y = v := by simpa using h1
        subst this
        exact ⟨.leaf, l, rfl, rfl, rfl⟩
      · rename_i h1
        rw [if_neg h1]
        split at h
        · exact absurd rfl h
        · rename_i h2
          rw [if_neg h2]
          split at h
          · exact absurd rfl h
          · rename_i h3
            rw [if_neg h3]
            obtain ⟨a, r, e1, e2, e3⟩ := ih xs (v + 1) h2
            obtain ⟨b, q, d1, d2, d3⟩ := ih _ (v + 1) h3
            have hr : xs.drop (bld f xs (v + 1)).2 = r := by rw [e3]; conv => lhs; rw [e1]; simp
            refine ⟨.node a b, q, ?_, ?_, ?_⟩
            · rw [lv, List.append_assoc, ← d1, hr]; exact e1
            · dsimp only
              rw [e2, d2]
              show ((baL [40] ++ baL (sh a)) ++ baL (sh b)) ++ baL [41] = _
              rw [baL_app, baL_app, baL_app]; congr 1; simp [sh]
            · dsimp only; rw [d3, e3, lv, List.length_append]
/-- Levels are good exactly if they are those of a tree of at most 8 nodes. -/
theorem bol_iff (xs : List Int) : bolGood xs ↔ xs.length ≤ 9 ∧ ∃ t, xs = lv 0 t ++ [] := by
  constructor
  · rintro ⟨h1, h2, h3, h4⟩
    obtain ⟨t, r, e1, e2, e3⟩ := bld_some 9 xs 0 (by omega)
    refine ⟨h3, t, ?_⟩
    have hl := congrArg List.length e1
    rw [List.length_append] at hl
    have : r = [] := List.eq_nil_of_length_eq_zero (by omega)
    rw [this] at e1; exact e1
  · rintro ⟨h, t, e⟩
    rw [List.append_nil] at e
    subst e
    have hl := lv_len t 0
    have hd := dp_le t
    have hb := bld_tree t 9 0 [] (by omega)
    rw [List.append_nil] at hb
    refine ⟨fun j hj => ?_, by omega, h, by rw [hb, lv_len]⟩
    have hmem : (lv 0 t).getD j 0 ∈ lv 0 t := by rw [List.getD_eq_getElem?_getD, List.getElem?_eq_getElem hj]; exact List.getElem_mem hj
    have := lv_bd t 0 _ hmem; omega
theorem bol_tree (t : Tr) (h : nds t ≤ 8) : bolOk (lv 0 t) = true ∧ bolP (lv 0 t) = baL (sh t) := by
  obtain ⟨g1, g2⟩ := bol_yes ((bol_iff (lv 0 t)).2 ⟨by rw [lv_len]; omega, t, by rw [List.append_nil]⟩)
  have hd := dp_le t
  have hb := bld_tree t 9 0 [] (by omega)
  rw [List.append_nil] at hb
  rw [hb] at g2
  exact ⟨g1, g2⟩
theorem lvP_tree (t : Tr) (h : nds t ≤ 8) : lvP (baL (sh t)) = lv 0 t := by
  unfold lvP
  rw [if_pos (bin_tree t h), baL_list]
  have := llL_tree t 0 []
  rw [List.append_nil] at this
  rw [this, llL_nil, List.append_nil]
theorem pobi_tree (t : Tr) (h : nds t ≤ 8) : pobiP (baL (sh t)) = baL (pt t) := by
  unfold pobiP; rw [if_pos (bin_tree t h), path_tree t _ (by rw [baL_size, sh_len]; omega)]
theorem mir_tree (t : Tr) (h : nds t ≤ 8) : mirBP (baL (sh t)) = baL (sh (mi t)) := by
  unfold mirBP; rw [if_pos (bin_tree t h), mirror_tree t _ (by rw [baL_size, sh_len]; omega)]
theorem parts_tree (a b : Tr) (h : nds (.node a b) ≤ 8) : partOk (baL (sh (.node a b))) = true ∧ partA (baL (sh (.node a b))) = baL (sh a) ∧ partB (baL (sh (.node a b))) = baL (sh b) := by
  have hb := bin_tree _ h
  have hne : baL (sh (.node a b)) ≠ ⟨#[46]⟩ := fun e => by
    have := congrArg ByteArray.size e
    rw [baL_size, sh_len, one_size] at this
    simp only [nds] at this; omega
  obtain ⟨e1, e2, e3⟩ := node_parts a b
  refine ⟨decide_eq_true ⟨hb, hne⟩, ?_, ?_⟩
  · unfold partA; rw [if_pos ⟨hb, hne⟩, e1]; exact e2
  · unfold partB; rw [if_pos ⟨hb, hne⟩, e1]; exact e3
theorem parts_leaf : partOk ⟨#[46]⟩ = false ∧ partA ⟨#[46]⟩ = ⟨#[]⟩ ∧ partB ⟨#[46]⟩ = ⟨#[]⟩ := by
  have h : ¬ (binB ⟨#[46]⟩ = true ∧ (⟨#[46]⟩ : ByteArray) ≠ ⟨#[46]⟩) := fun h => h.2 rfl
  exact ⟨decide_eq_false h, by unfold partA; rw [if_neg h], by unfold partB; rw [if_neg h]⟩
theorem parts_none {s : ByteArray} (h : binB s = false) : partOk s = false ∧ partA s = ⟨#[]⟩ ∧ partB s = ⟨#[]⟩ := by
  have h : ¬ (binB s = true ∧ s ≠ ⟨#[46]⟩) := fun hh => by rw [h] at hh; cases hh.1
  exact ⟨decide_eq_false h, by unfold partA; rw [if_neg h], by unfold partB; rw [if_neg h]⟩

end Go.Proofs.Ytbbbnnkkjgikbaa
