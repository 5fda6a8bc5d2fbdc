/- Trees: nodes in order, rotations, weights: plain facts. -/
import Derived.Test.YtbbbnnkkjgikbaaFact6
namespace Go.Proofs.Ytbbbnnkkjgikbaa
set_option linter.unusedVariables false

/-- The nodes in order. -/
def nods : Tr → List Tr
  | .leaf => []
  | .node a b => nods a ++ .node a b :: nods b
theorem nods_len : ∀ t, (nods t).length = nds t
  | .leaf => rfl
  | .node a b => by rw [nods, List.length_append, List.length_cons, nods_len a, nods_len b, nds]; omega
/-- The tree of the node v. -/
def nat' : Tr → Int → Tr
  | .leaf, _ => .leaf
  | .node a b, v => if v < nds a then nat' a v else if (nds a : Int) < v then nat' b (v - nds a - 1) else .node a b
/-- A tree in place of the node v. -/
def rpl : Tr → Int → Tr → Tr
  | .leaf, _, x => x
  | .node a b, v, x => if v < nds a then .node (rpl a v x) b else if (nds a : Int) < v then .node a (rpl b (v - nds a - 1) x) else x
def rotR : Tr → Option Tr
  | .node (.node a b) c => some (.node a (.node b c))
  | _ => none
def rotL : Tr → Option Tr
  | .node a (.node b c) => some (.node (.node a b) c)
  | _ => none
/-- What a change of the node v makes. -/
def chg (f : Tr → Option Tr) : Tr → Int → Option Tr
  | .leaf, _ => none
  | .node a b, v => if v < nds a then (chg f a v).map (fun x => .node x b) else if (nds a : Int) < v then (chg f b (v - nds a - 1)).map (fun x => .node a x) else f (.node a b)
theorem chg_out (f : Tr → Option Tr) : ∀ (t : Tr) (v : Int), ¬ (0 ≤ v ∧ v < nds t) → chg f t v = none
  | .leaf, _, _ => rfl
  | .node a b, v, h => by
    simp only [nds] at h
    rw [chg]
    split
    · rw [chg_out f a v (by omega)]; rfl
    · split
      · rw [chg_out f b _ (by omega)]; rfl
      · omega
theorem chg_in (f : Tr → Option Tr) : ∀ (t : Tr) (v : Int), 0 ≤ v → v < nds t → chg f t v = (f (nat' t v)).map (rpl t v)
  | .leaf, v, h0, h => by simp only [nds] at h; omega
  | .node a b, v, h0, h => by
    simp only [nds] at h
    rw [chg, nat']
    by_cases p : v < nds a
    · rw [if_pos p, if_pos p, chg_in f a v h0 p, Option.map_map]
      congr 1; funext x; simp only [Function.comp]; rw [rpl, if_pos p]
    · rw [if_neg p, if_neg p]
      by_cases q : (nds a : Int) < v
      · rw [if_pos q, if_pos q, chg_in f b _ (by omega) (by omega), Option.map_map]
        congr 1; funext x; simp only [Function.comp]; rw [rpl, if_neg p, if_pos q]
      · rw [if_neg q, if_neg q]
        have : (rpl (.node a b) v) = fun x => x := by funext x; rw [rpl, if_neg p, if_neg q]
        rw [this]; simp
theorem nat_node : ∀ (t : Tr) (v : Int), 0 ≤ v → v < nds t → ∃ a b, nat' t v = .node a b ∧ nds (.node a b) ≤ nds t
  | .leaf, v, h0, h => by simp only [nds] at h; omega
  | .node a b, v, h0, h => by
    simp only [nds] at h
    rw [nat']
    by_cases p : v < nds a
    · rw [if_pos p]
      obtain ⟨x, y, e, l⟩ := nat_node a v h0 p
      exact ⟨x, y, e, by simp only [nds] at l ⊢; omega⟩
    · rw [if_neg p]
      by_cases q : (nds a : Int) < v
      · rw [if_pos q]
        obtain ⟨x, y, e, l⟩ := nat_node b (v - nds a - 1) (by omega) (by omega)
        exact ⟨x, y, e, by simp only [nds] at l ⊢; omega⟩
      · rw [if_neg q]; exact ⟨a, b, rfl, Nat.le_refl _⟩
theorem rpl_nds : ∀ (t : Tr) (v : Int) (x : Tr), nds (rpl t v x) ≤ nds t + nds x
  | .leaf, v, x => by rw [rpl]; omega
  | .node a b, v, x => by
    have h1 := rpl_nds a v x
    have h2 := rpl_nds b (v - nds a - 1) x
    rw [rpl]
    split
    · simp only [nds]; omega
    · split
      · simp only [nds]; omega
      · omega
theorem nods_at : ∀ (t : Tr) (k : Nat), k < nds t → (nods t)[k]? = some (nat' t k)
  | .leaf, k, h => by simp only [nds] at h; omega
  | .node a b, k, h => by
    simp only [nds] at h
    have hl := nods_len a
    rw [nods, nat']
    by_cases p : k < nds a
    · rw [if_pos (by omega), List.getElem?_append_left (by omega), nods_at a k p]
    · rw [if_neg (by omega), List.getElem?_append_right (by omega)]
      by_cases q : nds a < k
      · obtain ⟨j, rfl⟩ : ∃ j, k = nds a + j + 1 := ⟨k - nds a - 1, by omega⟩
        rw [if_pos (by omega), hl, show nds a + j + 1 - nds a = j + 1 by omega, List.getElem?_cons_succ, nods_at b j (by omega)]
        congr 2; omega
      · obtain rfl : k = nds a := by omega
        rw [if_neg (by omega), hl, Nat.sub_self]; rfl

/-- The tree of a text. -/
noncomputable def par (s : ByteArray) : Option Tr := by
  classical exact if h : ∃ t, s = baL (sh t) ∧ nds t ≤ 8 then some h.choose else none
theorem sh_inj {a b : Tr} (h : baL (sh a) = baL (sh b)) : a = b := by
  have := congrArg (fun q : ByteArray => q.data.toList) h
  simp only [baL_list] at this
  exact (sh_free a b [] [] (by rw [this])).1
theorem par_sh (t : Tr) (h : nds t ≤ 8) : par (baL (sh t)) = some t := by
  have he : ∃ u, baL (sh t) = baL (sh u) ∧ nds u ≤ 8 := ⟨t, rfl, h⟩
  unfold par
  rw [dif_pos he]
  exact congrArg some (sh_inj he.choose_spec.1).symm
theorem par_no {s : ByteArray} (h : binB s = false) : par s = none := by
  unfold par
  rw [dif_neg]
  rintro ⟨t, rfl, ht⟩
  rw [bin_tree t ht] at h; cases h
theorem par_yes {s : ByteArray} (h : binB s = true) : ∃ t, s = baL (sh t) ∧ nds t ≤ 8 ∧ par s = some t := by
  obtain ⟨t, rfl⟩ := tree_of s.size s (Nat.le_refl _) h
  have h25 := (bin_full h).1
  have hn : nds t ≤ 8 := by rw [baL_size, sh_len] at h25; omega
  exact ⟨t, rfl, hn, par_sh t hn⟩
theorem nodes_sh (t : Tr) (h : nds t ≤ 8) : nodesP (baL (sh t)) = (nds t : Int) := by
  unfold nodesP
  rw [if_pos (bin_tree t h), baL_size, sh_len]; congr 1; omega
theorem nodes_no {s : ByteArray} (h : binB s = false) : nodesP s = -1 := by
  unfold nodesP; rw [h]; simp
/-- A text of what may be no tree. -/
def tx : Option Tr → ByteArray
  | some t => baL (sh t)
  | none => ⟨#[]⟩
noncomputable def rotO (f : Tr → Option Tr) (s : ByteArray) (v : Int) : Option Tr := (par s).bind fun t => chg f t v
noncomputable def rotP (f : Tr → Option Tr) (s : ByteArray) (v : Int) : ByteArray := tx (rotO f s v)
noncomputable def rotB (f : Tr → Option Tr) (s : ByteArray) (v : Int) : Bool := (rotO f s v).isSome
noncomputable def nodO (s : ByteArray) (v : Int) : Option Tr := (par s).bind fun t => if 0 ≤ v ∧ v < nds t then some (nat' t v) else none
noncomputable def nodP (s : ByteArray) (v : Int) : ByteArray := tx (nodO s v)
noncomputable def nodB (s : ByteArray) (v : Int) : Bool := (nodO s v).isSome
theorem rotO_no {f : Tr → Option Tr} {s : ByteArray} (h : binB s = false) (v : Int) : rotO f s v = none := by unfold rotO; rw [par_no h]; rfl
theorem nodO_no {s : ByteArray} (h : binB s = false) (v : Int) : nodO s v = none := by unfold nodO; rw [par_no h]; rfl
theorem rotO_sh {f : Tr → Option Tr} {t : Tr} (h : nds t ≤ 8) (v : Int) : rotO f (baL (sh t)) v = chg f t v := by unfold rotO; rw [par_sh t h]; rfl
theorem nodO_sh {t : Tr} (h : nds t ≤ 8) (v : Int) : nodO (baL (sh t)) v = if 0 ≤ v ∧ v < nds t then some (nat' t v) else none := by unfold nodO; rw [par_sh t h]; rfl

/-- The texts of all changes, by nodes, ahead of node k. -/
def chgL (f : Tr → Option Tr) (t : Tr) : Nat → List ByteArray
  | 0 => []
  | k + 1 => match chg f t k with
    | some x => chgL f t k ++ [baL (sh x)]
    | none => chgL f t k
theorem chgL_some {f : Tr → Option Tr} {t x : Tr} {k : Nat} (h : chg f t k = some x) : chgL f t (k + 1) = chgL f t k ++ [baL (sh x)] := by rw [chgL, h]
theorem chgL_none {f : Tr → Option Tr} {t : Tr} {k : Nat} (h : chg f t k = none) : chgL f t (k + 1) = chgL f t k := by rw [chgL, h]
theorem chgL_le (f : Tr → Option Tr) (t : Tr) : ∀ k, (chgL f t k).length ≤ k
  | 0 => Nat.le_refl _
  | k + 1 => by
    have := chgL_le f t k
    cases h : chg f t k with
    | none => rw [chgL_none h]; omega
    | some x => rw [chgL_some h, List.length_append, List.length_singleton]; omega
noncomputable def rotsP (f : Tr → Option Tr) (s : ByteArray) : List ByteArray := match par s with
  | some t => chgL f t (nds t)
  | none => []
theorem rots_sh {f : Tr → Option Tr} {t : Tr} (h : nds t ≤ 8) : rotsP f (baL (sh t)) = chgL f t (nds t) := by unfold rotsP; rw [par_sh t h]
theorem rots_no {f : Tr → Option Tr} {s : ByteArray} (h : binB s = false) : rotsP f s = [] := by unfold rotsP; rw [par_no h]
noncomputable def cntP (s : ByteArray) : Int := if binB s = true then ((rotsP rotR s).length : Nat) else -1
noncomputable def neiP (s : ByteArray) : List ByteArray := rotsP rotR s ++ rotsP rotL s

/-- The weights: for each node the number of nodes of its right part. -/
def wts : Tr → List Int
  | .leaf => []
  | .node a b => wts a ++ (nds b : Int) :: wts b
theorem wts_len : ∀ t, (wts t).length = nds t
  | .leaf => rfl
  | .node a b => by rw [wts, List.length_append, List.length_cons, wts_len a, wts_len b, nds]; omega
/-- The nodes of the right part of a node. -/
def rnd : Tr → Int
  | .leaf => 0
  | .node _ b => nds b
theorem wts_map : ∀ t, wts t = (nods t).map rnd
  | .leaf => rfl
  | .node a b => by rw [wts, nods, List.map_append, List.map_cons, wts_map a, wts_map b]; rfl
theorem wts_at (t : Tr) (k : Nat) (h : k < nds t) : (wts t)[k]? = some (rnd (nat' t k)) := by
  rw [wts_map, List.getElem?_map, nods_at t k h]; rfl
theorem wts_bd : ∀ (t : Tr) (k : Nat), k < nds t → 0 ≤ (wts t).getD k 0 ∧ (wts t).getD k 0 + k + 1 ≤ nds t
  | .leaf, k, h => by simp only [nds] at h; omega
  | .node a b, k, h => by
    have hl := wts_len a
    simp only [nds] at h ⊢
    rw [wts, List.getD_eq_getElem?_getD]
    by_cases p : k < nds a
    · rw [List.getElem?_append_left (by omega), ← List.getD_eq_getElem?_getD]
      have := wts_bd a k p
      omega
    · rw [List.getElem?_append_right (by omega), hl]
      by_cases q : nds a < k
      · obtain ⟨j, rfl⟩ : ∃ j, k = nds a + j + 1 := ⟨k - nds a - 1, by omega⟩
        rw [show nds a + j + 1 - nds a = j + 1 by omega, List.getElem?_cons_succ, ← List.getD_eq_getElem?_getD]
        have := wts_bd b j (by omega)
        omega
      · obtain rfl : k = nds a := by omega
        rw [Nat.sub_self]
        simp only [List.getElem?_cons_zero, Option.getD_some]
        omega
noncomputable def wtsP (s : ByteArray) : List Int := match par s with
  | some t => wts t
  | none => []
theorem wtsP_sh {t : Tr} (h : nds t ≤ 8) : wtsP (baL (sh t)) = wts t := by unfold wtsP; rw [par_sh t h]
theorem wtsP_no {s : ByteArray} (h : binB s = false) : wtsP s = [] := by unfold wtsP; rw [par_no h]
theorem wts_inj : ∀ (a b : Tr), wts a = wts b → a = b := by
  intro a
  induction a with
  | leaf =>
    intro b h
    cases b with
    | leaf => rfl
    | node x y => have := congrArg List.length h; simp [wts] at this
  | node a1 a2 i1 i2 =>
    intro b h
    cases b with
    | leaf => have := congrArg List.length h; simp [wts] at this
    | node b1 b2 =>
      have hlen : nds a1 + nds a2 = nds b1 + nds b2 := by
        have := congrArg List.length h
        simp only [wts_len, nds] at this; omega
      have key : ∀ (p1 p2 q1 q2 : Tr), wts (.node p1 p2) = wts (.node q1 q2) → nds p1 + nds p2 = nds q1 + nds q2 → ¬ nds p1 < nds q1 := by
        intro p1 p2 q1 q2 h hl hlt
        have e1 : (wts (.node p1 p2)).getD (nds p1) 0 = nds p2 := by
          rw [wts, List.getD_eq_getElem?_getD, List.getElem?_append_right (by rw [wts_len]; omega), wts_len, Nat.sub_self]; rfl
        have e2 : (wts (.node q1 q2)).getD (nds p1) 0 = (wts q1).getD (nds p1) 0 := by
          rw [wts, List.getD_eq_getElem?_getD, List.getElem?_append_left (by rw [wts_len]; omega), ← List.getD_eq_getElem?_getD]
        have := wts_bd q1 (nds p1) hlt
        rw [h, e2] at e1
        omega
      have k1 := key a1 a2 b1 b2 h hlen
      have k2 := key b1 b2 a1 a2 h.symm hlen.symm
      have hn : nds a1 = nds b1 := by omega
      rw [wts, wts] at h
      have hh := List.append_inj h (by rw [wts_len, wts_len]; exact hn)
      rw [i1 b1 hh.1, i2 b2 (List.cons.inj hh.2).2]

theorem tx_size (o : Option Tr) (n : Nat) (h : ∀ t, o = some t → nds t ≤ n) : (tx o).size ≤ 3 * n + 1 := by
  cases o with
  | none => show (⟨#[]⟩ : ByteArray).size ≤ _; simp [ByteArray.size]
  | some t => show (baL (sh t)).size ≤ _; rw [baL_size, sh_len]; have := h t rfl; omega
theorem rotR_nds {t x : Tr} (h : rotR t = some x) : nds x = nds t := by
  match t, h with
  | .node (.node a b) c, h => simp only [rotR, Option.some.injEq] at h; subst h; simp only [nds]; omega
theorem rotL_nds {t x : Tr} (h : rotL t = some x) : nds x = nds t := by
  match t, h with
  | .node a (.node b c), h => simp only [rotL, Option.some.injEq] at h; subst h; simp only [nds]; omega
theorem chg_nds {f : Tr → Option Tr} (hf : ∀ t x, f t = some x → nds x = nds t) : ∀ (t : Tr) (v : Int) (x : Tr), chg f t v = some x → nds x = nds t
  | .leaf, v, x, h => by simp [chg] at h
  | .node a b, v, x, h => by
    rw [chg] at h
    split at h
    · cases e : chg f a v with
      | none => rw [e] at h; simp at h
      | some y => rw [e] at h; simp at h; subst h; simp only [nds]; rw [chg_nds hf a v y e]
    · split at h
      · cases e : chg f b (v - nds a - 1) with
        | none => rw [e] at h; simp at h
        | some y => rw [e] at h; simp at h; subst h; simp only [nds]; rw [chg_nds hf b _ y e]
      · exact hf _ _ h

end Go.Proofs.Ytbbbnnkkjgikbaa
