/- Rows of ints that the call owns: appending, reading, and the contracts of eqIntS, markIntS, heldIntS. -/
import Derived.Test.YtkpnfonedfomaaaRows
import Derived.WalkKit
import Derived.ProofKit
import Derived.OpenShut
import Derived.ShutString
import Derived.IntWalk
import Derived.Lib.Hide
import Derived.Deep.DeepMust
import Derived.Deep.QuietTactic
import Derived.BigQuiet
import Derived.OwnWalk
import Derived.Below
import Derived.WalkSmall
namespace Go.Proofs.Ytkpnfonedfomaaa
open Go.ChangeShapes Go.WideShapes Go.ChangeAt Go.RowKit
set_option linter.unusedVariables false

theorem info3 : (Try.prog.info? 3).map (fun i => (i.zero, i.size, i.bytes)) = some (some (.int .i64 0), 1, 8) := by kernel_rfl
theorem cell_one (w : World) (x : Value) (t : TypeId) : (w.alloc (.cells #[x] t)).cell? ⟨w.heap.size, 0, none⟩ = some x := by
  rw [World.cell?_alloc_at _ _ _ _ rfl]; rfl
theorem base_up {B : Nat} {wr : World} {o : Obj} (hb : B ≤ wr.heap.size) : B ≤ (wr.alloc o).heap.size := by simp; omega

/-- One int appended to a row of ints that the call owns. -/
theorem wpAppInt {w : World} {ops : Array Oper} {rest : List Oper} {o : Oper} {a : Act} {Q : Exit → Act → World → Prop} (hgd : o.guard = none) (s x : Operand)
    (ho : o.op = .call { callee := .builtin .append, args := #[s, x], argTypes := #[35, 35] })
    (base : Nat) (v : Value) (n : Nat) (xs : List Int) (hs : a.eval s = v) (hown : w.ownsRow base 3 1 v n (xs.map (Value.int .i64)))
    (b : Nat) (c : Nat) (y : Int) (hx : a.eval x = .slice (some ⟨b, 0, none⟩) 1 c) (hcell : w.cell? ⟨b, 0, none⟩ = some (.int .i64 y))
    (hn : n ≤ 1099511627776) (hbase : base ≤ w.heap.size)
    (h : ∀ v' w', w'.ownsRow base 3 1 v' (n + 1) ((xs ++ [y]).map (Value.int .i64)) → w.grownBy w' v.ownBlock → wpList Try.prog ops Q rest (a.put o.dst v') w') : wpList Try.prog ops Q (o :: rest) a w := by
  obtain ⟨i0, hi, hz0, hz1, hz2⟩ := info_parts info3
  refine wpList_append_own _ hgd s x 35 ho base 3 i0 (.int .i64 0) 1 8 Try.underlying35 hi hz0 hz1 hz2 rfl (by decide) v n _ hs hown ⟨b, 0, none⟩ 1 c [.int .i64 y] hx rfl ?_ ?_ (by unfold maxLen; omega) (by omega) hbase ?_
  · intro j u hj
    match j, hj with
    | 0, hj => simp at hj; subst hj; simpa [Addr.add] using hcell
  · intro u hu; simp at hu; subst hu; rfl
  · intro v' w' h1 h2 _
    exact h v' w' (by simpa using h1) h2

/-- v is a slice of the ints xs; its cells lie in a block from lo up to hi (where it has any), and nobody has frozen them. -/
def OwnI (w : World) (lo hi : Nat) (v : Value) (xs : List Int) : Prop :=
  ∃ A cap, v = .slice A xs.length cap ∧ (xs = [] ∨ ∃ g C, lo ≤ g ∧ g < hi ∧ A = some ⟨g, 0, none⟩ ∧ w.heap[g]? = some (.cells C 3 (0, 0)) ∧ ∀ j, j < xs.length → C[j]? = some (.int .i64 (xs.getD j 0)))
theorem OwnI.of_row {w : World} {base : Nat} {v : Value} {n : Nat} {xs : List Int} (h : w.ownsRow base 3 1 v n (xs.map (Value.int .i64))) : OwnI w base w.heap.size v xs := by
  have hl : xs.length = n := by have := h.1; simpa using this
  rcases h.2 with ⟨rfl, rfl⟩ | ⟨g, cap, cur, rfl, hb, hh, hnc, hcm, hcur, htake⟩
  · exact ⟨none, 0, by rw [hl], .inl (List.eq_nil_of_length_eq_zero hl)⟩
  · refine ⟨some ⟨g, 0, none⟩, cap, by rw [hl], .inr ⟨g, cur, hb, (h.lt g rfl).2, rfl, hh, fun j hj => ?_⟩⟩
    have e : cur.toList[j]? = (cur.toList.take (n * 1))[j]? := by rw [List.getElem?_take, if_pos (by omega)]
    rw [← Array.getElem?_toList, e, htake, List.getElem?_map]
    simp [List.getD, show j < xs.length from hj]
theorem OwnI.keep {w w' : World} {lo hi B : Nat} {v : Value} {xs : List Int} (h : OwnI w lo hi v xs) (hb : Below B w w') (hB : hi ≤ B) : OwnI w' lo hi v xs := by
  obtain ⟨A, cap, e, h⟩ := h
  refine ⟨A, cap, e, ?_⟩
  rcases h with h | ⟨g, C, h1, h2, h3, h4, h5⟩
  · exact .inl h
  · exact .inr ⟨g, C, h1, h2, h3, (hb.block g (by omega)).trans h4, h5⟩
theorem OwnI.wide {w : World} {lo hi lo' hi' : Nat} {v : Value} {xs : List Int} (h : OwnI w lo hi v xs) (h1 : lo' ≤ lo) (h2 : hi ≤ hi') : OwnI w lo' hi' v xs := by
  obtain ⟨A, cap, e, h⟩ := h
  refine ⟨A, cap, e, ?_⟩
  rcases h with h | ⟨g, C, a1, a2, a3, a4, a5⟩
  · exact .inl h
  · exact .inr ⟨g, C, by omega, by omega, a3, a4, a5⟩
/-- The slice's form and the cell at place j. -/
theorem OwnI.cell {w : World} {lo hi : Nat} {v : Value} {xs : List Int} (h : OwnI w lo hi v xs) {j : Nat} (hj : j < xs.length) :
    ∃ g cap, v = .slice (some ⟨g, 0, none⟩) xs.length cap ∧ lo ≤ g ∧ g < hi ∧ w.cell? ⟨g, j, none⟩ = some (.int .i64 (xs.getD j 0)) ∧ w.frozen? ⟨g, j, none⟩ = false := by
  obtain ⟨A, cap, rfl, h⟩ := h
  rcases h with rfl | ⟨g, C, h1, h2, rfl, h4, h5⟩
  · simp at hj
  · refine ⟨g, cap, rfl, h1, h2, ?_, by simp [World.frozen?, h4]⟩
    rw [cell_of_row w g j C 3 (0, 0) h4]
    exact h5 j hj

set_option maxRecDepth 100000 in
set_option maxHeartbeats 800000 in
theorem eqI_same (v u : Value) (lo hi lo' hi' : Nat) (xs : List Int) (w : World) (hv : OwnI w lo hi v xs) (hu : OwnI w lo' hi' u xs) (hl : xs.length ≤ 1099511627776) :
    Calls Try.prog 26 #[v, u] w fun e w' => e = .returned (.bool true) ∧ Below w.heap.size w w' := by
  obtain ⟨A1, c1, rfl, k1⟩ := id hv
  obtain ⟨A2, c2, rfl, k2⟩ := id hu
  clear k1 k2
  have HV := Lib.hid hv
  have HU := Lib.hid hu
  clear hv hu
  go_enter Try.func26, Try.ntmps26
  go_wp2
  go_loopw [5] (fun x wr => ∃ (j k : Nat), j ≤ xs.length ∧ x = .int .i64 j ∧ wr = w.drewN k) (fun x _ => xs.length - (intOf x).toNat)
  case atStart => exact ⟨0, 0, Nat.zero_le _, rfl, rfl⟩
  case round =>
    obtain ⟨j, k, hj, rfl, rfl⟩ := hrel
    by_cases hlt : j < xs.length
    · obtain ⟨g1, p1, e1, -, -, hc1, -⟩ := HV.out.cell hlt
      obtain ⟨g2, p2, e2, -, -, hc2, -⟩ := HU.out.cell hlt
      simp only [Value.slice.injEq] at e1 e2
      obtain ⟨rfl, -, -⟩ := e1
      obtain ⟨rfl, -, -⟩ := e2
      have hji : (j : Int) < (xs.length : Int) := by omega
      generalize xs.getD j 0 = z at hc1 hc2
      go_wp2
      go_quiet (fail)
      go_wp2
      exact ⟨⟨j + 1, k + nq, by omega, by simp, rfl⟩, by simp [intOf]; omega⟩
    · go_wp2
      go_ret
      exact ⟨rfl, below_drewN (Below.refl _ _) k⟩

/-- n marks from k on. -/
def marks (k : Int) (n : Nat) : List Int := (List.range n).map fun (i : Nat) => k + (i : Int)
theorem marks_len (k : Int) (n : Nat) : (marks k n).length = n := by simp [marks]
theorem marks_at (k : Int) (n j : Nat) (h : j < n) : (marks k n).getD j 0 = k + j := by simp [marks, List.getD, h]
/-- The row when the first j places have been marked. -/
def mkL (k : Int) (j : Nat) (xs : List Int) : List Int := (List.range xs.length).map fun (i : Nat) => if i < j then k + (i : Int) else xs.getD i 0
theorem mkL_len (k : Int) (j : Nat) (xs : List Int) : (mkL k j xs).length = xs.length := by simp [mkL]
theorem mkL_at (k : Int) (j i : Nat) (xs : List Int) (h : i < xs.length) : (mkL k j xs).getD i 0 = if i < j then k + (i : Int) else xs.getD i 0 := by simp [mkL, List.getD, h]
theorem mkL_zero (k : Int) (xs : List Int) : mkL k 0 xs = xs := by
  apply List.ext_getElem
  · rw [mkL_len]
  · intro i h1 h2
    simp [mkL, List.getD, h2]
theorem mkL_all (k : Int) (xs : List Int) : mkL k xs.length xs = marks k xs.length := by
  unfold mkL marks
  refine List.map_congr_left fun i hi => ?_
  rw [if_pos (by simpa using hi)]
theorem OwnI.set {w : World} {lo hi g cap : Nat} {n : Nat} {xs ys : List Int} (h : OwnI w lo hi (.slice (some ⟨g, 0, none⟩) n cap) xs) {j : Nat} {y : Int} (hj : j < xs.length)
    (hl : ys.length = xs.length) (hy : ys.getD j 0 = y) (ho : ∀ i, i < xs.length → i ≠ j → ys.getD i 0 = xs.getD i 0) : OwnI (w.setCell ⟨g, j, none⟩ (.int .i64 y)) lo hi (.slice (some ⟨g, 0, none⟩) n cap) ys := by
  obtain ⟨A, cap', e, h⟩ := h
  simp only [Value.slice.injEq] at e
  obtain ⟨rfl, rfl, rfl⟩ := e
  refine ⟨_, _, by rw [hl], .inr ?_⟩
  rcases h with rfl | ⟨g', C, h1, h2, h3, h4, h5⟩
  · simp at hj
  · obtain rfl : g = g' := by simpa using h3
    refine ⟨g, C.setIfInBounds j (.int .i64 y), h1, h2, rfl, by simp [World.setCell, Array.getElem?_modify, h4], fun i hi => ?_⟩
    rw [hl] at hi
    by_cases e : i = j
    · subst e
      have hC : i < C.size := by
        have := h5 i hi
        rcases Nat.lt_or_ge i C.size with h | h
        · exact h
        · rw [Array.getElem?_eq_none h] at this; cases this
      rw [Array.getElem?_setIfInBounds_self_of_lt hC, hy]
    · rw [Array.getElem?_setIfInBounds_ne (by omega), h5 i hi, ho i hi e]
theorem OwnI.nil_form {w : World} {lo hi : Nat} {v : Value} {xs : List Int} (h : OwnI w lo hi v xs) : ∃ A cap, v = .slice A xs.length cap ∧ ∀ g', A = some g' → ∀ j, j < xs.length → g'.off = 0 ∧ g'.spot = none ∧ lo ≤ g'.block := by
  obtain ⟨A, cap, rfl, h⟩ := h
  refine ⟨A, cap, rfl, ?_⟩
  rintro g' rfl j hj
  rcases h with rfl | ⟨g, C, h1, h2, h3, h4, h5⟩
  · simp at hj
  · obtain rfl : g' = ⟨g, 0, none⟩ := by simpa using h3
    exact ⟨rfl, rfl, h1⟩

set_option maxRecDepth 100000 in
set_option maxHeartbeats 800000 in
theorem markI (v : Value) (lo hi : Nat) (xs : List Int) (k : Int) (w : World) (hv : OwnI w lo hi v xs) (hl : xs.length ≤ 1099511627776) (hk0 : 0 ≤ k) (hk : k ≤ 1099511627776) :
    Calls Try.prog 27 #[v, .int .i64 k] w fun e w' => e = .returned (.int .i64 (k + xs.length)) ∧ OwnI w' lo hi v (marks k xs.length) ∧ Below lo w w' := by
  obtain ⟨A1, c1, rfl, k1⟩ := id hv
  clear k1
  go_enter Try.func27, Try.ntmps27
  have HV := Lib.hid hv
  clear hv
  go_wp2
  go_loopw [1, 5] (fun x y wr => ∃ j : Nat, j ≤ xs.length ∧ y = .int .i64 j ∧ x = .int .i64 (k + j) ∧ OwnI wr lo hi (.slice A1 xs.length c1) (mkL k j xs) ∧ Below lo w wr) (fun _ y _ => xs.length - (intOf y).toNat)
  case atStart => exact ⟨0, Nat.zero_le _, rfl, by simp, by rw [mkL_zero]; exact HV.out, Below.refl _ _⟩
  case round =>
    obtain ⟨j, hj, rfl, rfl, ho, hb⟩ := hrel
    have HO := Lib.hid ho
    have HB := Lib.hid hb
    clear ho hb
    by_cases hlt : j < xs.length
    · obtain ⟨g1, p1, e1, hg1, -, hc1, hf1⟩ := HO.out.cell (j := j) (by rw [mkL_len]; exact hlt)
      simp only [Value.slice.injEq] at e1
      obtain ⟨rfl, -, rfl⟩ := e1
      have hji : (j : Int) < (xs.length : Int) := by omega
      go_wp2
      refine ⟨⟨j + 1, by omega, by simp, by congr 1; omega, ?_, HB.out.setCell hg1 _⟩, by simp [intOf]; omega⟩
      refine HO.out.set (j := j) (by rw [mkL_len]; exact hlt) (by rw [mkL_len, mkL_len]) ?_ ?_
      · rw [mkL_at _ _ _ _ hlt, if_pos (by omega)]
      · intro i hi hne
        rw [mkL_len] at hi
        rw [mkL_at _ _ _ _ hi, mkL_at _ _ _ _ hi]
        by_cases h : i < j
        · rw [if_pos h, if_pos (by omega)]
        · rw [if_neg h, if_neg (by omega)]
    · obtain rfl : j = xs.length := by omega
      go_wp2
      go_ret
      exact ⟨rfl, by rw [← mkL_all]; exact HO.out, HB.out⟩

set_option maxRecDepth 100000 in
set_option maxHeartbeats 800000 in
theorem heldI (v : Value) (lo hi : Nat) (n : Nat) (k : Int) (w : World) (hv : OwnI w lo hi v (marks k n)) (hl : n ≤ 1099511627776) (hk0 : 0 ≤ k) (hk : k ≤ 1099511627776) :
    Calls Try.prog 28 #[v, .int .i64 k] w fun e w' => e = .returned (.int .i64 (k + n)) ∧ w = w' := by
  obtain ⟨A1, c1, e, k1⟩ := id hv
  clear k1
  rw [marks_len] at e
  subst e
  have HV := Lib.hid hv
  clear hv
  go_enter Try.func28, Try.ntmps28
  go_wp2
  go_loop [1, 5] (fun x y => ∃ j : Nat, j ≤ n ∧ y = .int .i64 j ∧ x = .int .i64 (k + j)) (fun _ y => n - (intOf y).toNat)
  case atStart => exact ⟨0, Nat.zero_le _, rfl, by simp⟩
  case round =>
    obtain ⟨j, hj, rfl, rfl⟩ := hrel
    by_cases hlt : j < n
    · obtain ⟨g1, p1, e1, -, -, hc1, -⟩ := HV.out.cell (j := j) (by rw [marks_len]; exact hlt)
      rw [marks_at _ _ _ hlt] at hc1
      simp only [Value.slice.injEq] at e1
      obtain ⟨rfl, -, rfl⟩ := e1
      have hji : (j : Int) < (n : Int) := by omega
      go_wp2
      exact ⟨⟨j + 1, by omega, by simp, by congr 1; omega⟩, by simp [intOf]; omega⟩
    · obtain rfl : j = n := by omega
      go_wp2
      go_ret
      exact ⟨rfl, rfl⟩

end Go.Proofs.Ytkpnfonedfomaaa
