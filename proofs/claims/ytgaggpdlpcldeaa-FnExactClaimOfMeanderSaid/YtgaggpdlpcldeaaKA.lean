/- Merged by program out of: Ints Mark2 Strs Plain2 Spec2A Spec2B Spec2C Spec2D Spec2E LawLists Spec2G Row10. -/
import Derived.Test.YtgaggpdlpcldeaaRows
import Derived.WalkKit
import Derived.ProofKit
import Derived.OpenShut
import Derived.ShutString
import Derived.IntWalk
import Derived.Lib.Hide
import Derived.Deep.DeepMust
import Derived.Deep.QuietTactic
import Derived.BigQuiet
import Derived.OwnWalk
import Derived.Below
import Derived.WalkSmall
import Derived.Laws.BytesArg
import Derived.Deep.AppendLies
import Derived.Deep.RegionLaw
import Derived.BigRegion
import Derived.PlainAid
import Derived.Carry
import Derived.Laws.CopyOwn
section
namespace Go.Proofs.Ytgaggpdlpcldeaa
open Go.ChangeShapes Go.WideShapes Go.ChangeAt Go.RowKit
set_option linter.unusedVariables false

theorem info3 : (Try.prog.info? 3).map (fun i => (i.zero, i.size, i.bytes)) = some (some (.int .i64 0), 1, 8) := by kernel_rfl
theorem cell_one (w : World) (x : Value) (t : TypeId) : (w.alloc (.cells #[x] t)).cell? ⟨w.heap.size, 0, none⟩ = some x := by
  rw [World.cell?_alloc_at _ _ _ _ rfl]; rfl
theorem base_up {B : Nat} {wr : World} {o : Obj} (hb : B ≤ wr.heap.size) : B ≤ (wr.alloc o).heap.size := by simp; omega

/-- One int appended to a row of ints that the call owns. -/
theorem wpAppInt {w : World} {ops : Array Oper} {rest : List Oper} {o : Oper} {a : Act} {Q : Exit → Act → World → Prop} (hgd : o.guard = none) (s x : Operand)
    (ho : o.op = .call { callee := .builtin .append, args := #[s, x], argTypes := #[22, 22] })
    (base : Nat) (v : Value) (n : Nat) (xs : List Int) (hs : a.eval s = v) (hown : w.ownsRow base 3 1 v n (xs.map (Value.int .i64)))
    (b : Nat) (c : Nat) (y : Int) (hx : a.eval x = .slice (some ⟨b, 0, none⟩) 1 c) (hcell : w.cell? ⟨b, 0, none⟩ = some (.int .i64 y))
    (hn : n ≤ 1099511627776) (hbase : base ≤ w.heap.size)
    (h : ∀ v' w', w'.ownsRow base 3 1 v' (n + 1) ((xs ++ [y]).map (Value.int .i64)) → w.grownBy w' v.ownBlock → wpList Try.prog ops Q rest (a.put o.dst v') w') : wpList Try.prog ops Q (o :: rest) a w := by
  obtain ⟨i0, hi, hz0, hz1, hz2⟩ := info_parts info3
  refine wpList_append_own _ hgd s x 22 ho base 3 i0 (.int .i64 0) 1 8 Try.underlying22 hi hz0 hz1 hz2 rfl (by decide) v n _ hs hown ⟨b, 0, none⟩ 1 c [.int .i64 y] hx rfl ?_ ?_ (by unfold maxLen; omega) (by omega) hbase ?_
  · intro j u hj
    match j, hj with
    | 0, hj => simp at hj; subst hj; simpa [Addr.add] using hcell
  · intro u hu; simp at hu; subst hu; rfl
  · intro v' w' h1 h2 _
    exact h v' w' (by simpa using h1) h2

/-- v is a slice of the ints xs; its cells lie in a block from lo up to hi (where it has any), and nobody has frozen them. -/
def OwnI (w : World) (lo hi : Nat) (v : Value) (xs : List Int) : Prop :=
  ∃ A cap, v = .slice A xs.length cap ∧ (xs = [] ∨ ∃ g C, lo ≤ g ∧ g < hi ∧ A = some ⟨g, 0, none⟩ ∧ w.heap[g]? = some (.cells C 3 (0, 0)) ∧ ∀ j, j < xs.length → C[j]? = some (.int .i64 (xs.getD j 0)))
theorem OwnI.of_row {w : World} {base : Nat} {v : Value} {n : Nat} {xs : List Int} (h : w.ownsRow base 3 1 v n (xs.map (Value.int .i64))) : OwnI w base w.heap.size v xs := by
  have hl : xs.length = n := by have := h.1; simpa using this
  rcases h.2 with ⟨rfl, rfl⟩ | ⟨g, cap, cur, rfl, hb, hh, hnc, hcm, hcur, htake⟩
  · exact ⟨none, 0, by rw [hl], .inl (List.eq_nil_of_length_eq_zero hl)⟩
  · refine ⟨some ⟨g, 0, none⟩, cap, by rw [hl], .inr ⟨g, cur, hb, (h.lt g rfl).2, rfl, hh, fun j hj => ?_⟩⟩
    have e : cur.toList[j]? = (cur.toList.take (n * 1))[j]? := by rw [List.getElem?_take, if_pos (by omega)]
    rw [← Array.getElem?_toList, e, htake, List.getElem?_map]
    simp [List.getD, show j < xs.length from hj]
theorem OwnI.keep {w w' : World} {lo hi B : Nat} {v : Value} {xs : List Int} (h : OwnI w lo hi v xs) (hb : Below B w w') (hB : hi ≤ B) : OwnI w' lo hi v xs := by
  obtain ⟨A, cap, e, h⟩ := h
  refine ⟨A, cap, e, ?_⟩
  rcases h with h | ⟨g, C, h1, h2, h3, h4, h5⟩
  · exact .inl h
  · exact .inr ⟨g, C, h1, h2, h3, (hb.block g (by omega)).trans h4, h5⟩
theorem OwnI.wide {w : World} {lo hi lo' hi' : Nat} {v : Value} {xs : List Int} (h : OwnI w lo hi v xs) (h1 : lo' ≤ lo) (h2 : hi ≤ hi') : OwnI w lo' hi' v xs := by
  obtain ⟨A, cap, e, h⟩ := h
  refine ⟨A, cap, e, ?_⟩
  rcases h with h | ⟨g, C, a1, a2, a3, a4, a5⟩
  · exact .inl h
  · exact .inr ⟨g, C, by omega, by omega, a3, a4, a5⟩
/-- The slice's form and the cell at place j. -/
theorem OwnI.cell {w : World} {lo hi : Nat} {v : Value} {xs : List Int} (h : OwnI w lo hi v xs) {j : Nat} (hj : j < xs.length) :
    ∃ g cap, v = .slice (some ⟨g, 0, none⟩) xs.length cap ∧ lo ≤ g ∧ g < hi ∧ w.cell? ⟨g, j, none⟩ = some (.int .i64 (xs.getD j 0)) ∧ w.frozen? ⟨g, j, none⟩ = false := by
  obtain ⟨A, cap, rfl, h⟩ := h
  rcases h with rfl | ⟨g, C, h1, h2, rfl, h4, h5⟩
  · simp at hj
  · refine ⟨g, cap, rfl, h1, h2, ?_, by simp [World.frozen?, h4]⟩
    rw [cell_of_row w g j C 3 (0, 0) h4]
    exact h5 j hj

set_option maxRecDepth 100000 in
set_option maxHeartbeats 800000 in
theorem eqI_same (v u : Value) (lo hi lo' hi' : Nat) (xs : List Int) (w : World) (hv : OwnI w lo hi v xs) (hu : OwnI w lo' hi' u xs) (hl : xs.length ≤ 1099511627776) :
    Calls Try.prog 8 #[v, u] w fun e w' => e = .returned (.bool true) ∧ Below w.heap.size w w' := by
  obtain ⟨A1, c1, rfl, k1⟩ := id hv
  obtain ⟨A2, c2, rfl, k2⟩ := id hu
  clear k1 k2
  have HV := Lib.hid hv
  have HU := Lib.hid hu
  clear hv hu
  go_enter Try.func8, Try.ntmps8
  go_wp2
  go_loopw [5] (fun x wr => ∃ (j k : Nat), j ≤ xs.length ∧ x = .int .i64 j ∧ wr = w.drewN k) (fun x _ => xs.length - (intOf x).toNat)
  case atStart => exact ⟨0, 0, Nat.zero_le _, rfl, rfl⟩
  case round =>
    obtain ⟨j, k, hj, rfl, rfl⟩ := hrel
    by_cases hlt : j < xs.length
    · obtain ⟨g1, p1, e1, -, -, hc1, -⟩ := HV.out.cell hlt
      obtain ⟨g2, p2, e2, -, -, hc2, -⟩ := HU.out.cell hlt
      simp only [Value.slice.injEq] at e1 e2
      obtain ⟨rfl, -, -⟩ := e1
      obtain ⟨rfl, -, -⟩ := e2
      have hji : (j : Int) < (xs.length : Int) := by omega
      generalize xs.getD j 0 = z at hc1 hc2
      go_wp2
      go_quiet (fail)
      go_wp2
      exact ⟨⟨j + 1, k + nq, by omega, by simp, rfl⟩, by simp [intOf]; omega⟩
    · go_wp2
      go_ret
      exact ⟨rfl, below_drewN (Below.refl _ _) k⟩

/-- n marks from k on. -/
def marks (k : Int) (n : Nat) : List Int := (List.range n).map fun (i : Nat) => k + (i : Int)
theorem marks_len (k : Int) (n : Nat) : (marks k n).length = n := by simp [marks]
theorem marks_at (k : Int) (n j : Nat) (h : j < n) : (marks k n).getD j 0 = k + j := by simp [marks, List.getD, h]
/-- The row when the first j places have been marked. -/
def mkL (k : Int) (j : Nat) (xs : List Int) : List Int := (List.range xs.length).map fun (i : Nat) => if i < j then k + (i : Int) else xs.getD i 0
theorem mkL_len (k : Int) (j : Nat) (xs : List Int) : (mkL k j xs).length = xs.length := by simp [mkL]
theorem mkL_at (k : Int) (j i : Nat) (xs : List Int) (h : i < xs.length) : (mkL k j xs).getD i 0 = if i < j then k + (i : Int) else xs.getD i 0 := by simp [mkL, List.getD, h]
theorem mkL_zero (k : Int) (xs : List Int) : mkL k 0 xs = xs := by
  apply List.ext_getElem
  · rw [mkL_len]
  · intro i h1 h2
    simp [mkL, List.getD, h2]
theorem mkL_all (k : Int) (xs : List Int) : mkL k xs.length xs = marks k xs.length := by
  unfold mkL marks
  refine List.map_congr_left fun i hi => ?_
  rw [if_pos (by simpa using hi)]
theorem OwnI.set {w : World} {lo hi g cap : Nat} {n : Nat} {xs ys : List Int} (h : OwnI w lo hi (.slice (some ⟨g, 0, none⟩) n cap) xs) {j : Nat} {y : Int} (hj : j < xs.length)
    (hl : ys.length = xs.length) (hy : ys.getD j 0 = y) (ho : ∀ i, i < xs.length → i ≠ j → ys.getD i 0 = xs.getD i 0) : OwnI (w.setCell ⟨g, j, none⟩ (.int .i64 y)) lo hi (.slice (some ⟨g, 0, none⟩) n cap) ys := by
  obtain ⟨A, cap', e, h⟩ := h
  simp only [Value.slice.injEq] at e
  obtain ⟨rfl, rfl, rfl⟩ := e
  refine ⟨_, _, by rw [hl], .inr ?_⟩
  rcases h with rfl | ⟨g', C, h1, h2, h3, h4, h5⟩
  · simp at hj
  · obtain rfl : g = g' := by simpa using h3
    refine ⟨g, C.setIfInBounds j (.int .i64 y), h1, h2, rfl, by simp [World.setCell, Array.getElem?_modify, h4], fun i hi => ?_⟩
    rw [hl] at hi
    by_cases e : i = j
    · subst e
      have hC : i < C.size := by
        have := h5 i hi
        rcases Nat.lt_or_ge i C.size with h | h
        · exact h
        · rw [Array.getElem?_eq_none h] at this; cases this
      rw [Array.getElem?_setIfInBounds_self_of_lt hC, hy]
    · rw [Array.getElem?_setIfInBounds_ne (by omega), h5 i hi, ho i hi e]
theorem OwnI.nil_form {w : World} {lo hi : Nat} {v : Value} {xs : List Int} (h : OwnI w lo hi v xs) : ∃ A cap, v = .slice A xs.length cap ∧ ∀ g', A = some g' → ∀ j, j < xs.length → g'.off = 0 ∧ g'.spot = none ∧ lo ≤ g'.block := by
  obtain ⟨A, cap, rfl, h⟩ := h
  refine ⟨A, cap, rfl, ?_⟩
  rintro g' rfl j hj
  rcases h with rfl | ⟨g, C, h1, h2, h3, h4, h5⟩
  · simp at hj
  · obtain rfl : g' = ⟨g, 0, none⟩ := by simpa using h3
    exact ⟨rfl, rfl, h1⟩

set_option maxRecDepth 100000 in
set_option maxHeartbeats 800000 in
theorem markI (v : Value) (lo hi : Nat) (xs : List Int) (k : Int) (w : World) (hv : OwnI w lo hi v xs) (hl : xs.length ≤ 1099511627776) (hk0 : 0 ≤ k) (hk : k ≤ 1099511627776) :
    Calls Try.prog 9 #[v, .int .i64 k] w fun e w' => e = .returned (.int .i64 (k + xs.length)) ∧ OwnI w' lo hi v (marks k xs.length) ∧ Below lo w w' := by
  obtain ⟨A1, c1, rfl, k1⟩ := id hv
  clear k1
  go_enter Try.func9, Try.ntmps9
  have HV := Lib.hid hv
  clear hv
  go_wp2
  go_loopw [1, 5] (fun x y wr => ∃ j : Nat, j ≤ xs.length ∧ y = .int .i64 j ∧ x = .int .i64 (k + j) ∧ OwnI wr lo hi (.slice A1 xs.length c1) (mkL k j xs) ∧ Below lo w wr) (fun _ y _ => xs.length - (intOf y).toNat)
  case atStart => exact ⟨0, Nat.zero_le _, rfl, by simp, by rw [mkL_zero]; exact HV.out, Below.refl _ _⟩
  case round =>
    obtain ⟨j, hj, rfl, rfl, ho, hb⟩ := hrel
    have HO := Lib.hid ho
    have HB := Lib.hid hb
    clear ho hb
    by_cases hlt : j < xs.length
    · obtain ⟨g1, p1, e1, hg1, -, hc1, hf1⟩ := HO.out.cell (j := j) (by rw [mkL_len]; exact hlt)
      simp only [Value.slice.injEq] at e1
      obtain ⟨rfl, -, rfl⟩ := e1
      have hji : (j : Int) < (xs.length : Int) := by omega
      go_wp2
      refine ⟨⟨j + 1, by omega, by simp, by congr 1; omega, ?_, HB.out.setCell hg1 _⟩, by simp [intOf]; omega⟩
      refine HO.out.set (j := j) (by rw [mkL_len]; exact hlt) (by rw [mkL_len, mkL_len]) ?_ ?_
      · rw [mkL_at _ _ _ _ hlt, if_pos (by omega)]
      · intro i hi hne
        rw [mkL_len] at hi
        rw [mkL_at _ _ _ _ hi, mkL_at _ _ _ _ hi]
        by_cases h : i < j
        · rw [if_pos h, if_pos (by omega)]
        · rw [if_neg h, if_neg (by omega)]
    · obtain rfl : j = xs.length := by omega
      go_wp2
      go_ret
      exact ⟨rfl, by rw [← mkL_all]; exact HO.out, HB.out⟩

set_option maxRecDepth 100000 in
set_option maxHeartbeats 800000 in
theorem heldI (v : Value) (lo hi : Nat) (n : Nat) (k : Int) (w : World) (hv : OwnI w lo hi v (marks k n)) (hl : n ≤ 1099511627776) (hk0 : 0 ≤ k) (hk : k ≤ 1099511627776) :
    Calls Try.prog 20 #[v, .int .i64 k] w fun e w' => e = .returned (.int .i64 (k + n)) ∧ w = w' := by
  obtain ⟨A1, c1, e, k1⟩ := id hv
  clear k1
  rw [marks_len] at e
  subst e
  have HV := Lib.hid hv
  clear hv
  go_enter Try.func20, Try.ntmps20
  go_wp2
  go_loop [1, 5] (fun x y => ∃ j : Nat, j ≤ n ∧ y = .int .i64 j ∧ x = .int .i64 (k + j)) (fun _ y => n - (intOf y).toNat)
  case atStart => exact ⟨0, Nat.zero_le _, rfl, by simp⟩
  case round =>
    obtain ⟨j, hj, rfl, rfl⟩ := hrel
    by_cases hlt : j < n
    · obtain ⟨g1, p1, e1, -, -, hc1, -⟩ := HV.out.cell (j := j) (by rw [marks_len]; exact hlt)
      rw [marks_at _ _ _ hlt] at hc1
      simp only [Value.slice.injEq] at e1
      obtain ⟨rfl, -, rfl⟩ := e1
      have hji : (j : Int) < (n : Int) := by omega
      go_wp2
      exact ⟨⟨j + 1, by omega, by simp, by congr 1; omega⟩, by simp [intOf]; omega⟩
    · obtain rfl : j = n := by omega
      go_wp2
      go_ret
      exact ⟨rfl, rfl⟩

end Go.Proofs.Ytgaggpdlpcldeaa
end

section
namespace Go.Proofs.Ytgaggpdlpcldeaa
open Go.ChangeShapes Go.WideShapes Go.ChangeAt Go.RowKit
set_option linter.unusedVariables false

structure Apart (lo hi : Nat) (w w' : World) : Prop where
  os : w'.os = w.os
  tape : w'.tape = w.tape
  output : w'.output = w.output
  size : w.heap.size ≤ w'.heap.size
  block : ∀ k, k < lo ∨ hi ≤ k → w'.heap[k]? = w.heap[k]?
theorem Apart.refl (lo hi : Nat) (w : World) : Apart lo hi w w := ⟨rfl, rfl, rfl, Nat.le_refl _, fun _ _ => rfl⟩
theorem Apart.setCell {lo hi : Nat} {a w : World} (h : Apart lo hi a w) {g k : Nat} (h1 : lo ≤ g) (h2 : g < hi) (y : Value) : Apart lo hi a (w.setCell ⟨g, k, none⟩ y) :=
  ⟨h.os, h.tape, h.output, by simpa [World.setCell] using h.size, fun q hq => (Below.heap_setCell w ⟨g, k, none⟩ y q (show q ≠ g by omega)).trans (h.block q hq)⟩
theorem Apart.below {lo hi B : Nat} {w w' : World} (h : Apart lo hi w w') (hB : B ≤ lo) : Below B w w' := ⟨h.os, h.tape, h.output, h.size, fun k hk => h.block k (.inl (by omega))⟩
theorem OwnI.apart {w w' : World} {lo hi lo' hi' : Nat} {v : Value} {xs : List Int} (h : OwnI w lo' hi' v xs) (ha : Apart lo hi w w') (hd : hi' ≤ lo ∨ hi ≤ lo') : OwnI w' lo' hi' v xs := by
  obtain ⟨A, cap, e, h⟩ := h
  refine ⟨A, cap, e, ?_⟩
  rcases h with h | ⟨g, C, h1, h2, h3, h4, h5⟩
  · exact .inl h
  · exact .inr ⟨g, C, h1, h2, h3, (ha.block g (by omega)).trans h4, h5⟩

set_option maxRecDepth 100000 in
set_option maxHeartbeats 800000 in
theorem markO (v : Value) (lo hi : Nat) (xs : List Int) (k : Int) (w : World) (hv : OwnI w lo hi v xs) (hl : xs.length ≤ 1099511627776) (hk0 : 0 ≤ k) (hk : k ≤ 1099511627776) :
    Calls Try.prog 9 #[v, .int .i64 k] w fun e w' => e = .returned (.int .i64 (k + xs.length)) ∧ OwnI w' lo hi v (marks k xs.length) ∧ Apart lo hi w w' := by
  obtain ⟨A1, c1, rfl, k1⟩ := id hv
  clear k1
  go_enter Try.func9, Try.ntmps9
  have HV := Lib.hid hv
  clear hv
  go_wp2
  go_loopw [1, 5] (fun x y wr => ∃ j : Nat, j ≤ xs.length ∧ y = .int .i64 j ∧ x = .int .i64 (k + j) ∧ OwnI wr lo hi (.slice A1 xs.length c1) (mkL k j xs) ∧ Apart lo hi w wr) (fun _ y _ => xs.length - (intOf y).toNat)
  case atStart => exact ⟨0, Nat.zero_le _, rfl, by simp, by rw [mkL_zero]; exact HV.out, Apart.refl _ _ _⟩
  case round =>
    obtain ⟨j, hj, rfl, rfl, ho, hb⟩ := hrel
    have HO := Lib.hid ho
    have HB := Lib.hid hb
    clear ho hb
    by_cases hlt : j < xs.length
    · obtain ⟨g1, p1, e1, hg1, hg2, hc1, hf1⟩ := HO.out.cell (j := j) (by rw [mkL_len]; exact hlt)
      simp only [Value.slice.injEq] at e1
      obtain ⟨rfl, -, rfl⟩ := e1
      have hji : (j : Int) < (xs.length : Int) := by omega
      go_wp2
      refine ⟨⟨j + 1, by omega, by simp, by congr 1; omega, ?_, HB.out.setCell hg1 hg2 _⟩, by simp [intOf]; omega⟩
      refine HO.out.set (j := j) (by rw [mkL_len]; exact hlt) (by rw [mkL_len, mkL_len]) ?_ ?_
      · rw [mkL_at _ _ _ _ hlt, if_pos (by omega)]
      · intro i hi hne
        rw [mkL_len] at hi
        rw [mkL_at _ _ _ _ hi, mkL_at _ _ _ _ hi]
        by_cases h : i < j
        · rw [if_pos h, if_pos (by omega)]
        · rw [if_neg h, if_neg (by omega)]
    · obtain rfl : j = xs.length := by omega
      go_wp2
      go_ret
      exact ⟨rfl, by rw [← mkL_all]; exact HO.out, HB.out⟩

end Go.Proofs.Ytgaggpdlpcldeaa
end

section
namespace Go.Proofs.Ytgaggpdlpcldeaa
open Go.ChangeShapes Go.WideShapes Go.ChangeAt Go.RowKit
set_option linter.unusedVariables false

theorem info9 : (Try.prog.info? 9).map (fun i => (i.zero, i.size, i.bytes)) = some (some (.string ⟨#[]⟩), 1, 16) := by kernel_rfl
/-- One string appended to a row of strings that the call owns. -/
theorem wpAppStr {w : World} {ops : Array Oper} {rest : List Oper} {o : Oper} {a : Act} {Q : Exit → Act → World → Prop} (hgd : o.guard = none) (s x : Operand)
    (ho : o.op = .call { callee := .builtin .append, args := #[s, x], argTypes := #[23, 23] })
    (base : Nat) (v : Value) (n : Nat) (xs : List ByteArray) (hs : a.eval s = v) (hown : w.ownsRow base 9 1 v n (xs.map Value.string))
    (b : Nat) (c : Nat) (y : ByteArray) (hx : a.eval x = .slice (some ⟨b, 0, none⟩) 1 c) (hcell : w.cell? ⟨b, 0, none⟩ = some (.string y))
    (hn : n ≤ 1099511627776) (hbase : base ≤ w.heap.size)
    (h : ∀ v' w', w'.ownsRow base 9 1 v' (n + 1) ((xs ++ [y]).map Value.string) → w.grownBy w' v.ownBlock → wpList Try.prog ops Q rest (a.put o.dst v') w') : wpList Try.prog ops Q (o :: rest) a w := by
  obtain ⟨i0, hi, hz0, hz1, hz2⟩ := info_parts info9
  refine wpList_append_own _ hgd s x 23 ho base 9 i0 (.string ⟨#[]⟩) 1 16 Try.underlying23 hi hz0 hz1 hz2 rfl (by decide) v n _ hs hown ⟨b, 0, none⟩ 1 c [.string y] hx rfl ?_ ?_ (by unfold maxLen; omega) (by omega) hbase ?_
  · intro j u hj
    match j, hj with
    | 0, hj => simp at hj; subst hj; simpa [Addr.add] using hcell
  · intro u hu; simp at hu; subst hu; rfl
  · intro v' w' h1 h2 _
    exact h v' w' (by simpa using h1) h2

def E0 : ByteArray := ⟨#[]⟩
/-- v is a slice of the strings xs, as OwnI is of ints. -/
def OwnS (w : World) (lo hi : Nat) (v : Value) (xs : List ByteArray) : Prop :=
  ∃ A cap, v = .slice A xs.length cap ∧ (xs = [] ∨ ∃ g C, lo ≤ g ∧ g < hi ∧ A = some ⟨g, 0, none⟩ ∧ w.heap[g]? = some (.cells C 9 (0, 0)) ∧ ∀ j, j < xs.length → C[j]? = some (.string (xs.getD j E0)))
theorem OwnS.of_row {w : World} {base : Nat} {v : Value} {n : Nat} {xs : List ByteArray} (h : w.ownsRow base 9 1 v n (xs.map Value.string)) : OwnS w base w.heap.size v xs := by
  have hl : xs.length = n := by have := h.1; simpa using this
  rcases h.2 with ⟨rfl, rfl⟩ | ⟨g, cap, cur, rfl, hb, hh, hnc, hcm, hcur, htake⟩
  · exact ⟨none, 0, by rw [hl], .inl (List.eq_nil_of_length_eq_zero hl)⟩
  · refine ⟨some ⟨g, 0, none⟩, cap, by rw [hl], .inr ⟨g, cur, hb, (h.lt g rfl).2, rfl, hh, fun j hj => ?_⟩⟩
    have e : cur.toList[j]? = (cur.toList.take (n * 1))[j]? := by rw [List.getElem?_take, if_pos (by omega)]
    rw [← Array.getElem?_toList, e, htake, List.getElem?_map]
    simp [List.getD, show j < xs.length from hj]
theorem OwnS.keep {w w' : World} {lo hi B : Nat} {v : Value} {xs : List ByteArray} (h : OwnS w lo hi v xs) (hb : Below B w w') (hB : hi ≤ B) : OwnS w' lo hi v xs := by
  obtain ⟨A, cap, e, h⟩ := h
  refine ⟨A, cap, e, ?_⟩
  rcases h with h | ⟨g, C, h1, h2, h3, h4, h5⟩
  · exact .inl h
  · exact .inr ⟨g, C, h1, h2, h3, (hb.block g (by omega)).trans h4, h5⟩
theorem OwnS.wide {w : World} {lo hi lo' hi' : Nat} {v : Value} {xs : List ByteArray} (h : OwnS w lo hi v xs) (h1 : lo' ≤ lo) (h2 : hi ≤ hi') : OwnS w lo' hi' v xs := by
  obtain ⟨A, cap, e, h⟩ := h
  refine ⟨A, cap, e, ?_⟩
  rcases h with h | ⟨g, C, a1, a2, a3, a4, a5⟩
  · exact .inl h
  · exact .inr ⟨g, C, by omega, by omega, a3, a4, a5⟩
theorem OwnS.cell {w : World} {lo hi : Nat} {v : Value} {xs : List ByteArray} (h : OwnS w lo hi v xs) {j : Nat} (hj : j < xs.length) :
    ∃ g cap, v = .slice (some ⟨g, 0, none⟩) xs.length cap ∧ lo ≤ g ∧ g < hi ∧ w.cell? ⟨g, j, none⟩ = some (.string (xs.getD j E0)) ∧ w.frozen? ⟨g, j, none⟩ = false := by
  obtain ⟨A, cap, rfl, h⟩ := h
  rcases h with rfl | ⟨g, C, h1, h2, rfl, h4, h5⟩
  · simp at hj
  · refine ⟨g, cap, rfl, h1, h2, ?_, by simp [World.frozen?, h4]⟩
    rw [cell_of_row w g j C 9 (0, 0) h4]
    exact h5 j hj
theorem OwnS.set {w : World} {lo hi g cap : Nat} {n : Nat} {xs ys : List ByteArray} (h : OwnS w lo hi (.slice (some ⟨g, 0, none⟩) n cap) xs) {j : Nat} {y : ByteArray} (hj : j < xs.length)
    (hl : ys.length = xs.length) (hy : ys.getD j E0 = y) (ho : ∀ i, i < xs.length → i ≠ j → ys.getD i E0 = xs.getD i E0) : OwnS (w.setCell ⟨g, j, none⟩ (.string y)) lo hi (.slice (some ⟨g, 0, none⟩) n cap) ys := by
  obtain ⟨A, cap', e, h⟩ := h
  simp only [Value.slice.injEq] at e
  obtain ⟨rfl, rfl, rfl⟩ := e
  refine ⟨_, _, by rw [hl], .inr ?_⟩
  rcases h with rfl | ⟨g', C, h1, h2, h3, h4, h5⟩
  · simp at hj
  · obtain rfl : g = g' := by simpa using h3
    refine ⟨g, C.setIfInBounds j (.string y), h1, h2, rfl, by simp [World.setCell, Array.getElem?_modify, h4], fun i hi => ?_⟩
    rw [hl] at hi
    by_cases e : i = j
    · subst e
      have hC : i < C.size := by
        have := h5 i hi
        rcases Nat.lt_or_ge i C.size with h | h
        · exact h
        · rw [Array.getElem?_eq_none h] at this; cases this
      rw [Array.getElem?_setIfInBounds_self_of_lt hC, hy]
    · rw [Array.getElem?_setIfInBounds_ne (by omega), h5 i hi, ho i hi e]

/-- The decimal digits of a number; none of 0. -/
def dgL (k : Nat) : List UInt8 := if h : k = 0 then [] else dgL (k / 10) ++ [UInt8.ofNat (48 + k % 10)]
termination_by k
decreasing_by omega
theorem dgL_zero : dgL 0 = [] := by rw [dgL]; simp
theorem dgL_step (k : Nat) (h : k ≠ 0) (l : List UInt8) : dgL k ++ l = dgL (k / 10) ++ UInt8.ofNat (48 + k % 10) :: l := by
  rw [dgL, dif_neg h]; simp
theorem dgL_len : ∀ (j k : Nat), k < 10 ^ j → (dgL k).length ≤ j := by
  intro j
  induction j with
  | zero => intro k h; have : k = 0 := by simp at h; omega
            subst this; rw [dgL_zero]; simp
  | succ j ih =>
    intro k h
    by_cases h0 : k = 0
    · subst h0; rw [dgL_zero]; simp
    · rw [dgL, dif_neg h0]
      have := ih (k / 10) (by rw [Nat.pow_succ] at h; omega)
      simp only [List.length_append, List.length_cons, List.length_nil]; omega
/-- What markText answers. -/
def mtS (k : Nat) : ByteArray := ⟨(109 :: dgL k).toArray⟩
theorem convB (w : World) (y : Int) : (convert 51 9 (.slice (some ⟨w.heap.size, 0, none⟩) 1 1)).run Try.prog (w.alloc (.cells #[.int .u8 y] 5)) = .ok (.string (strOfNums [y])) (w.alloc (.cells #[.int .u8 y] 5)) := by
  refine run_convert_bytes_arg _ 51 5 Try.underlying51 Try.underlying5 w.heap.size 0 1 1 [y] rfl (fun i hi => ?_) 9 Try.underlying9
  obtain rfl : i = 0 := by omega
  exact cell_one w _ _
theorem str_dig (r : Nat) (l : List UInt8) : strOfNums [48 + (r : Int)] ++ ⟨l.toArray⟩ = ⟨(UInt8.ofNat (48 + r) :: l).toArray⟩ := by
  unfold strOfNums
  rw [ByteArray.mk_append_mk]
  have : (48 + (r : Int)).toNat = 48 + r := by omega
  simp [this]
theorem ret_s {a b : ByteArray} (h : a = b) : Ending.returned (.string a) = .returned (.string b) := by rw [h]

set_option maxRecDepth 100000 in
set_option maxHeartbeats 800000 in
theorem markText (k : Nat) (w : World) (h0 : 0 < k) (h1 : k ≤ 2199023255552) :
    Calls Try.prog 29 #[.int .i64 k] w fun e w' => e = .returned (.string (mtS k)) ∧ Below w.heap.size w w' := by
  go_enter Try.func29, Try.ntmps29
  go_wp2
  go_loopw [0, 3] (fun x o wr => ∃ (m : Nat) (l : List UInt8), x = .int .i64 m ∧ m ≤ k ∧ o = .string ⟨l.toArray⟩ ∧ dgL m ++ l = dgL k ∧ Below w.heap.size w wr)
    (fun x _ _ => (intOf x).toNat)
  case atStart => exact ⟨k, [], rfl, Nat.le_refl _, rfl, by simp, Below.refl _ _⟩
  case round =>
    obtain ⟨m, l, rfl, hm, rfl, hd, hb⟩ := hrel
    have hl : l.length ≤ 20 := by
      have h2 := dgL_len 20 k (by have e : (10 : Nat) ^ 20 = 100000000000000000000 := by decide
                                  omega)
      rw [← hd] at h2
      simp only [List.length_append] at h2
      omega
    have HD := Lib.hid hd
    clear hd
    by_cases hm0 : m = 0
    · have HM := Lib.hid hm0
      have e2 : ¬ 0 < m := by omega
      clear hm0
      go_wp2
      go_ret
      refine ⟨ret_s ?_, hb⟩
      have h := HD.out
      rw [HM.out, dgL_zero, List.nil_append] at h
      rw [h]
      exact ByteArray.mk_append_mk [109] (dgL k)
    · have hconv := fun y => convB wr y
      have hs1 : ∀ y : Int, (strOfNums [y]).size = 1 := fun y => strOfNums_size [y]
      have HM := Lib.hid hm0
      have e2 : 0 < m := by omega
      clear hm0
      go_wp2
      refine ⟨⟨m / 10, UInt8.ofNat (48 + m % 10) :: l, by simp, by omega, ?_, ?_, hb.alloc hb.size _⟩, by have := HM.out; simp [intOf]; omega⟩
      · rw [← str_dig]; simp
      · rw [← dgL_step m HM.out]; exact HD.out
theorem markText_is (x : Int) (k : Nat) (hx : x = k) (w : World) (h0 : 0 < k) (h1 : k ≤ 2199023255552) :
    Calls Try.prog 29 #[.int .i64 x] w fun e w' => e = .returned (.string (mtS k)) ∧ Below w.heap.size w w' := by subst hx; exact markText k w h0 h1

set_option maxRecDepth 100000 in
set_option maxHeartbeats 800000 in
theorem eqS_same (v u : Value) (lo hi lo' hi' : Nat) (xs : List ByteArray) (w : World) (hv : OwnS w lo hi v xs) (hu : OwnS w lo' hi' u xs) (hl : xs.length ≤ 1099511627776) :
    Calls Try.prog 15 #[v, u] w fun e w' => e = .returned (.bool true) ∧ Below w.heap.size w w' := by
  obtain ⟨A1, c1, rfl, k1⟩ := id hv
  obtain ⟨A2, c2, rfl, k2⟩ := id hu
  clear k1 k2
  have HV := Lib.hid hv
  have HU := Lib.hid hu
  clear hv hu
  go_enter Try.func15, Try.ntmps15
  go_wp2
  go_loopw [5] (fun x wr => ∃ (j k : Nat), j ≤ xs.length ∧ x = .int .i64 j ∧ wr = w.drewN k) (fun x _ => xs.length - (intOf x).toNat)
  case atStart => exact ⟨0, 0, Nat.zero_le _, rfl, rfl⟩
  case round =>
    obtain ⟨j, k, hj, rfl, rfl⟩ := hrel
    by_cases hlt : j < xs.length
    · obtain ⟨g1, p1, e1, -, -, hc1, -⟩ := HV.out.cell hlt
      obtain ⟨g2, p2, e2, -, -, hc2, -⟩ := HU.out.cell hlt
      simp only [Value.slice.injEq] at e1 e2
      obtain ⟨rfl, -, -⟩ := e1
      obtain ⟨rfl, -, -⟩ := e2
      have hji : (j : Int) < (xs.length : Int) := by omega
      generalize xs.getD j E0 = z at hc1 hc2
      go_wp2
      go_quiet (fail)
      go_wp2
      exact ⟨⟨j + 1, k + nq, by omega, by simp, rfl⟩, by simp [intOf]; omega⟩
    · go_wp2
      go_ret
      exact ⟨rfl, below_drewN (Below.refl _ _) k⟩

/-- n marks from k on. -/
def marksS (k : Nat) (n : Nat) : List ByteArray := (List.range n).map fun (i : Nat) => mtS (k + i)
theorem marksS_len (k : Nat) (n : Nat) : (marksS k n).length = n := by simp [marksS]
theorem marksS_at (k n j : Nat) (h : j < n) : (marksS k n).getD j E0 = mtS (k + j) := by simp [marksS, List.getD, h]
def mkS (k : Nat) (j : Nat) (xs : List ByteArray) : List ByteArray := (List.range xs.length).map fun (i : Nat) => if i < j then mtS (k + i) else xs.getD i E0
theorem mkS_len (k : Nat) (j : Nat) (xs : List ByteArray) : (mkS k j xs).length = xs.length := by simp [mkS]
theorem mkS_at (k j i : Nat) (xs : List ByteArray) (h : i < xs.length) : (mkS k j xs).getD i E0 = if i < j then mtS (k + i) else xs.getD i E0 := by simp [mkS, List.getD, h]
theorem mkS_zero (k : Nat) (xs : List ByteArray) : mkS k 0 xs = xs := by
  apply List.ext_getElem
  · rw [mkS_len]
  · intro i h1 h2
    simp [mkS, List.getD, h2]
theorem mkS_all (k : Nat) (xs : List ByteArray) : mkS k xs.length xs = marksS k xs.length := by
  unfold mkS marksS
  refine List.map_congr_left fun i hi => ?_
  rw [if_pos (by simpa using hi)]

set_option maxRecDepth 100000 in
set_option maxHeartbeats 800000 in
theorem markS (v : Value) (lo hi : Nat) (xs : List ByteArray) (k : Nat) (w : World) (hv : OwnS w lo hi v xs) (hhi : hi ≤ w.heap.size) (hlo : lo ≤ w.heap.size) (hl : xs.length ≤ 1099511627776) (hk0 : 0 < k) (hk : k ≤ 1099511627776) :
    Calls Try.prog 17 #[v, .int .i64 k] w fun e w' => e = .returned (.int .i64 ((k : Int) + xs.length)) ∧ OwnS w' lo hi v (marksS k xs.length) ∧ Below lo w w' := by
  obtain ⟨A1, c1, rfl, k1⟩ := id hv
  clear k1
  go_enter Try.func17, Try.ntmps17
  have HV := Lib.hid hv
  clear hv
  go_wp2
  go_loopw [1, 5] (fun x y wr => ∃ j : Nat, j ≤ xs.length ∧ y = .int .i64 j ∧ x = .int .i64 ((k : Int) + j) ∧ OwnS wr lo hi (.slice A1 xs.length c1) (mkS k j xs) ∧ Below lo w wr) (fun _ y _ => xs.length - (intOf y).toNat)
  case atStart => exact ⟨0, Nat.zero_le _, rfl, by simp, by rw [mkS_zero]; exact HV.out, Below.refl _ _⟩
  case round =>
    obtain ⟨j, hj, rfl, rfl, ho, hb⟩ := hrel
    have HO := Lib.hid ho
    have HB := Lib.hid hb
    have hsz := hb.size
    clear ho hb
    by_cases hlt : j < xs.length
    · go_wp2_with fail
      (with_reducible refine (markText_is ((k : Int) + j) (k + j) (by simp) _ (by omega) (by omega)).mono ?_)
      rintro e w1 ⟨rfl, hb1⟩
      have ho1 := HO.out.keep hb1 (by omega)
      have HO1 := Lib.hid ho1
      have HB1 := Lib.hid (HB.out.trans (hb1.mono (by omega)))
      obtain ⟨g1, p1, e1, hg1, -, hc1, hf1⟩ := ho1.cell (j := j) (by rw [mkS_len]; exact hlt)
      clear ho1 hb1
      simp only [Value.slice.injEq] at e1
      obtain ⟨rfl, -, rfl⟩ := e1
      have hji : (j : Int) < (xs.length : Int) := by omega
      go_wp2
      refine ⟨⟨j + 1, by omega, by simp, by congr 1 <;> omega, ?_, HB1.out.setCell hg1 _⟩, by simp [intOf]; omega⟩
      refine HO1.out.set (j := j) (by rw [mkS_len]; exact hlt) (by rw [mkS_len, mkS_len]) ?_ ?_
      · rw [mkS_at _ _ _ _ hlt, if_pos (by omega)]
      · intro i hi hne
        rw [mkS_len] at hi
        rw [mkS_at _ _ _ _ hi, mkS_at _ _ _ _ hi]
        by_cases h : i < j
        · rw [if_pos h, if_pos (by omega)]
        · rw [if_neg h, if_neg (by omega)]
    · obtain rfl : j = xs.length := by omega
      go_wp2
      go_ret
      exact ⟨rfl, by rw [← mkS_all]; exact HO.out, HB.out⟩

set_option maxRecDepth 100000 in
set_option maxHeartbeats 1600000 in
theorem heldS (v : Value) (lo hi : Nat) (n k : Nat) (w : World) (hv : OwnS w lo hi v (marksS k n)) (hhi : hi ≤ w.heap.size) (hl : n ≤ 1099511627776) (hk0 : 0 < k) (hk : k ≤ 1099511627776) :
    Calls Try.prog 19 #[v, .int .i64 k] w fun e w' => e = .returned (.int .i64 ((k : Int) + n)) ∧ Below w.heap.size w w' := by
  obtain ⟨A1, c1, e, k1⟩ := id hv
  clear k1
  rw [marksS_len] at e
  subst e
  have HV := Lib.hid hv
  clear hv
  go_enter Try.func19, Try.ntmps19
  go_wp2
  go_loopw [1, 5] (fun x y wr => ∃ j : Nat, j ≤ n ∧ y = .int .i64 j ∧ x = .int .i64 ((k : Int) + j) ∧ Below w.heap.size w wr) (fun _ y _ => n - (intOf y).toNat)
  case atStart => exact ⟨0, Nat.zero_le _, rfl, by simp, Below.refl _ _⟩
  case round =>
    obtain ⟨j, hj, rfl, rfl, hb⟩ := hrel
    have HB := Lib.hid hb
    have hsz := hb.size
    by_cases hlt : j < n
    · obtain ⟨g1, p1, e1, -, hg1, hc1, -⟩ := (HV.out.keep hb hhi).cell (j := j) (by rw [marksS_len]; exact hlt)
      rw [marksS_at _ _ _ hlt] at hc1
      simp only [Value.slice.injEq] at e1
      obtain ⟨rfl, -, rfl⟩ := e1
      clear hb
      have hji : (j : Int) < (n : Int) := by omega
      have hself : ((mtS (k + j)).toList == (mtS (k + j)).toList) = true := by simp
      have hself2 : ((mtS (k + j)).toList != (mtS (k + j)).toList) = false := by simp
      have hmt : ∀ W : World, Calls Try.prog 29 #[.int .i64 ((k : Int) + j)] W fun e w' => e = .returned (.string (mtS (k + j))) ∧ Below W.heap.size W w' := fun W => markText_is ((k : Int) + j) (k + j) (by simp) W (by omega) (by omega)
      have HMT := Lib.hid hmt
      clear hmt
      generalize mtS (k + j) = z at *
      go_wp2
      go_region_law (go_simp; go_at_call 29; refine (HMT.out _).mono ?_; rintro e w1 ⟨rfl, hb1⟩; have hc1' := (hb1.cell (p := ⟨g1, j, none⟩) (by simp; omega)).trans hc1)
      all_goals go_wp2
      all_goals exact ⟨⟨j + 1, by omega, by simp, by congr 1 <;> omega, HB.out.drew.trans (hb1.mono hsz)⟩, by simp [intOf]; omega⟩
    · obtain rfl : j = n := by omega
      go_wp2
      go_ret
      exact ⟨rfl, HB.out⟩

end Go.Proofs.Ytgaggpdlpcldeaa
end

section
namespace Go.Proofs.Ytgaggpdlpcldeaa
open Go.RowKit
open Go.PlainAid (bt bt_nonneg bt_le get_bt)
set_option linter.unusedVariables false

/-- The letters from place k on. -/
def rest (s : ByteArray) (k : Nat) : List UInt8 := s.data.toList.drop k
theorem rest_zero (s : ByteArray) : rest s 0 = s.data.toList := rfl
theorem rest_cons (s : ByteArray) (k : Nat) (h : k < s.size) : rest s k = s[k] :: rest s (k + 1) := by
  unfold rest
  rw [List.drop_eq_getElem_cons (by simpa using h)]
  rfl
theorem rest_end (s : ByteArray) (k : Nat) (h : s.size ≤ k) : rest s k = [] := List.drop_of_length_le (by simpa using h)
theorem bt_at (s : ByteArray) (k : Nat) (h : k < s.size) : bt s k = (s[k].toNat : Int) := (get_bt s k h).symm

/-- From height h on the letters never go below 0 and end at 0. -/
def dyckFrom : Nat → List UInt8 → Bool
  | h, [] => h == 0
  | h, c :: l => if c.toNat = 117 then dyckFrom (h + 1) l else if c.toNat = 100 then (match h with | 0 => false | k + 1 => dyckFrom k l) else false
theorem df_nil (h : Nat) : dyckFrom h [] = (h == 0) := by unfold dyckFrom; rfl
theorem df_up (h : Nat) (c : UInt8) (l : List UInt8) (e : c.toNat = 117) : dyckFrom h (c :: l) = dyckFrom (h + 1) l := by
  conv => lhs; unfold dyckFrom
  rw [if_pos e]
theorem df_down (h : Nat) (c : UInt8) (l : List UInt8) (e : c.toNat = 100) : dyckFrom (h + 1) (c :: l) = dyckFrom h l := by
  conv => lhs; unfold dyckFrom
  rw [if_neg (by omega), if_pos e]
theorem df_below (c : UInt8) (l : List UInt8) (e : c.toNat = 100) : dyckFrom 0 (c :: l) = false := by
  unfold dyckFrom
  rw [if_neg (by omega), if_pos e]
theorem df_other (h : Nat) (c : UInt8) (l : List UInt8) (e : c.toNat ≠ 117) (e' : c.toNat ≠ 100) : dyckFrom h (c :: l) = false := by
  unfold dyckFrom
  rw [if_neg e, if_neg e']
/-- A path of a size of at most 8. -/
def dyck (s : ByteArray) : Bool := decide (s.size ≤ 16) && dyckFrom 0 s.data.toList
theorem dyck_long {s : ByteArray} (h : 16 < s.size) : dyck s = false := by unfold dyck; rw [decide_eq_false (by omega)]; rfl
theorem dyck_short {s : ByteArray} (h : s.size ≤ 16) : dyck s = dyckFrom 0 s.data.toList := by unfold dyck; rw [decide_eq_true h]; rfl
theorem dyck_size {s : ByteArray} (h : dyck s = true) : s.size ≤ 16 := by
  unfold dyck at h
  simp only [Bool.and_eq_true, decide_eq_true_eq] at h
  exact h.1
/-- In a path that goes on from height h each letter is u or d, and a d does not go below 0. -/
theorem df_letter {h : Nat} {c : UInt8} {l : List UInt8} (hd : dyckFrom h (c :: l) = true) : (c.toNat = 117 ∧ dyckFrom (h + 1) l = true) ∨ (c.toNat = 100 ∧ 1 ≤ h ∧ dyckFrom (h - 1) l = true) := by
  by_cases e : c.toNat = 117
  · exact .inl ⟨e, by rwa [df_up h c l e] at hd⟩
  · by_cases e' : c.toNat = 100
    · rcases h with _ | k
      · rw [df_below c l e'] at hd; cases hd
      · rw [df_down k c l e'] at hd
        exact .inr ⟨e', by omega, hd⟩
    · rw [df_other h c l e e'] at hd; cases hd

end Go.Proofs.Ytgaggpdlpcldeaa
end

section
namespace Go.Proofs.Ytgaggpdlpcldeaa
open Go.ChangeShapes Go.WideShapes Go.ChangeAt Go.RowKit
open Go.PlainAid (bt bt_nonneg bt_le get_bt)
set_option linter.unusedVariables false

theorem ret_bool {a b : Bool} (h : a = b) : Ending.returned (.bool a) = .returned (.bool b) := by rw [h]
theorem ret_int {a b : Int} (h : a = b) : Ending.returned (.int .i64 a) = .returned (.int .i64 b) := by rw [h]
theorem ret_str {a b : ByteArray} (h : a = b) : Ending.returned (.string a) = .returned (.string b) := by rw [h]

theorem l1In_yes (x lo hi : Int) (w : World) (h1 : lo ≤ x) (h2 : x ≤ hi) :
    Calls Try.prog 23 #[.int .i64 x, .int .i64 lo, .int .i64 hi] w fun e w' => e = .returned (.bool true) ∧ w = w' := by
  go_enter Try.func23, Try.ntmps23
  go_wp2
  go_ret
  exact ⟨rfl, rfl⟩
theorem l1In_no1 (x lo hi : Int) (w : World) (h1 : x < lo) :
    Calls Try.prog 23 #[.int .i64 x, .int .i64 lo, .int .i64 hi] w fun e w' => e = .returned (.bool false) ∧ w = w' := by
  go_enter Try.func23, Try.ntmps23
  go_wp2
  go_ret
  exact ⟨rfl, rfl⟩
theorem l1In_no2 (x lo hi : Int) (w : World) (h1 : lo ≤ x) (h2 : hi < x) :
    Calls Try.prog 23 #[.int .i64 x, .int .i64 lo, .int .i64 hi] w fun e w' => e = .returned (.bool false) ∧ w = w' := by
  go_enter Try.func23, Try.ntmps23
  go_wp2
  go_ret
  exact ⟨by simpa using h2, rfl⟩

set_option maxRecDepth 100000 in
set_option maxHeartbeats 800000 in
theorem isDyck (s : ByteArray) (w : World) (hs : s.size ≤ 1099511627776) :
    Calls Try.prog 32 #[.string s] w fun e w' => e = .returned (.bool (dyck s)) ∧ w = w' := by
  go_enter Try.func32, Try.ntmps32
  go_wp2
  go_loop [3, 4] (fun x y => ∃ i h : Nat, i ≤ s.size ∧ h ≤ i ∧ y = .int .i64 i ∧ x = .int .i64 h ∧ dyckFrom 0 s.data.toList = dyckFrom h (rest s i)) (fun _ y => s.size - (intOf y).toNat)
  case atStart => exact ⟨0, 0, Nat.zero_le _, Nat.le_refl _, rfl, rfl, rfl⟩
  case round =>
    obtain ⟨i, h, hi, hh, rfl, rfl, hd⟩ := hrel
    have HD := Lib.hid hd
    clear hd
    by_cases hlt : i < s.size
    · have hbt := get_bt s
      have hb0 := bt_nonneg s i
      have HR := Lib.hid (rest_cons s i hlt)
      have HB := Lib.hid (bt_at s i hlt)
      by_cases e1 : bt s i = 117
      · have b1 : (bt s i == 117) = true := by simp [e1]
        have HE := Lib.hid (show s[i].toNat = 117 by have := HB.out; omega)
        clear e1
        go_wp2
        refine ⟨⟨i + 1, h + 1, by omega, by omega, by simp, by simp, ?_⟩, by simp [intOf]; omega⟩
        rw [HD.out, HR.out, df_up _ _ _ HE.out]
      · have b1 : (bt s i == 117) = false := by simp [e1]
        by_cases e2 : bt s i = 100
        · have b2 : (bt s i == 100) = true := by simp [e2]
          have HE := Lib.hid (show s[i].toNat = 100 by have := HB.out; omega)
          clear e1 e2
          rcases h with _ | h
          · go_wp2
            go_ret
            refine ⟨ret_bool ?_, rfl⟩
            unfold dyck
            rw [HD.out, HR.out, df_below _ _ HE.out]; simp
          · go_wp2
            refine ⟨⟨i + 1, h, by omega, by omega, by simp, by simp, ?_⟩, by simp [intOf]; omega⟩
            rw [HD.out, HR.out, df_down _ _ _ HE.out]
        · have b2 : (bt s i == 100) = false := by simp [e2]
          have HE := Lib.hid (show s[i].toNat ≠ 117 ∧ s[i].toNat ≠ 100 by have := HB.out; omega)
          clear e1 e2
          go_wp2
          go_ret
          refine ⟨ret_bool ?_, rfl⟩
          unfold dyck
          rw [HD.out, HR.out, df_other _ _ _ HE.out.1 HE.out.2]; simp
    · have HE := Lib.hid (rest_end s i (by omega))
      by_cases h0 : h = 0
      · have b0 : ((h : Int) == 0) = true := by simp [h0]
        have HZ := Lib.hid h0
        clear h0
        by_cases h16 : s.size ≤ 16
        · have b16 : decide ((s.size : Int) ≤ 16) = true := by simp; omega
          go_wp2
          go_ret
          refine ⟨ret_bool ?_, rfl⟩
          rw [dyck_short h16, HD.out, HE.out, df_nil, HZ.out]
          simp
        · have b16 : decide ((s.size : Int) ≤ 16) = false := by simp; omega
          go_wp2
          go_ret
          refine ⟨ret_bool ?_, rfl⟩
          rw [dyck_long (by omega)]
      · have b0 : ((h : Int) == 0) = false := by simp [h0]
        have HZ := Lib.hid h0
        clear h0
        go_wp2
        go_ret
        refine ⟨ret_bool ?_, rfl⟩
        unfold dyck
        rw [HD.out, HE.out, df_nil]
        have := HZ.out
        simp [this]
theorem isDyck_yes (s : ByteArray) (w : World) (hs : s.size ≤ 1099511627776) (h : dyck s = true) : Calls Try.prog 32 #[.string s] w fun e w' => e = .returned (.bool true) ∧ w = w' := by
  have := isDyck s w hs; rwa [h] at this
theorem isDyck_no (s : ByteArray) (w : World) (hs : s.size ≤ 1099511627776) (h : dyck s = false) : Calls Try.prog 32 #[.string s] w fun e w' => e = .returned (.bool false) ∧ w = w' := by
  have := isDyck s w hs; rwa [h] at this

/-- What SizeOf answers. -/
def sizeP (s : ByteArray) : Int := if dyck s = true then ((s.size / 2 : Nat) : Int) else -1
end Go.Proofs.Ytgaggpdlpcldeaa
end

section
namespace Go.Proofs.Ytgaggpdlpcldeaa
open Go.ChangeShapes Go.WideShapes Go.ChangeAt Go.RowKit
open Go.PlainAid (bt bt_nonneg bt_le get_bt)
set_option linter.unusedVariables false

/-- The heights before each letter and at the end, from height h on. -/
def hsL : Int → List UInt8 → List Int
  | h, [] => [h]
  | h, c :: l => h :: hsL (if c.toNat = 117 then h + 1 else h - 1) l
theorem hsL_nil (h : Int) : hsL h [] = [h] := rfl
theorem hsL_up (h : Int) (c : UInt8) (l : List UInt8) (e : c.toNat = 117) : hsL h (c :: l) = h :: hsL (h + 1) l := by rw [hsL, if_pos e]
theorem hsL_down (h : Int) (c : UInt8) (l : List UInt8) (e : c.toNat ≠ 117) : hsL h (c :: l) = h :: hsL (h - 1) l := by rw [hsL, if_neg e]
theorem hsL_len (h : Int) (l : List UInt8) : (hsL h l).length = l.length + 1 := by
  induction l generalizing h with
  | nil => rfl
  | cons c l ih => rw [hsL, List.length_cons, ih, List.length_cons]
def heightsP (s : ByteArray) : List Int := if dyck s = true then hsL 0 s.data.toList else []
theorem heightsP_yes {s : ByteArray} (h : dyck s = true) : heightsP s = hsL 0 s.data.toList := if_pos h
theorem heightsP_no {s : ByteArray} (h : dyck s = false) : heightsP s = [] := if_neg (by simp [h])
theorem heightsP_len (s : ByteArray) : (heightsP s).length ≤ 17 := by
  unfold heightsP
  split
  · rename_i h
    have := dyck_size h
    rw [hsL_len]; simp; omega
  · simp

/-- A function that answers the ints xs in memory of its own. -/
def AnsI (xs : List Int) (w : World) (e : Ending) (w' : World) : Prop := ∃ v, e = .returned v ∧ OwnI w' w.heap.size w'.heap.size v xs ∧ Below w.heap.size w w'

end Go.Proofs.Ytgaggpdlpcldeaa
end

section
namespace Go.Proofs.Ytgaggpdlpcldeaa
open Go.ChangeShapes Go.WideShapes Go.ChangeAt Go.RowKit
open Go.PlainAid (bt bt_nonneg bt_le get_bt)
set_option linter.unusedVariables false

/-- How many zeros. -/
def zeros : List Int → Nat
  | [] => 0
  | x :: l => (if x = 0 then 1 else 0) + zeros l
theorem zeros_snoc (l : List Int) (x : Int) : zeros (l ++ [x]) = zeros l + if x = 0 then 1 else 0 := by
  induction l with
  | nil => simp [zeros]
  | cons y l ih => simp only [List.cons_append, zeros, ih]; omega
theorem zeros_le (l : List Int) : zeros l ≤ l.length := by
  induction l with
  | nil => simp [zeros]
  | cons y l ih => simp only [zeros, List.length_cons]; split <;> omega
theorem take_int (xs : List Int) (i : Nat) (h : i < xs.length) : xs.take (i + 1) = xs.take i ++ [xs.getD i 0] := by
  rw [List.take_succ_eq_append_getElem h, List.getD_eq_getElem?_getD, List.getElem?_eq_getElem h]; rfl
def returnsP (s : ByteArray) : Int := (zeros (heightsP s) : Int) - 1

/-- The sum of the heights before the letters u. -/
def aL : List UInt8 → List Int → Int
  | c :: l, x :: xs => (if c.toNat = 117 then x else 0) + aL l xs
  | _, _ => 0
theorem aL_up (c : UInt8) (l : List UInt8) (x : Int) (xs : List Int) (e : c.toNat = 117) : aL (c :: l) (x :: xs) = x + aL l xs := by rw [aL, if_pos e]
theorem aL_down (c : UInt8) (l : List UInt8) (x : Int) (xs : List Int) (e : c.toNat ≠ 117) : aL (c :: l) (x :: xs) = aL l xs := by rw [aL, if_neg e]; omega
theorem aL_nil (xs : List Int) : aL [] xs = 0 := by cases xs <;> rfl
theorem drop_int (xs : List Int) (i : Nat) (h : i < xs.length) : xs.drop i = xs.getD i 0 :: xs.drop (i + 1) := by
  rw [List.drop_eq_getElem_cons h, List.getD_eq_getElem?_getD, List.getElem?_eq_getElem h]; rfl
theorem hsL_bd (h : Int) (l : List UInt8) : ∀ x ∈ hsL h l, h - l.length ≤ x ∧ x ≤ h + l.length := by
  induction l generalizing h with
  | nil => intro x hx; simp [hsL] at hx; subst hx; simp
  | cons c l ih =>
    intro x hx
    rw [hsL] at hx
    simp only [List.length_cons]
    rcases List.mem_cons.1 hx with rfl | hx
    · omega
    · have := ih _ x hx
      split at this <;> omega
theorem heightsP_bd (s : ByteArray) (i : Nat) (h : i < (heightsP s).length) : -16 ≤ (heightsP s).getD i 0 ∧ (heightsP s).getD i 0 ≤ 16 := by
  have hm : (heightsP s).getD i 0 ∈ heightsP s := by
    rw [List.getD_eq_getElem?_getD, List.getElem?_eq_getElem h]; exact List.getElem_mem _
  unfold heightsP at hm ⊢
  split at hm
  · rename_i hd
    rw [if_pos hd]
    have h1 := hsL_bd 0 s.data.toList _ hm
    have h2 := dyck_size hd
    have h3 : s.data.toList.length = s.size := by simp
    omega
  · simp at hm
def areaP (s : ByteArray) : Int := if dyck s = true then aL s.data.toList (hsL 0 s.data.toList) else -1

end Go.Proofs.Ytgaggpdlpcldeaa
end

section
namespace Go.Proofs.Ytgaggpdlpcldeaa
open Go.ChangeShapes Go.WideShapes Go.ChangeAt Go.RowKit
open Go.PlainAid (bt bt_nonneg bt_le get_bt)
set_option linter.unusedVariables false

/-- How many of the first k places bear a u with a d behind it. -/
def pkN (s : ByteArray) : Nat → Nat
  | 0 => 0
  | k + 1 => pkN s k + if bt s k = 117 ∧ bt s (k + 1) = 100 then 1 else 0
theorem pkN_le (s : ByteArray) (k : Nat) : pkN s k ≤ k := by
  induction k with
  | zero => simp [pkN]
  | succ k ih => rw [pkN]; split <;> omega
def peaksP (s : ByteArray) : Int := if dyck s = true then (pkN s (s.size - 1) : Int) else -1
theorem two_at {s : ByteArray} {j : Nat} (h : j + 1 < s.size) : (s.extract j (j + 1 + 1)).toList = [s[j], s[j + 1]] := by
  rw [ByteArray.toList_eq]
  apply List.ext_getElem?
  intro i
  have h1 : (s.extract j (j + 1 + 1)).data.toList = (s.data.toList.drop j).take 2 := by
    simp only [ByteArray.data_extract, Array.toList_extract]
    rw [List.extract_eq_take_drop]
    congr 1
    omega
  rw [h1, List.getElem?_take]
  by_cases hi : i < 2
  · rw [if_pos hi, List.getElem?_drop, Array.getElem?_toList]
    rcases (show i = 0 ∨ i = 1 by omega) with rfl | rfl
    · rw [Array.getElem?_eq_getElem (show j + 0 < s.data.size from by show j + 0 < s.size; omega)]; rfl
    · rw [Array.getElem?_eq_getElem (show j + 1 < s.data.size from by show j + 1 < s.size; omega)]; rfl
  · rw [if_neg hi, List.getElem?_eq_none (by simp; omega)]
theorem two_ud {s : ByteArray} {j : Nat} (h : j + 1 < s.size) (e : bt s j = 117 ∧ bt s (j + 1) = 100) : ((s.extract j (j + 1 + 1)).toList == [117, 100]) = true := by
  rw [two_at h]
  rw [bt_at s j (by omega), bt_at s (j + 1) h] at e
  have a : s[j] = 117 := UInt8.toNat_inj.1 (by have : (117 : UInt8).toNat = 117 := rfl; omega)
  have b : s[j + 1] = 100 := UInt8.toNat_inj.1 (by have : (100 : UInt8).toNat = 100 := rfl; omega)
  rw [a, b]; rfl
theorem two_not {s : ByteArray} {j : Nat} (h : j + 1 < s.size) (e : ¬ (bt s j = 117 ∧ bt s (j + 1) = 100)) : ((s.extract j (j + 1 + 1)).toList == [117, 100]) = false := by
  rw [two_at h, beq_eq_false_iff_ne]
  intro hh
  simp only [List.cons.injEq] at hh
  apply e
  rw [bt_at s j (by omega), bt_at s (j + 1) h, hh.1, hh.2.1]
  exact ⟨rfl, rfl⟩

/-- The word backwards with u and d exchanged, of the letters behind place k. -/
def backL (s : ByteArray) : Nat → List UInt8
  | 0 => []
  | k + 1 => (if bt s (s.size - 1 - k) = 117 then 100 else 117) :: [] |> (backL s k ++ ·)
theorem backL_succ (s : ByteArray) (k : Nat) : backL s (k + 1) = backL s k ++ [if bt s (s.size - 1 - k) = 117 then 100 else 117] := rfl
theorem backL_len (s : ByteArray) (k : Nat) : (backL s k).length = k := by
  induction k with
  | zero => rfl
  | succ k ih => rw [backL_succ, List.length_append, ih]; rfl
def reverseP (s : ByteArray) : ByteArray := if dyck s = true then ⟨(backL s s.size).toArray⟩ else ⟨#[]⟩
theorem ret_sb {a b : ByteArray} {x y : Bool} (h : a = b) (h' : x = y) : Ending.returned (.tuple #[.string a, .bool x]) = .returned (.tuple #[.string b, .bool y]) := by rw [h, h']
theorem str_snoc (l : List UInt8) (c : UInt8) : (⟨l.toArray⟩ : ByteArray) ++ ⟨#[c]⟩ = ⟨(l ++ [c]).toArray⟩ := by
  have : (⟨#[c]⟩ : ByteArray) = ⟨[c].toArray⟩ := rfl
  rw [this, ByteArray.mk_append_mk]
theorem str_len (l : List UInt8) : (⟨l.toArray⟩ : ByteArray).size = l.length := by simp [ByteArray.size]

end Go.Proofs.Ytgaggpdlpcldeaa
end

section
namespace Go.Proofs.Ytgaggpdlpcldeaa
open Go.ChangeShapes Go.WideShapes Go.ChangeAt Go.RowKit
open Go.PlainAid (bt bt_nonneg bt_le get_bt)
set_option linter.unusedVariables false

/-- The place where a word that is read from place i on at height h comes to height 0 first; -1 if it never does. -/
def cutL : Int → List UInt8 → Nat → Int
  | _, [], _ => -1
  | h, c :: l, i => if (if c.toNat = 117 then h + 1 else h - 1) = 0 then i else cutL (if c.toNat = 117 then h + 1 else h - 1) l (i + 1)
theorem cutL_nil (h : Int) (i : Nat) : cutL h [] i = -1 := rfl
theorem cutL_hit (h : Int) (c : UInt8) (l : List UInt8) (i : Nat) (e : (if c.toNat = 117 then h + 1 else h - 1) = 0) : cutL h (c :: l) i = i := by rw [cutL, if_pos e]
theorem cutL_miss (h : Int) (c : UInt8) (l : List UInt8) (i : Nat) (e : ¬ (if c.toNat = 117 then h + 1 else h - 1) = 0) : cutL h (c :: l) i = cutL (if c.toNat = 117 then h + 1 else h - 1) l (i + 1) := by rw [cutL, if_neg e]
def cutP (s : ByteArray) : Int := cutL 0 s.data.toList 0
/-- From a height above 0 a path comes back to 0; what is behind is a path. -/
theorem cutL_in : ∀ (l : List UInt8) (h : Nat) (i : Nat), 1 ≤ h → dyckFrom h l = true → ∃ k : Nat, cutL h l i = ((i + k : Nat) : Int) ∧ k < l.length ∧ dyckFrom 0 (l.drop (k + 1)) = true := by
  intro l
  induction l with
  | nil => intro h i hh hd; rw [df_nil] at hd; simp at hd; omega
  | cons c l ih =>
    intro h i hh hd
    rcases df_letter hd with ⟨e, hd'⟩ | ⟨e, h1, hd'⟩
    · obtain ⟨k, e1, e2, e3⟩ := ih (h + 1) (i + 1) (by omega) hd'
      refine ⟨k + 1, ?_, by simp only [List.length_cons]; omega, by simpa using e3⟩
      rw [cutL_miss _ _ _ _ (by rw [if_pos e]; omega), if_pos e]
      rw [show ((h : Int) + 1) = ((h + 1 : Nat) : Int) by omega, e1]
      congr 1; omega
    · by_cases h0 : h = 1
      · subst h0
        refine ⟨0, ?_, by simp, by simpa using hd'⟩
        rw [cutL_hit _ _ _ _ (by rw [if_neg (by omega)]; omega)]
        simp
      · obtain ⟨k, e1, e2, e3⟩ := ih (h - 1) (i + 1) (by omega) hd'
        refine ⟨k + 1, ?_, by simp only [List.length_cons]; omega, by simpa using e3⟩
        rw [cutL_miss _ _ _ _ (by rw [if_neg (by omega)]; omega), if_neg (by omega)]
        rw [show ((h : Int) - 1) = ((h - 1 : Nat) : Int) by omega, e1]
        congr 1; omega
theorem cutP_in {s : ByteArray} (hd : dyck s = true) (h0 : 0 < s.size) : ∃ k : Nat, cutP s = (k : Int) ∧ 1 ≤ k ∧ k < s.size ∧ dyckFrom 0 (rest s (k + 1)) = true := by
  have h16 := dyck_size hd
  rw [dyck_short h16, ← rest_zero, rest_cons s 0 h0] at hd
  rcases df_letter hd with ⟨e, hd'⟩ | ⟨e, h1, hd'⟩
  · obtain ⟨k, e1, e2, e3⟩ := cutL_in (rest s 1) 1 1 (by omega) hd'
    have hl : (rest s 1).length = s.size - 1 := by simp [rest]
    refine ⟨k + 1, ?_, by omega, by omega, ?_⟩
    · unfold cutP
      rw [← rest_zero, rest_cons s 0 h0, cutL_miss _ _ _ _ (by rw [if_pos e]; omega), if_pos e]
      have : (0 : Int) + 1 = ((1 : Nat) : Int) := rfl
      rw [this, e1]; congr 1; omega
    · have : (rest s 1).drop (k + 1) = rest s (k + 1 + 1) := by unfold rest; rw [List.drop_drop]; congr 1; omega
      rw [← this]; exact e3
  · omega

theorem str_full (F : ByteArray) (h : 1 ≤ F.size) : F.toList.isEmpty = false := by
  rw [ByteArray.toList_eq, List.isEmpty_eq_false_iff]
  intro e
  have : F.data.toList.length = F.size := by simp
  rw [e] at this
  simp at this
  omega
theorem str_none (F : ByteArray) (h : F.size = 0) : F.toList.isEmpty = true := by
  rw [ByteArray.toList_eq]
  have : F.data.toList.length = F.size := by simp
  rw [h] at this
  rw [List.eq_nil_of_length_eq_zero this]; rfl
/-- What FirstReturn answers. -/
def firstA (s : ByteArray) : ByteArray := if dyck s = true ∧ 0 < s.size then s.extract 1 (cutP s).toNat else ⟨#[]⟩
def firstB (s : ByteArray) : ByteArray := if dyck s = true ∧ 0 < s.size then s.extract ((cutP s).toNat + 1) s.size else ⟨#[]⟩
def firstOk (s : ByteArray) : Bool := decide (dyck s = true ∧ 0 < s.size)
theorem ret_ssb {a b a' b' : ByteArray} {x y : Bool} (h : a = a') (h2 : b = b') (h' : x = y) : Ending.returned (.tuple #[.string a, .string b, .bool x]) = .returned (.tuple #[.string a', .string b', .bool y]) := by rw [h, h2, h']

/-- What JoinAtReturn answers. -/
def joinW (a b : ByteArray) : ByteArray := ((⟨#[117]⟩ ++ a) ++ ⟨#[100]⟩) ++ b
theorem joinW_size (a b : ByteArray) : (joinW a b).size = a.size + b.size + 2 := by
  unfold joinW
  simp only [ByteArray.size_append]
  have e1 : (⟨#[117]⟩ : ByteArray).size = 1 := rfl
  have e2 : (⟨#[100]⟩ : ByteArray).size = 1 := rfl
  omega
def joinOk (a b : ByteArray) : Bool := dyck a && dyck b && dyck (joinW a b)
def joinP (a b : ByteArray) : ByteArray := if joinOk a b = true then joinW a b else ⟨#[]⟩

end Go.Proofs.Ytgaggpdlpcldeaa
end

section
namespace Go.Proofs.Ytgaggpdlpcldeaa
open Go.ChangeShapes Go.WideShapes Go.ChangeAt Go.RowKit
set_option linter.unusedVariables false

def AnsS (xs : List ByteArray) (w : World) (e : Ending) (w' : World) : Prop := ∃ v, e = .returned v ∧ OwnS w' w.heap.size w'.heap.size v xs ∧ Below w.heap.size w w'

end Go.Proofs.Ytgaggpdlpcldeaa
end

section
namespace Go.Proofs.Ytgaggpdlpcldeaa
open Go.ChangeShapes Go.WideShapes Go.ChangeAt Go.RowKit
open Go.PlainAid (bt bt_nonneg bt_le get_bt)
set_option linter.unusedVariables false

/-- v is a slice whose ints are xs, wherever they lie. -/
def ArgI (w : World) (v : Value) (xs : List Int) : Prop :=
  ∃ A cap, v = .slice A xs.length cap ∧ ∀ j, j < xs.length → ∃ a : Addr, A = some a ∧ a.block < w.heap.size ∧ w.cell? (a.add j) = some (.int .i64 (xs.getD j 0))
theorem add_flat (g j : Nat) : Addr.add ⟨g, 0, none⟩ j = ⟨g, j, none⟩ := by
  unfold Addr.add
  split <;> simp_all
theorem add_block (a : Addr) (j : Nat) : (a.add j).block = a.block := by
  unfold Addr.add
  split <;> rfl
theorem add_succ (a : Addr) (j : Nat) : a.add (j + 1) = ⟨a.block, a.off + (j + 1), none⟩ := by
  unfold Addr.add
  rw [if_neg (by omega)]
theorem ArgI.of_own {w : World} {lo hi : Nat} {v : Value} {xs : List Int} (h : OwnI w lo hi v xs) (hh : hi ≤ w.heap.size) : ArgI w v xs := by
  obtain ⟨A, cap, e, k⟩ := id h
  refine ⟨A, cap, e, fun j hj => ?_⟩
  obtain ⟨g, c, e', h1, h2, h3, -⟩ := h.cell hj
  rw [e] at e'
  simp only [Value.slice.injEq] at e'
  refine ⟨⟨g, 0, none⟩, e'.1, Nat.lt_of_lt_of_le h2 hh, ?_⟩
  rw [add_flat]; exact h3
theorem ArgI.keep {w w' : World} {v : Value} {xs : List Int} (h : ArgI w v xs) (hb : Below w.heap.size w w') : ArgI w' v xs := by
  obtain ⟨A, cap, e, k⟩ := h
  refine ⟨A, cap, e, fun j hj => ?_⟩
  obtain ⟨a, h1, h2, h3⟩ := k j hj
  exact ⟨a, h1, Nat.lt_of_lt_of_le h2 hb.size, (hb.cell (p := a.add j) (by rw [add_block]; exact h2)).trans h3⟩

/-- The copy when j places have been filled. -/
def cpL (j : Nat) (xs : List Int) : List Int := (List.range xs.length).map fun (i : Nat) => if i < j then xs.getD i 0 else 0
theorem cpL_len (j : Nat) (xs : List Int) : (cpL j xs).length = xs.length := by simp [cpL]
theorem cpL_at (j i : Nat) (xs : List Int) (h : i < xs.length) : (cpL j xs).getD i 0 = if i < j then xs.getD i 0 else 0 := by simp [cpL, List.getD, h]
theorem cpL_all (xs : List Int) : cpL xs.length xs = xs := by
  apply List.ext_getElem
  · rw [cpL_len]
  · intro i h1 h2
    simp [cpL, List.getD, h2]
theorem made_zero (xs : List Int) : (madeCells (Value.int .i64 0).cells (xs.length * 1)).toList = (cpL 0 xs).map (Value.int .i64) := by
  apply List.ext_getElem
  · simp [cpL, size_madeCells]
  · intro i h1 h2
    simp [cpL, madeCells, Value.cells, Nat.mod_one]

set_option maxRecDepth 100000 in
set_option maxHeartbeats 1600000 in
theorem toIntC (v : Value) (xs : List Int) (w : World) (hv : ArgI w v xs) (hl : xs.length ≤ 1048576) : Calls Try.prog 5 #[v] w fun e w' => ∃ A, e = .returned (.slice A xs.length xs.length) ∧ OwnI w' w.heap.size w'.heap.size (.slice A xs.length xs.length) xs ∧ Below w.heap.size w w' := by
  obtain ⟨A1, c1, rfl, k1⟩ := hv
  have HK := Lib.hid k1
  clear k1
  obtain ⟨i0, hi, hz0, hz1, hz2⟩ := info_parts info3
  go_enter Try.func5, Try.ntmps5
  go_wp2_with (at_make; go_must (refine wpList_make_full _ rfl _ _ 22 rfl w.heap.size 3 i0 (.int .i64 0) 1 Try.underlying22 hi hz0 hz1 .i64 .i64 (xs.length : Int) (xs.length : Int) xs.length rfl rfl rfl rfl (by rw [hz2]; omega) (by unfold maxLen; omega) (Nat.le_refl _) ?_); intro w1 hown hgrow)
  have HB1 := Lib.hid (show Below w.heap.size w w1 from (Below.refl _ _).grown hgrow (Nat.le_refl _) (fun j hj => by cases hj))
  rw [made_zero] at hown
  have HO1 := Lib.hid (OwnI.of_row hown)
  have hsz := (hown.lt w.heap.size rfl).2
  clear hown hgrow
  obtain ⟨A2, c2, e2, k2⟩ := id HO1.out
  rw [cpL_len] at e2
  simp only [Value.slice.injEq] at e2
  obtain ⟨rfl, -, rfl⟩ := e2
  clear k2
  go_loopw [4] (fun y wr => ∃ j : Nat, j ≤ xs.length ∧ y = .int .i64 j ∧ OwnI wr w.heap.size w1.heap.size (.slice (some ⟨w.heap.size, 0, none⟩) xs.length xs.length) (cpL j xs) ∧ Below w.heap.size w wr ∧ wr.heap.size = w1.heap.size) (fun y _ => xs.length - (intOf y).toNat)
  case atStart => exact ⟨0, Nat.zero_le _, rfl, HO1.out, HB1.out, rfl⟩
  case round =>
    obtain ⟨j, hj, rfl, ho, hb, hs⟩ := hrel
    have HO := Lib.hid ho
    have HB := Lib.hid hb
    by_cases hlt : j < xs.length
    · obtain ⟨g1, p1, e1, hg1, -, hc1, hf1⟩ := ho.cell (j := j) (by rw [cpL_len]; exact hlt)
      rw [cpL_len] at e1
      simp only [Value.slice.injEq] at e1
      obtain ⟨e3, -, -⟩ := e1
      obtain rfl : g1 = w.heap.size := by simpa using e3.symm
      obtain ⟨a, rfl, ha, hca⟩ := HK.out j hlt
      have hca' := (hb.cell (p := a.add j) (by rw [add_block]; exact ha)).trans hca
      clear ho hb e3 hca
      have hji : (j : Int) < (xs.length : Int) := by omega
      generalize hz : xs.getD j 0 = z at hca'
      have HZ := Lib.hid hz
      clear hz
      generalize (cpL j xs).getD j 0 = z0 at hc1
      go_wp2
      refine ⟨⟨j + 1, by omega, by simp, ?_, HB.out.setCell hg1 _, by simpa [World.setCell] using hs⟩, by simp [intOf]; omega⟩
      have := HO.out.set (j := j) (y := z) (ys := cpL (j + 1) xs) (by rw [cpL_len]; exact hlt) (by rw [cpL_len, cpL_len]) ?_ ?_
      · exact this
      · rw [cpL_at _ _ _ hlt, if_pos (by omega), HZ.out]
      · intro i hi hne
        rw [cpL_len] at hi
        rw [cpL_at _ _ _ hi, cpL_at _ _ _ hi]
        by_cases h : i < j
        · rw [if_pos h, if_pos (by omega)]
        · rw [if_neg h, if_neg (by omega)]
    · obtain rfl : j = xs.length := by omega
      go_wp2
      go_ret
      refine ⟨_, rfl, ?_, HB.out⟩
      have := HO.out
      rw [cpL_all] at this
      rw [hs]
      exact this
theorem toIntS (v : Value) (xs : List Int) (w : World) (hv : ArgI w v xs) (hl : xs.length ≤ 1048576) : Calls Try.prog 5 #[v] w (AnsI xs w) :=
  (toIntC v xs w hv hl).mono fun _ _ ⟨_, h1, h2, h3⟩ => ⟨_, h1, h2, h3⟩

/-- Two heights that stand beside each other in a path. -/
def okAt (xs : List Int) (j : Nat) : Prop := 0 ≤ xs.getD (j + 1) 0 ∧ xs.getD (j + 1) 0 ≤ 8 ∧ 0 ≤ xs.getD j 0 ∧ xs.getD j 0 ≤ 8 ∧ (xs.getD (j + 1) 0 - xs.getD j 0 = 1 ∨ xs.getD (j + 1) 0 - xs.getD j 0 = -1)
def stepC (xs : List Int) (j : Nat) : UInt8 := if xs.getD (j + 1) 0 - xs.getD j 0 = 1 then 117 else 100
def stepsL (xs : List Int) : Nat → List UInt8
  | 0 => []
  | j + 1 => stepsL xs j ++ [stepC xs j]
theorem stepsL_len (xs : List Int) (j : Nat) : (stepsL xs j).length = j := by
  induction j with
  | zero => rfl
  | succ j ih => rw [stepsL, List.length_append, ih]; rfl
def pohW (xs : List Int) : ByteArray := ⟨(stepsL xs (xs.length - 1)).toArray⟩
def pohGood (xs : List Int) : Prop := (∀ j, j + 1 < xs.length → okAt xs j) ∧ 0 < xs.length ∧ xs.getD 0 0 = 0 ∧ dyck (pohW xs) = true
open Classical in
noncomputable def pohOk (xs : List Int) : Bool := decide (pohGood xs)
noncomputable def pohP (xs : List Int) : ByteArray := if pohOk xs = true then pohW xs else ⟨#[]⟩
open Classical in
theorem poh_no {xs : List Int} (h : ¬ pohGood xs) : pohOk xs = false ∧ pohP xs = ⟨#[]⟩ := by
  have : pohOk xs = false := by unfold pohOk; exact decide_eq_false h
  exact ⟨this, by unfold pohP; rw [this]; rfl⟩
open Classical in
theorem poh_yes {xs : List Int} (h : pohGood xs) : pohOk xs = true ∧ pohP xs = pohW xs := by
  have : pohOk xs = true := by unfold pohOk; exact decide_eq_true h
  exact ⟨this, by unfold pohP; rw [this]; rfl⟩
theorem poh_not_at {xs : List Int} {j : Nat} (hj : j + 1 < xs.length) (h : ¬ okAt xs j) : pohOk xs = false ∧ pohP xs = ⟨#[]⟩ := poh_no fun hg => h (hg.1 j hj)

end Go.Proofs.Ytgaggpdlpcldeaa
end

section
namespace Go.Proofs.Ytgaggpdlpcldeaa
open Go.ChangeShapes Go.WideShapes Go.ChangeAt Go.RowKit
set_option linter.unusedVariables false

/-- Block g is a row of the ints l. -/
def TbR (w : World) (g : Nat) (l : List Int) : Prop := w.heap[g]? = some (Obj.cells (l.map (Value.int .i64)).toArray 3 (0, 0))
theorem TbR.lt {w : World} {g : Nat} {l : List Int} (h : TbR w g l) : g < w.heap.size := (Array.getElem?_eq_some_iff.1 h).1
theorem TbR.cell {w : World} {g : Nat} {l : List Int} (h : TbR w g l) {j : Nat} (hj : j < l.length) : w.cell? ⟨g, j, none⟩ = some (.int .i64 (l.getD j 0)) ∧ w.frozen? ⟨g, j, none⟩ = false := by
  refine ⟨?_, by simp [World.frozen?, show w.heap[g]? = _ from h]⟩
  rw [cell_of_row w g j _ 3 (0, 0) h]
  simp [List.getD, hj]
theorem TbR.set {w : World} {g : Nat} {l : List Int} (h : TbR w g l) (q : Nat) (y : Int) : TbR (w.setCell ⟨g, q, none⟩ (.int .i64 y)) g (l.set q y) := by
  unfold TbR at h ⊢
  simp [World.setCell, Array.getElem?_modify, h, List.map_set]
theorem TbR.other {w : World} {g g' q : Nat} {l : List Int} (h : TbR w g l) (hne : g' ≠ g) (y : Value) : TbR (w.setCell ⟨g', q, none⟩ y) g l := by
  unfold TbR at h ⊢
  simp [World.setCell, Array.getElem?_modify, hne, h]
theorem TbR.keep {w w' : World} {g : Nat} {l : List Int} (h : TbR w g l) (e : w'.heap[g]? = w.heap[g]?) : TbR w' g l := e.trans h
theorem TbR.alloc {w : World} {g : Nat} {l : List Int} (h : TbR w g l) (o : Obj) : TbR (w.alloc o) g l :=
  h.keep (by
    have := h.lt
    rw [show (w.alloc o).heap = w.heap.push o from rfl, Array.getElem?_push, if_neg (by omega)])
theorem TbR.iterAt {w : World} {k g : Nat} {l : List Int} {s : ByteArray} {i j : Nat} (h : TbR w g l) (hk : w.heap[k]? = some (.stringIter s i)) : TbR (w.iterAt k s j) g l :=
  h.keep (Lib.iterAt_other _ _ _ _ _ (by intro e; unfold TbR at h; rw [e, hk] at h; simp at h))
theorem TbR.made {w : World} {base m : Nat} (h : w.ownsRow base 3 1 (.slice (some ⟨base, 0, none⟩) m m) m (madeCells (Value.int .i64 0).cells (m * 1)).toList) : TbR w base (List.replicate m 0) := by
  rcases h.2 with ⟨h1, _⟩ | ⟨g, cap, cur, hv, hb, hh, hnc, hcm, hcur, htake⟩
  · cases h1
  · simp only [Value.slice.injEq, Option.some.injEq, Addr.mk.injEq] at hv
    obtain ⟨⟨rfl, _, _⟩, _, rfl⟩ := hv
    unfold TbR
    rw [hh]
    congr 2
    apply Array.toList_inj.1
    rw [show (Value.int IntKind.i64 0).cells = #[Value.int .i64 0] from rfl, toList_madeCells_one, List.take_of_length_le (by rw [Array.length_toList, hcur]; exact Nat.le_refl _)] at htake
    rw [htake]; simp
theorem TbR.own {w : World} {g lo : Nat} {l : List Int} (h : TbR w g l) (hg : lo ≤ g) (cap : Nat) : OwnI w lo w.heap.size (.slice (some ⟨g, 0, none⟩) l.length cap) l :=
  ⟨_, cap, rfl, .inr ⟨g, _, hg, h.lt, rfl, h, fun j hj => by simp [List.getD, hj]⟩⟩


/-- A row of ints that the call owns. -/
def RowN (w : World) (base : Nat) (v : Value) (l : List Int) : Prop := w.ownsRow base 3 1 v l.length (l.map (Value.int .i64))
theorem RowN.lt {w : World} {base g n cap : Nat} {l : List Int} (h : RowN w base (.slice (some ⟨g, 0, none⟩) n cap) l) : base ≤ g ∧ g < w.heap.size := World.ownsRow.lt h _ rfl
theorem RowN.form {w : World} {base : Nat} {v : Value} {l : List Int} (h : RowN w base v l) : ∃ A cap, v = .slice A l.length cap ∧ (0 < l.length → ∃ g, A = some ⟨g, 0, none⟩ ∧ base ≤ g ∧ g < w.heap.size ∧ l.length ≤ cap) := by
  have hh := h
  obtain ⟨-, h⟩ := h
  rcases h with ⟨rfl, h0⟩ | ⟨g, cap, cur, rfl, hb, hg, hn, -⟩
  · exact ⟨none, 0, by rw [h0], fun h => by omega⟩
  · exact ⟨_, cap, rfl, fun _ => ⟨g, rfl, hb, (Array.getElem?_eq_some_iff.1 hg).1, hn⟩⟩
theorem RowN.cell {w : World} {base g n cap : Nat} {l : List Int} (h : RowN w base (.slice (some ⟨g, 0, none⟩) n cap) l) {j : Nat} (hj : j < l.length) : w.cell? ⟨g, j, none⟩ = some (.int .i64 (l.getD j 0)) ∧ w.frozen? ⟨g, j, none⟩ = false := by
  obtain ⟨-, h⟩ := h
  rcases h with ⟨h1, h0⟩ | ⟨g', cap', cur, hv, hb, hg, hn, hcap, hsz, ht⟩
  · cases h1
  · simp only [Value.slice.injEq, Option.some.injEq, Addr.mk.injEq] at hv
    obtain ⟨⟨rfl, -, -⟩, rfl, rfl⟩ := hv
    refine ⟨?_, by simp [World.frozen?, hg]⟩
    rw [cell_of_row w g j cur 3 (0, 0) hg]
    have e : cur.toList[j]? = (cur.toList.take (l.length * 1))[j]? := by rw [List.getElem?_take, if_pos (by omega)]
    rw [← Array.getElem?_toList, e, ht]
    simp [List.getD, hj]
/-- The row without its last int. -/
theorem RowN.cut {w : World} {base g n cap : Nat} {l : List Int} (h : RowN w base (.slice (some ⟨g, 0, none⟩) n cap) l) : RowN w base (.slice (some ⟨g, 0, none⟩) (n - 1) cap) l.dropLast := by
  obtain ⟨h0, h⟩ := h
  rcases h with ⟨h1, -⟩ | ⟨g', cap', cur, hv, hb, hg, hn, hcap, hsz, ht⟩
  · cases h1
  · simp only [Value.slice.injEq, Option.some.injEq, Addr.mk.injEq] at hv
    obtain ⟨⟨rfl, -, -⟩, rfl, rfl⟩ := hv
    refine ⟨by simp, .inr ⟨g, cap, cur, by rw [List.length_dropLast], hb, hg, by rw [List.length_dropLast]; omega, hcap, hsz, ?_⟩⟩
    rw [List.length_dropLast, List.map_dropLast, ← ht, List.dropLast_eq_take, List.take_take, List.length_take]
    have hcz : cur.toList.length = cur.size := Array.length_toList
    congr 1; omega
theorem RowN.keep {w w' : World} {base : Nat} {v : Value} {l : List Int} (h : RowN w base v l) (hb : ∀ g, base ≤ g → g < w.heap.size → v.ownBlock = some g → w'.heap[g]? = w.heap[g]?) : RowN w' base v l := by
  obtain ⟨h0, h⟩ := h
  refine ⟨h0, ?_⟩
  rcases h with h | ⟨g, cap, cur, rfl, h1, h2, h3⟩
  · exact .inl h
  · exact .inr ⟨g, cap, cur, rfl, h1, (hb g h1 (Array.getElem?_eq_some_iff.1 h2).1 rfl).trans h2, h3⟩
theorem RowN.other {w : World} {base g q : Nat} {v : Value} {l : List Int} (h : RowN w base v l) (hne : v.ownBlock ≠ some g) (y : Value) : RowN (w.setCell ⟨g, q, none⟩ y) base v l :=
  h.keep fun g' _ _ e => by simp [World.setCell, Array.getElem?_modify, show g ≠ g' from fun h => hne (by rw [e, h])]
theorem RowN.iterAt {w : World} {base k : Nat} {v : Value} {l : List Int} {s : ByteArray} {i j : Nat} (h : RowN w base v l) (hk : w.heap[k]? = some (.stringIter s i)) : RowN (w.iterAt k s j) base v l := by
  obtain ⟨h0, h⟩ := h
  refine ⟨h0, ?_⟩
  rcases h with h | ⟨g, cap, cur, rfl, h1, h2, h3⟩
  · exact .inl h
  · exact .inr ⟨g, cap, cur, rfl, h1, (Lib.iterAt_other _ _ _ _ _ (by intro e; rw [e, hk] at h2; simp at h2)).trans h2, h3⟩

end Go.Proofs.Ytgaggpdlpcldeaa
end
