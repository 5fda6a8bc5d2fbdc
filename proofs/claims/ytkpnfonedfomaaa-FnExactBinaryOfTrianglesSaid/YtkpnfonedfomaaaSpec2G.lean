/- The contracts of the laws' copy of a row of ints and of the model's PathOfHeights; the law of PathOfHeights. -/
import Derived.Test.YtkpnfonedfomaaaSpec2E
import Derived.Test.YtkpnfonedfomaaaLawLists
namespace Go.Proofs.Ytkpnfonedfomaaa
open Go.ChangeShapes Go.WideShapes Go.ChangeAt Go.RowKit
open Go.PlainAid (bt bt_nonneg bt_le get_bt)
set_option linter.unusedVariables false

/-- v is a slice whose ints are xs, wherever they lie. -/
def ArgI (w : World) (v : Value) (xs : List Int) : Prop :=
  ∃ A cap, v = .slice A xs.length cap ∧ ∀ j, j < xs.length → ∃ a : Addr, A = some a ∧ a.block < w.heap.size ∧ w.cell? (a.add j) = some (.int .i64 (xs.getD j 0))
theorem add_flat (g j : Nat) : Addr.add ⟨g, 0, none⟩ j = ⟨g, j, none⟩ := by
  unfold Addr.add
  split <;> simp_all
theorem add_block (a : Addr) (j : Nat) : (a.add j).block = a.block := by
  unfold Addr.add
  split <;> rfl
theorem add_succ (a : Addr) (j : Nat) : a.add (j + 1) = ⟨a.block, a.off + (j + 1), none⟩ := by
  unfold Addr.add
  rw [if_neg (by omega)]
theorem ArgI.of_own {w : World} {lo hi : Nat} {v : Value} {xs : List Int} (h : OwnI w lo hi v xs) (hh : hi ≤ w.heap.size) : ArgI w v xs := by
  obtain ⟨A, cap, e, k⟩ := id h
  refine ⟨A, cap, e, fun j hj => ?_⟩
  obtain ⟨g, c, e', h1, h2, h3, -⟩ := h.cell hj
  rw [e] at e'
  simp only [Value.slice.injEq] at e'
  refine ⟨⟨g, 0, none⟩, e'.1, Nat.lt_of_lt_of_le h2 hh, ?_⟩
  rw [add_flat]; exact h3
theorem ArgI.keep {w w' : World} {v : Value} {xs : List Int} (h : ArgI w v xs) (hb : Below w.heap.size w w') : ArgI w' v xs := by
  obtain ⟨A, cap, e, k⟩ := h
  refine ⟨A, cap, e, fun j hj => ?_⟩
  obtain ⟨a, h1, h2, h3⟩ := k j hj
  exact ⟨a, h1, Nat.lt_of_lt_of_le h2 hb.size, (hb.cell (p := a.add j) (by rw [add_block]; exact h2)).trans h3⟩

/-- The copy when j places have been filled. -/
def cpL (j : Nat) (xs : List Int) : List Int := (List.range xs.length).map fun (i : Nat) => if i < j then xs.getD i 0 else 0
theorem cpL_len (j : Nat) (xs : List Int) : (cpL j xs).length = xs.length := by simp [cpL]
theorem cpL_at (j i : Nat) (xs : List Int) (h : i < xs.length) : (cpL j xs).getD i 0 = if i < j then xs.getD i 0 else 0 := by simp [cpL, List.getD, h]
theorem cpL_all (xs : List Int) : cpL xs.length xs = xs := by
  apply List.ext_getElem
  · rw [cpL_len]
  · intro i h1 h2
    simp [cpL, List.getD, h2]
theorem made_zero (xs : List Int) : (madeCells (Value.int .i64 0).cells (xs.length * 1)).toList = (cpL 0 xs).map (Value.int .i64) := by
  apply List.ext_getElem
  · simp [cpL, size_madeCells]
  · intro i h1 h2
    simp [cpL, madeCells, Value.cells, Nat.mod_one]

set_option maxRecDepth 100000 in
set_option maxHeartbeats 1600000 in
theorem toIntC (v : Value) (xs : List Int) (w : World) (hv : ArgI w v xs) (hl : xs.length ≤ 1048576) : Calls Try.prog 33 #[v] w fun e w' => ∃ A, e = .returned (.slice A xs.length xs.length) ∧ OwnI w' w.heap.size w'.heap.size (.slice A xs.length xs.length) xs ∧ Below w.heap.size w w' := by
  obtain ⟨A1, c1, rfl, k1⟩ := hv
  have HK := Lib.hid k1
  clear k1
  obtain ⟨i0, hi, hz0, hz1, hz2⟩ := info_parts info3
  go_enter Try.func33, Try.ntmps33
  go_wp2_with (at_make; go_must (refine wpList_make_full _ rfl _ _ 35 rfl w.heap.size 3 i0 (.int .i64 0) 1 Try.underlying35 hi hz0 hz1 .i64 .i64 (xs.length : Int) (xs.length : Int) xs.length rfl rfl rfl rfl (by rw [hz2]; omega) (by unfold maxLen; omega) (Nat.le_refl _) ?_); intro w1 hown hgrow)
  have HB1 := Lib.hid (show Below w.heap.size w w1 from (Below.refl _ _).grown hgrow (Nat.le_refl _) (fun j hj => by cases hj))
  rw [made_zero] at hown
  have HO1 := Lib.hid (OwnI.of_row hown)
  have hsz := (hown.lt w.heap.size rfl).2
  clear hown hgrow
  obtain ⟨A2, c2, e2, k2⟩ := id HO1.out
  rw [cpL_len] at e2
  simp only [Value.slice.injEq] at e2
  obtain ⟨rfl, -, rfl⟩ := e2
  clear k2
  go_loopw [4] (fun y wr => ∃ j : Nat, j ≤ xs.length ∧ y = .int .i64 j ∧ OwnI wr w.heap.size w1.heap.size (.slice (some ⟨w.heap.size, 0, none⟩) xs.length xs.length) (cpL j xs) ∧ Below w.heap.size w wr ∧ wr.heap.size = w1.heap.size) (fun y _ => xs.length - (intOf y).toNat)
  case atStart => exact ⟨0, Nat.zero_le _, rfl, HO1.out, HB1.out, rfl⟩
  case round =>
    obtain ⟨j, hj, rfl, ho, hb, hs⟩ := hrel
    have HO := Lib.hid ho
    have HB := Lib.hid hb
    by_cases hlt : j < xs.length
    · obtain ⟨g1, p1, e1, hg1, -, hc1, hf1⟩ := ho.cell (j := j) (by rw [cpL_len]; exact hlt)
      rw [cpL_len] at e1
      simp only [Value.slice.injEq] at e1
      obtain ⟨e3, -, -⟩ := e1
      obtain rfl : g1 = w.heap.size := by simpa using e3.symm
      obtain ⟨a, rfl, ha, hca⟩ := HK.out j hlt
      have hca' := (hb.cell (p := a.add j) (by rw [add_block]; exact ha)).trans hca
      clear ho hb e3 hca
      have hji : (j : Int) < (xs.length : Int) := by omega
      generalize hz : xs.getD j 0 = z at hca'
      have HZ := Lib.hid hz
      clear hz
      generalize (cpL j xs).getD j 0 = z0 at hc1
      go_wp2
      refine ⟨⟨j + 1, by omega, by simp, ?_, HB.out.setCell hg1 _, by simpa [World.setCell] using hs⟩, by simp [intOf]; omega⟩
      have := HO.out.set (j := j) (y := z) (ys := cpL (j + 1) xs) (by rw [cpL_len]; exact hlt) (by rw [cpL_len, cpL_len]) ?_ ?_
      · exact this
      · rw [cpL_at _ _ _ hlt, if_pos (by omega), HZ.out]
      · intro i hi hne
        rw [cpL_len] at hi
        rw [cpL_at _ _ _ hi, cpL_at _ _ _ hi]
        by_cases h : i < j
        · rw [if_pos h, if_pos (by omega)]
        · rw [if_neg h, if_neg (by omega)]
    · obtain rfl : j = xs.length := by omega
      go_wp2
      go_ret
      refine ⟨_, rfl, ?_, HB.out⟩
      have := HO.out
      rw [cpL_all] at this
      rw [hs]
      exact this
theorem toIntS (v : Value) (xs : List Int) (w : World) (hv : ArgI w v xs) (hl : xs.length ≤ 1048576) : Calls Try.prog 33 #[v] w (AnsI xs w) :=
  (toIntC v xs w hv hl).mono fun _ _ ⟨_, h1, h2, h3⟩ => ⟨_, h1, h2, h3⟩

/-- Two heights that stand beside each other in a path. -/
def okAt (xs : List Int) (j : Nat) : Prop := 0 ≤ xs.getD (j + 1) 0 ∧ xs.getD (j + 1) 0 ≤ 8 ∧ 0 ≤ xs.getD j 0 ∧ xs.getD j 0 ≤ 8 ∧ (xs.getD (j + 1) 0 - xs.getD j 0 = 1 ∨ xs.getD (j + 1) 0 - xs.getD j 0 = -1)
def stepC (xs : List Int) (j : Nat) : UInt8 := if xs.getD (j + 1) 0 - xs.getD j 0 = 1 then 117 else 100
def stepsL (xs : List Int) : Nat → List UInt8
  | 0 => []
  | j + 1 => stepsL xs j ++ [stepC xs j]
theorem stepsL_len (xs : List Int) (j : Nat) : (stepsL xs j).length = j := by
  induction j with
  | zero => rfl
  | succ j ih => rw [stepsL, List.length_append, ih]; rfl
def pohW (xs : List Int) : ByteArray := ⟨(stepsL xs (xs.length - 1)).toArray⟩
def pohGood (xs : List Int) : Prop := (∀ j, j + 1 < xs.length → okAt xs j) ∧ 0 < xs.length ∧ xs.getD 0 0 = 0 ∧ dyck (pohW xs) = true
open Classical in
noncomputable def pohOk (xs : List Int) : Bool := decide (pohGood xs)
noncomputable def pohP (xs : List Int) : ByteArray := if pohOk xs = true then pohW xs else ⟨#[]⟩
open Classical in
theorem poh_no {xs : List Int} (h : ¬ pohGood xs) : pohOk xs = false ∧ pohP xs = ⟨#[]⟩ := by
  have : pohOk xs = false := by unfold pohOk; exact decide_eq_false h
  exact ⟨this, by unfold pohP; rw [this]; rfl⟩
open Classical in
theorem poh_yes {xs : List Int} (h : pohGood xs) : pohOk xs = true ∧ pohP xs = pohW xs := by
  have : pohOk xs = true := by unfold pohOk; exact decide_eq_true h
  exact ⟨this, by unfold pohP; rw [this]; rfl⟩
theorem poh_not_at {xs : List Int} {j : Nat} (hj : j + 1 < xs.length) (h : ¬ okAt xs j) : pohOk xs = false ∧ pohP xs = ⟨#[]⟩ := poh_no fun hg => h (hg.1 j hj)

end Go.Proofs.Ytkpnfonedfomaaa
