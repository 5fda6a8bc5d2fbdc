/- The contracts of the laws' copy of a row of ints and of the model's PathOfHeights; the law of PathOfHeights. -/
import Derived.Test.YtjjaildejonmfaaSpec2E
import Derived.Test.YtjjaildejonmfaaLawLists
namespace Go.Proofs.Ytjjaildejonmfaa
open Go.ChangeShapes Go.WideShapes Go.ChangeAt Go.RowKit
open Go.PlainAid (bt bt_nonneg bt_le get_bt)
set_option linter.unusedVariables false

/-- v is a slice whose ints are xs, wherever they lie. -/
def ArgI (w : World) (v : Value) (xs : List Int) : Prop :=
  ∃ A cap, v = .slice A xs.length cap ∧ ∀ j, j < xs.length → ∃ a : Addr, A = some a ∧ a.block < w.heap.size ∧ w.cell? (a.add j) = some (.int .i64 (xs.getD j 0))
theorem add_flat (g j : Nat) : Addr.add ⟨g, 0, none⟩ j = ⟨g, j, none⟩ := by
  unfold Addr.add
  split <;> simp_all
theorem add_block (a : Addr) (j : Nat) : (a.add j).block = a.block := by
  unfold Addr.add
  split <;> rfl
theorem add_succ (a : Addr) (j : Nat) : a.add (j + 1) = ⟨a.block, a.off + (j + 1), none⟩ := by
  unfold Addr.add
  rw [if_neg (by omega)]
theorem ArgI.of_own {w : World} {lo hi : Nat} {v : Value} {xs : List Int} (h : OwnI w lo hi v xs) (hh : hi ≤ w.heap.size) : ArgI w v xs := by
  obtain ⟨A, cap, e, k⟩ := id h
  refine ⟨A, cap, e, fun j hj => ?_⟩
  obtain ⟨g, c, e', h1, h2, h3, -⟩ := h.cell hj
  rw [e] at e'
  simp only [Value.slice.injEq] at e'
  refine ⟨⟨g, 0, none⟩, e'.1, Nat.lt_of_lt_of_le h2 hh, ?_⟩
  rw [add_flat]; exact h3
theorem ArgI.keep {w w' : World} {v : Value} {xs : List Int} (h : ArgI w v xs) (hb : Below w.heap.size w w') : ArgI w' v xs := by
  obtain ⟨A, cap, e, k⟩ := h
  refine ⟨A, cap, e, fun j hj => ?_⟩
  obtain ⟨a, h1, h2, h3⟩ := k j hj
  exact ⟨a, h1, Nat.lt_of_lt_of_le h2 hb.size, (hb.cell (p := a.add j) (by rw [add_block]; exact h2)).trans h3⟩

/-- The copy when j places have been filled. -/
def cpL (j : Nat) (xs : List Int) : List Int := (List.range xs.length).map fun (i : Nat) => if i < j then xs.getD i 0 else 0
theorem cpL_len (j : Nat) (xs : List Int) : (cpL j xs).length = xs.length := by simp [cpL]
theorem cpL_at (j i : Nat) (xs : List Int) (h : i < xs.length) : (cpL j xs).getD i 0 = if i < j then xs.getD i 0 else 0 := by simp [cpL, List.getD, h]
theorem cpL_all (xs : List Int) : cpL xs.length xs = xs := by
  apply List.ext_getElem
  · rw [cpL_len]
  · intro i h1 h2
    simp [cpL, List.getD, h2]
theorem made_zero (xs : List Int) : (madeCells (Value.int .i64 0).cells (xs.length * 1)).toList = (cpL 0 xs).map (Value.int .i64) := by
  apply List.ext_getElem
  · simp [cpL, size_madeCells]
  · intro i h1 h2
    simp [cpL, madeCells, Value.cells, Nat.mod_one]

/-- Two heights that stand beside each other in a path. -/
def okAt (xs : List Int) (j : Nat) : Prop := 0 ≤ xs.getD (j + 1) 0 ∧ xs.getD (j + 1) 0 ≤ 8 ∧ 0 ≤ xs.getD j 0 ∧ xs.getD j 0 ≤ 8 ∧ (xs.getD (j + 1) 0 - xs.getD j 0 = 1 ∨ xs.getD (j + 1) 0 - xs.getD j 0 = -1)
def stepC (xs : List Int) (j : Nat) : UInt8 := if xs.getD (j + 1) 0 - xs.getD j 0 = 1 then 117 else 100
def stepsL (xs : List Int) : Nat → List UInt8
  | 0 => []
  | j + 1 => stepsL xs j ++ [stepC xs j]
theorem stepsL_len (xs : List Int) (j : Nat) : (stepsL xs j).length = j := by
  induction j with
  | zero => rfl
  | succ j ih => rw [stepsL, List.length_append, ih]; rfl
def pohW (xs : List Int) : ByteArray := ⟨(stepsL xs (xs.length - 1)).toArray⟩
def pohGood (xs : List Int) : Prop := (∀ j, j + 1 < xs.length → okAt xs j) ∧ 0 < xs.length ∧ xs.getD 0 0 = 0 ∧ dyck (pohW xs) = true
open Classical in
noncomputable def pohOk (xs : List Int) : Bool := decide (pohGood xs)
noncomputable def pohP (xs : List Int) : ByteArray := if pohOk xs = true then pohW xs else ⟨#[]⟩
open Classical in
theorem poh_no {xs : List Int} (h : ¬ pohGood xs) : pohOk xs = false ∧ pohP xs = ⟨#[]⟩ := by
  have : pohOk xs = false := by unfold pohOk; exact decide_eq_false h
  exact ⟨this, by unfold pohP; rw [this]; rfl⟩
open Classical in
theorem poh_yes {xs : List Int} (h : pohGood xs) : pohOk xs = true ∧ pohP xs = pohW xs := by
  have : pohOk xs = true := by unfold pohOk; exact decide_eq_true h
  exact ⟨this, by unfold pohP; rw [this]; rfl⟩
theorem poh_not_at {xs : List Int} {j : Nat} (hj : j + 1 < xs.length) (h : ¬ okAt xs j) : pohOk xs = false ∧ pohP xs = ⟨#[]⟩ := poh_no fun hg => h (hg.1 j hj)

set_option maxRecDepth 100000 in
set_option maxHeartbeats 3200000 in
theorem pathOfHeights (v : Value) (xs : List Int) (w : World) (hv : ArgI w v xs) (hl : xs.length ≤ 1048576) :
    Calls Try.prog 59 #[v] w fun e w' => e = .returned (.tuple #[.string (pohP xs), .bool (pohOk xs)]) ∧ Below w.heap.size w w' := by
  obtain ⟨A1, c1, rfl, k1⟩ := hv
  have HK := Lib.hid k1
  clear k1
  go_enter Try.func59, Try.ntmps59
  go_wp2
  go_loopw [4, 5] (fun x y wr => ∃ (j k : Nat), j ≤ xs.length - 1 ∧ y = .int .i64 ((j : Int) + 1) ∧ x = .string ⟨(stepsL xs j).toArray⟩ ∧ (∀ i, i < j → okAt xs i) ∧ wr = w.drewN k) (fun _ y _ => xs.length - (intOf y).toNat)
  case atStart => exact ⟨0, 0, Nat.zero_le _, rfl, rfl, fun i hi => by omega, rfl⟩
  case round =>
    obtain ⟨j, k, hj, rfl, rfl, hall, rfl⟩ := hrel
    have HALL := Lib.hid hall
    clear hall
    have hlen : (⟨(stepsL xs j).toArray⟩ : ByteArray).size = j := by rw [str_len, stepsL_len]
    by_cases hlt : j + 1 < xs.length
    · obtain ⟨a, rfl, ha, hca⟩ := HK.out (j + 1) hlt
      rw [add_succ] at hca
      obtain ⟨a', e, -, hcb⟩ := HK.out j (by omega)
      obtain rfl : a = a' := by simpa using e
      clear e
      have hj1 : ((j : Int) + 1).toNat = j + 1 := by omega
      have hj2 : (j : Int) + 1 - 1 = (j : Int) := by omega
      have hji : (j : Int) + 1 < (xs.length : Int) := by omega
      have HP := Lib.hid (fun h : ¬ okAt xs j => poh_not_at hlt h)
      have HS := Lib.hid (show stepsL xs (j + 1) = stepsL xs j ++ [stepC xs j] from rfl)
      have HC := Lib.hid (show stepC xs j = if xs.getD (j + 1) 0 - xs.getD j 0 = 1 then 117 else 100 from rfl)
      have HOK := Lib.hid (show okAt xs j ↔ (0 ≤ xs.getD (j + 1) 0 ∧ xs.getD (j + 1) 0 ≤ 8 ∧ 0 ≤ xs.getD j 0 ∧ xs.getD j 0 ≤ 8 ∧ (xs.getD (j + 1) 0 - xs.getD j 0 = 1 ∨ xs.getD (j + 1) 0 - xs.getD j 0 = -1)) from Iff.rfl)
      generalize xs.getD (j + 1) 0 = x at *
      generalize xs.getD j 0 = y at *
      by_cases x0 : x < 0
      · have HN := Lib.hid (HP.out (by rw [HOK.out]; omega))
        go_wp2_with fail
        (with_reducible refine (l1In_no1 x 0 8 _ x0).mono ?_)
        rintro e w' ⟨rfl, rfl⟩
        go_wp2
        go_ret2
        exact ⟨ret_sb HN.out.2.symm HN.out.1.symm, below_drewN (Below.refl _ _) _⟩
      by_cases x8 : 8 < x
      · have HN := Lib.hid (HP.out (by rw [HOK.out]; omega))
        have x0' : 0 ≤ x := by omega
        go_wp2_with fail
        (with_reducible refine (l1In_no2 x 0 8 _ x0' x8).mono ?_)
        rintro e w' ⟨rfl, rfl⟩
        go_wp2
        go_ret2
        exact ⟨ret_sb HN.out.2.symm HN.out.1.symm, below_drewN (Below.refl _ _) _⟩
      have x0' : 0 ≤ x := by omega
      have x8' : x ≤ 8 := by omega
      by_cases y0 : y < 0
      · have HN := Lib.hid (HP.out (by rw [HOK.out]; omega))
        go_wp2_with fail
        (with_reducible refine (l1In_yes x 0 8 _ x0' x8').mono ?_)
        rintro e w' ⟨rfl, rfl⟩
        go_wp2_with fail
        (with_reducible refine (l1In_no1 y 0 8 _ y0).mono ?_)
        rintro e w' ⟨rfl, rfl⟩
        go_wp2
        go_ret2
        exact ⟨ret_sb HN.out.2.symm HN.out.1.symm, below_drewN (Below.refl _ _) _⟩
      by_cases y8 : 8 < y
      · have HN := Lib.hid (HP.out (by rw [HOK.out]; omega))
        have y0' : 0 ≤ y := by omega
        go_wp2_with fail
        (with_reducible refine (l1In_yes x 0 8 _ x0' x8').mono ?_)
        rintro e w' ⟨rfl, rfl⟩
        go_wp2_with fail
        (with_reducible refine (l1In_no2 y 0 8 _ y0' y8).mono ?_)
        rintro e w' ⟨rfl, rfl⟩
        go_wp2
        go_ret2
        exact ⟨ret_sb HN.out.2.symm HN.out.1.symm, below_drewN (Below.refl _ _) _⟩
      have y0' : 0 ≤ y := by omega
      have y8' : y ≤ 8 := by omega
      clear x0 x8 y0 y8
      by_cases d1 : x - y = 1
      · have b1 : (x - y == 1) = true := by simp [d1]
        have HN := Lib.hid (HOK.out.2 ⟨x0', x8', y0', y8', .inl d1⟩)
        have HCC := Lib.hid (HC.out.trans (if_pos d1))
        clear d1
        go_wp2_with fail
        (with_reducible refine (l1In_yes x 0 8 _ x0' x8').mono ?_)
        rintro e w' ⟨rfl, rfl⟩
        go_wp2_with fail
        (with_reducible refine (l1In_yes y 0 8 _ y0' y8').mono ?_)
        rintro e w' ⟨rfl, rfl⟩
        go_wp2
        go_quiet (fail)
        go_wp2
        refine ⟨⟨j + 1, _, by omega, by simp, ?_, fun i hi => ?_, rfl⟩, by simp [intOf]; omega⟩
        · rw [HS.out, HCC.out, ← str_snoc]
        · by_cases h : i = j
          · rw [h]; exact HN.out
          · exact HALL.out i (by omega)
      · have b1 : (x - y == 1) = false := by simp [d1]
        by_cases d2 : x - y = -1
        · have b2 : (x - y == -1) = true := by simp [d2]
          have HN := Lib.hid (HOK.out.2 ⟨x0', x8', y0', y8', .inr d2⟩)
          have HCC := Lib.hid (HC.out.trans (if_neg d1))
          clear d1 d2
          go_wp2_with fail
          (with_reducible refine (l1In_yes x 0 8 _ x0' x8').mono ?_)
          rintro e w' ⟨rfl, rfl⟩
          go_wp2_with fail
          (with_reducible refine (l1In_yes y 0 8 _ y0' y8').mono ?_)
          rintro e w' ⟨rfl, rfl⟩
          go_wp2
          go_quiet (fail)
          go_wp2
          refine ⟨⟨j + 1, _, by omega, by simp, ?_, fun i hi => ?_, rfl⟩, by simp [intOf]; omega⟩
          · rw [HS.out, HCC.out, ← str_snoc]
          · by_cases h : i = j
            · rw [h]; exact HN.out
            · exact HALL.out i (by omega)
        · have b2 : (x - y == -1) = false := by simp [d2]
          have HN := Lib.hid (HP.out (by rw [HOK.out]; omega))
          clear d1 d2
          go_wp2_with fail
          (with_reducible refine (l1In_yes x 0 8 _ x0' x8').mono ?_)
          rintro e w' ⟨rfl, rfl⟩
          go_wp2_with fail
          (with_reducible refine (l1In_yes y 0 8 _ y0' y8').mono ?_)
          rintro e w' ⟨rfl, rfl⟩
          go_wp2
          go_quiet (fail)
          go_wp2
          go_ret2
          exact ⟨ret_sb HN.out.2.symm HN.out.1.symm, below_drewN (Below.refl _ _) _⟩
    · have hlt' : ¬ ((j : Int) + 1 < (xs.length : Int)) := by omega
      by_cases hn : xs.length = 0
      · have HN := Lib.hid (poh_no (xs := xs) fun h => by have := h.2.1; omega)
        go_wp2
        go_ret2
        exact ⟨ret_sb HN.out.2.symm HN.out.1.symm, below_drewN (Below.refl _ _) _⟩
      · obtain ⟨a, rfl, ha, hca⟩ := HK.out 0 (by omega)
        rw [show a.add 0 = a from rfl] at hca
        have hn0 : (0 : Int) < (xs.length : Int) := by omega
        have hne : ((xs.length : Int) == 0) = false := beq_eq_false_iff_ne.2 (by omega)
        have HJ := Lib.hid (show xs.length - 1 = j from by omega)
        have HWW := Lib.hid (show pohW xs = ⟨(stepsL xs j).toArray⟩ by unfold pohW; rw [HJ.out])
        have HX := Lib.hid (show pohGood xs ↔ (xs.getD 0 0 = 0 ∧ dyck (pohW xs) = true) from ⟨fun h => h.2.2, fun h => ⟨fun i hi => HALL.out i (by have := HJ.out; omega), by omega, h⟩⟩)
        generalize xs.getD 0 0 = x at *
        by_cases x0 : x = 0
        · have b0 : (x != 0) = false := by simp [x0]
          rcases hd : dyck (pohW xs) with _ | _
          · have HN := Lib.hid (poh_no (xs := xs) fun h => by rw [HX.out, hd] at h; simp at h)
            rw [HWW.out] at hd
            have HD := Lib.hid hd
            clear hd x0
            go_wp2_with fail
            (with_reducible refine (isDyck_no _ _ (by omega) HD.out).mono ?_)
            rintro e w' ⟨rfl, rfl⟩
            go_wp2
            go_ret2
            exact ⟨ret_sb HN.out.2.symm HN.out.1.symm, below_drewN (Below.refl _ _) _⟩
          · have HN := Lib.hid (poh_yes (xs := xs) (HX.out.2 ⟨x0, hd⟩))
            rw [HWW.out] at hd
            have HD := Lib.hid hd
            clear hd x0
            go_wp2_with fail
            (with_reducible refine (isDyck_yes _ _ (by omega) HD.out).mono ?_)
            rintro e w' ⟨rfl, rfl⟩
            go_wp2
            go_ret2
            exact ⟨ret_sb (by rw [HN.out.2, HWW.out]) HN.out.1.symm, below_drewN (Below.refl _ _) _⟩
        · have b0 : (x != 0) = true := by simp [x0]
          have HN := Lib.hid (poh_no (xs := xs) fun h => x0 (HX.out.1 h).1)
          clear x0
          go_wp2
          go_ret2
          exact ⟨ret_sb HN.out.2.symm HN.out.1.symm, below_drewN (Below.refl _ _) _⟩

end Go.Proofs.Ytjjaildejonmfaa
