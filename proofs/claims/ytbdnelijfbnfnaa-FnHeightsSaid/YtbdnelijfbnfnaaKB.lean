/- Merged by program out of: Spec2D Spec2E LawLists Spec2G Spec3A Impl2B Bld Impl2H Fact18 Spec18A Spec18B StrB. -/
import Derived.BigRegion
import Derived.Deep.RegionLaw
import Derived.IntWalk
import Derived.Test.YtbdnelijfbnfnaaRows
import Derived.WalkKit
import Derived.Shelf.Strings.BuilderK
import Derived.Test.YtbdnelijfbnfnaaShelfB
import Derived.BigQuiet
import Derived.Lib.MinMax
import Derived.Test.YtbdnelijfbnfnaaKA
section
namespace Go.Proofs.Ytbdnelijfbnfnaa
open Go.ChangeShapes Go.WideShapes Go.ChangeAt Go.RowKit
open Go.PlainAid (bt bt_nonneg bt_le get_bt)
set_option linter.unusedVariables false

/-- How many of the first k places bear a u with a d behind it. -/
def pkN (s : ByteArray) : Nat → Nat
  | 0 => 0
  | k + 1 => pkN s k + if bt s k = 117 ∧ bt s (k + 1) = 100 then 1 else 0
theorem pkN_le (s : ByteArray) (k : Nat) : pkN s k ≤ k := by
  induction k with
  | zero => simp [pkN]
  | succ k ih => rw [pkN]; split <;> omega
def peaksP (s : ByteArray) : Int := if dyck s = true then (pkN s (s.size - 1) : Int) else -1
theorem two_at {s : ByteArray} {j : Nat} (h : j + 1 < s.size) : (s.extract j (j + 1 + 1)).toList = [s[j], s[j + 1]] := by
  rw [ByteArray.toList_eq]
  apply List.ext_getElem?
  intro i
  have h1 : (s.extract j (j + 1 + 1)).data.toList = (s.data.toList.drop j).take 2 := by
    simp only [ByteArray.data_extract, Array.toList_extract]
    rw [List.extract_eq_take_drop]
    congr 1
    omega
  rw [h1, List.getElem?_take]
  by_cases hi : i < 2
  · rw [if_pos hi, List.getElem?_drop, Array.getElem?_toList]
    rcases (show i = 0 ∨ i = 1 by omega) with rfl | rfl
    · rw [Array.getElem?_eq_getElem (show j + 0 < s.data.size from by show j + 0 < s.size; omega)]; rfl
    · rw [Array.getElem?_eq_getElem (show j + 1 < s.data.size from by show j + 1 < s.size; omega)]; rfl
  · rw [if_neg hi, List.getElem?_eq_none (by simp; omega)]
theorem two_ud {s : ByteArray} {j : Nat} (h : j + 1 < s.size) (e : bt s j = 117 ∧ bt s (j + 1) = 100) : ((s.extract j (j + 1 + 1)).toList == [117, 100]) = true := by
  rw [two_at h]
  rw [bt_at s j (by omega), bt_at s (j + 1) h] at e
  have a : s[j] = 117 := UInt8.toNat_inj.1 (by have : (117 : UInt8).toNat = 117 := rfl; omega)
  have b : s[j + 1] = 100 := UInt8.toNat_inj.1 (by have : (100 : UInt8).toNat = 100 := rfl; omega)
  rw [a, b]; rfl
theorem two_not {s : ByteArray} {j : Nat} (h : j + 1 < s.size) (e : ¬ (bt s j = 117 ∧ bt s (j + 1) = 100)) : ((s.extract j (j + 1 + 1)).toList == [117, 100]) = false := by
  rw [two_at h, beq_eq_false_iff_ne]
  intro hh
  simp only [List.cons.injEq] at hh
  apply e
  rw [bt_at s j (by omega), bt_at s (j + 1) h, hh.1, hh.2.1]
  exact ⟨rfl, rfl⟩

/-- The word backwards with u and d exchanged, of the letters behind place k. -/
def backL (s : ByteArray) : Nat → List UInt8
  | 0 => []
  | k + 1 => (if bt s (s.size - 1 - k) = 117 then 100 else 117) :: [] |> (backL s k ++ ·)
theorem backL_succ (s : ByteArray) (k : Nat) : backL s (k + 1) = backL s k ++ [if bt s (s.size - 1 - k) = 117 then 100 else 117] := rfl
theorem backL_len (s : ByteArray) (k : Nat) : (backL s k).length = k := by
  induction k with
  | zero => rfl
  | succ k ih => rw [backL_succ, List.length_append, ih]; rfl
def reverseP (s : ByteArray) : ByteArray := if dyck s = true then ⟨(backL s s.size).toArray⟩ else ⟨#[]⟩
theorem ret_sb {a b : ByteArray} {x y : Bool} (h : a = b) (h' : x = y) : Ending.returned (.tuple #[.string a, .bool x]) = .returned (.tuple #[.string b, .bool y]) := by rw [h, h']
theorem str_snoc (l : List UInt8) (c : UInt8) : (⟨l.toArray⟩ : ByteArray) ++ ⟨#[c]⟩ = ⟨(l ++ [c]).toArray⟩ := by
  have : (⟨#[c]⟩ : ByteArray) = ⟨[c].toArray⟩ := rfl
  rw [this, ByteArray.mk_append_mk]
theorem str_len (l : List UInt8) : (⟨l.toArray⟩ : ByteArray).size = l.length := by simp [ByteArray.size]

end Go.Proofs.Ytbdnelijfbnfnaa
end

section
namespace Go.Proofs.Ytbdnelijfbnfnaa
open Go.ChangeShapes Go.WideShapes Go.ChangeAt Go.RowKit
open Go.PlainAid (bt bt_nonneg bt_le get_bt)
set_option linter.unusedVariables false

/-- The place where a word that is read from place i on at height h comes to height 0 first; -1 if it never does. -/
def cutL : Int → List UInt8 → Nat → Int
  | _, [], _ => -1
  | h, c :: l, i => if (if c.toNat = 117 then h + 1 else h - 1) = 0 then i else cutL (if c.toNat = 117 then h + 1 else h - 1) l (i + 1)
theorem cutL_nil (h : Int) (i : Nat) : cutL h [] i = -1 := rfl
theorem cutL_hit (h : Int) (c : UInt8) (l : List UInt8) (i : Nat) (e : (if c.toNat = 117 then h + 1 else h - 1) = 0) : cutL h (c :: l) i = i := by rw [cutL, if_pos e]
theorem cutL_miss (h : Int) (c : UInt8) (l : List UInt8) (i : Nat) (e : ¬ (if c.toNat = 117 then h + 1 else h - 1) = 0) : cutL h (c :: l) i = cutL (if c.toNat = 117 then h + 1 else h - 1) l (i + 1) := by rw [cutL, if_neg e]
def cutP (s : ByteArray) : Int := cutL 0 s.data.toList 0
/-- From a height above 0 a path comes back to 0; what is behind is a path. -/
theorem cutL_in : ∀ (l : List UInt8) (h : Nat) (i : Nat), 1 ≤ h → dyckFrom h l = true → ∃ k : Nat, cutL h l i = ((i + k : Nat) : Int) ∧ k < l.length ∧ dyckFrom 0 (l.drop (k + 1)) = true := by
  intro l
  induction l with
  | nil => intro h i hh hd; rw [df_nil] at hd; simp at hd; omega
  | cons c l ih =>
    intro h i hh hd
    rcases df_letter hd with ⟨e, hd'⟩ | ⟨e, h1, hd'⟩
    · obtain ⟨k, e1, e2, e3⟩ := ih (h + 1) (i + 1) (by omega) hd'
      refine ⟨k + 1, ?_, by simp only [List.length_cons]; omega, by simpa using e3⟩
      rw [cutL_miss _ _ _ _ (by rw [if_pos e]; omega), if_pos e]
      rw [show ((h : Int) + 1) = ((h + 1 : Nat) : Int) by omega, e1]
      congr 1; omega
    · by_cases h0 : h = 1
      · subst h0
        refine ⟨0, ?_, by simp, by simpa using hd'⟩
        rw [cutL_hit _ _ _ _ (by rw [if_neg (by omega)]; omega)]
        simp
      · obtain ⟨k, e1, e2, e3⟩ := ih (h - 1) (i + 1) (by omega) hd'
        refine ⟨k + 1, ?_, by simp only [List.length_cons]; omega, by simpa using e3⟩
        rw [cutL_miss _ _ _ _ (by rw [if_neg (by omega)]; omega), if_neg (by omega)]
        rw [show ((h : Int) - 1) = ((h - 1 : Nat) : Int) by omega, e1]
        congr 1; omega
theorem cutP_in {s : ByteArray} (hd : dyck s = true) (h0 : 0 < s.size) : ∃ k : Nat, cutP s = (k : Int) ∧ 1 ≤ k ∧ k < s.size ∧ dyckFrom 0 (rest s (k + 1)) = true := by
  have h16 := dyck_size hd
  rw [dyck_short h16, ← rest_zero, rest_cons s 0 h0] at hd
  rcases df_letter hd with ⟨e, hd'⟩ | ⟨e, h1, hd'⟩
  · obtain ⟨k, e1, e2, e3⟩ := cutL_in (rest s 1) 1 1 (by omega) hd'
    have hl : (rest s 1).length = s.size - 1 := by simp [rest]
    refine ⟨k + 1, ?_, by omega, by omega, ?_⟩
    · unfold cutP
      rw [← rest_zero, rest_cons s 0 h0, cutL_miss _ _ _ _ (by rw [if_pos e]; omega), if_pos e]
      have : (0 : Int) + 1 = ((1 : Nat) : Int) := rfl
      rw [this, e1]; congr 1; omega
    · have : (rest s 1).drop (k + 1) = rest s (k + 1 + 1) := by unfold rest; rw [List.drop_drop]; congr 1; omega
      rw [← this]; exact e3
  · omega

theorem str_full (F : ByteArray) (h : 1 ≤ F.size) : F.toList.isEmpty = false := by
  rw [ByteArray.toList_eq, List.isEmpty_eq_false_iff]
  intro e
  have : F.data.toList.length = F.size := by simp
  rw [e] at this
  simp at this
  omega
theorem str_none (F : ByteArray) (h : F.size = 0) : F.toList.isEmpty = true := by
  rw [ByteArray.toList_eq]
  have : F.data.toList.length = F.size := by simp
  rw [h] at this
  rw [List.eq_nil_of_length_eq_zero this]; rfl
/-- What FirstReturn answers. -/
def firstA (s : ByteArray) : ByteArray := if dyck s = true ∧ 0 < s.size then s.extract 1 (cutP s).toNat else ⟨#[]⟩
def firstB (s : ByteArray) : ByteArray := if dyck s = true ∧ 0 < s.size then s.extract ((cutP s).toNat + 1) s.size else ⟨#[]⟩
def firstOk (s : ByteArray) : Bool := decide (dyck s = true ∧ 0 < s.size)
theorem ret_ssb {a b a' b' : ByteArray} {x y : Bool} (h : a = a') (h2 : b = b') (h' : x = y) : Ending.returned (.tuple #[.string a, .string b, .bool x]) = .returned (.tuple #[.string a', .string b', .bool y]) := by rw [h, h2, h']

/-- What JoinAtReturn answers. -/
def joinW (a b : ByteArray) : ByteArray := ((⟨#[117]⟩ ++ a) ++ ⟨#[100]⟩) ++ b
theorem joinW_size (a b : ByteArray) : (joinW a b).size = a.size + b.size + 2 := by
  unfold joinW
  simp only [ByteArray.size_append]
  have e1 : (⟨#[117]⟩ : ByteArray).size = 1 := rfl
  have e2 : (⟨#[100]⟩ : ByteArray).size = 1 := rfl
  omega
def joinOk (a b : ByteArray) : Bool := dyck a && dyck b && dyck (joinW a b)
def joinP (a b : ByteArray) : ByteArray := if joinOk a b = true then joinW a b else ⟨#[]⟩

end Go.Proofs.Ytbdnelijfbnfnaa
end

section
namespace Go.Proofs.Ytbdnelijfbnfnaa
open Go.ChangeShapes Go.WideShapes Go.ChangeAt Go.RowKit
set_option linter.unusedVariables false

def AnsS (xs : List ByteArray) (w : World) (e : Ending) (w' : World) : Prop := ∃ v, e = .returned v ∧ OwnS w' w.heap.size w'.heap.size v xs ∧ Below w.heap.size w w'

end Go.Proofs.Ytbdnelijfbnfnaa
end

section
namespace Go.Proofs.Ytbdnelijfbnfnaa
open Go.ChangeShapes Go.WideShapes Go.ChangeAt Go.RowKit
open Go.PlainAid (bt bt_nonneg bt_le get_bt)
set_option linter.unusedVariables false

/-- v is a slice whose ints are xs, wherever they lie. -/
def ArgI (w : World) (v : Value) (xs : List Int) : Prop :=
  ∃ A cap, v = .slice A xs.length cap ∧ ∀ j, j < xs.length → ∃ a : Addr, A = some a ∧ a.block < w.heap.size ∧ w.cell? (a.add j) = some (.int .i64 (xs.getD j 0))
theorem add_flat (g j : Nat) : Addr.add ⟨g, 0, none⟩ j = ⟨g, j, none⟩ := by
  unfold Addr.add
  split <;> simp_all
theorem add_block (a : Addr) (j : Nat) : (a.add j).block = a.block := by
  unfold Addr.add
  split <;> rfl
theorem add_succ (a : Addr) (j : Nat) : a.add (j + 1) = ⟨a.block, a.off + (j + 1), none⟩ := by
  unfold Addr.add
  rw [if_neg (by omega)]
theorem ArgI.of_own {w : World} {lo hi : Nat} {v : Value} {xs : List Int} (h : OwnI w lo hi v xs) (hh : hi ≤ w.heap.size) : ArgI w v xs := by
  obtain ⟨A, cap, e, k⟩ := id h
  refine ⟨A, cap, e, fun j hj => ?_⟩
  obtain ⟨g, c, e', h1, h2, h3, -⟩ := h.cell hj
  rw [e] at e'
  simp only [Value.slice.injEq] at e'
  refine ⟨⟨g, 0, none⟩, e'.1, Nat.lt_of_lt_of_le h2 hh, ?_⟩
  rw [add_flat]; exact h3
theorem ArgI.keep {w w' : World} {v : Value} {xs : List Int} (h : ArgI w v xs) (hb : Below w.heap.size w w') : ArgI w' v xs := by
  obtain ⟨A, cap, e, k⟩ := h
  refine ⟨A, cap, e, fun j hj => ?_⟩
  obtain ⟨a, h1, h2, h3⟩ := k j hj
  exact ⟨a, h1, Nat.lt_of_lt_of_le h2 hb.size, (hb.cell (p := a.add j) (by rw [add_block]; exact h2)).trans h3⟩

/-- The copy when j places have been filled. -/
def cpL (j : Nat) (xs : List Int) : List Int := (List.range xs.length).map fun (i : Nat) => if i < j then xs.getD i 0 else 0
theorem cpL_len (j : Nat) (xs : List Int) : (cpL j xs).length = xs.length := by simp [cpL]
theorem cpL_at (j i : Nat) (xs : List Int) (h : i < xs.length) : (cpL j xs).getD i 0 = if i < j then xs.getD i 0 else 0 := by simp [cpL, List.getD, h]
theorem cpL_all (xs : List Int) : cpL xs.length xs = xs := by
  apply List.ext_getElem
  · rw [cpL_len]
  · intro i h1 h2
    simp [cpL, List.getD, h2]
theorem made_zero (xs : List Int) : (madeCells (Value.int .i64 0).cells (xs.length * 1)).toList = (cpL 0 xs).map (Value.int .i64) := by
  apply List.ext_getElem
  · simp [cpL, size_madeCells]
  · intro i h1 h2
    simp [cpL, madeCells, Value.cells, Nat.mod_one]

/-- Two heights that stand beside each other in a path. -/
def okAt (xs : List Int) (j : Nat) : Prop := 0 ≤ xs.getD (j + 1) 0 ∧ xs.getD (j + 1) 0 ≤ 8 ∧ 0 ≤ xs.getD j 0 ∧ xs.getD j 0 ≤ 8 ∧ (xs.getD (j + 1) 0 - xs.getD j 0 = 1 ∨ xs.getD (j + 1) 0 - xs.getD j 0 = -1)
def stepC (xs : List Int) (j : Nat) : UInt8 := if xs.getD (j + 1) 0 - xs.getD j 0 = 1 then 117 else 100
def stepsL (xs : List Int) : Nat → List UInt8
  | 0 => []
  | j + 1 => stepsL xs j ++ [stepC xs j]
theorem stepsL_len (xs : List Int) (j : Nat) : (stepsL xs j).length = j := by
  induction j with
  | zero => rfl
  | succ j ih => rw [stepsL, List.length_append, ih]; rfl
def pohW (xs : List Int) : ByteArray := ⟨(stepsL xs (xs.length - 1)).toArray⟩
def pohGood (xs : List Int) : Prop := (∀ j, j + 1 < xs.length → okAt xs j) ∧ 0 < xs.length ∧ xs.getD 0 0 = 0 ∧ dyck (pohW xs) = true
open Classical in
noncomputable def pohOk (xs : List Int) : Bool := decide (pohGood xs)
noncomputable def pohP (xs : List Int) : ByteArray := if pohOk xs = true then pohW xs else ⟨#[]⟩
open Classical in
theorem poh_no {xs : List Int} (h : ¬ pohGood xs) : pohOk xs = false ∧ pohP xs = ⟨#[]⟩ := by
  have : pohOk xs = false := by unfold pohOk; exact decide_eq_false h
  exact ⟨this, by unfold pohP; rw [this]; rfl⟩
open Classical in
theorem poh_yes {xs : List Int} (h : pohGood xs) : pohOk xs = true ∧ pohP xs = pohW xs := by
  have : pohOk xs = true := by unfold pohOk; exact decide_eq_true h
  exact ⟨this, by unfold pohP; rw [this]; rfl⟩
theorem poh_not_at {xs : List Int} {j : Nat} (hj : j + 1 < xs.length) (h : ¬ okAt xs j) : pohOk xs = false ∧ pohP xs = ⟨#[]⟩ := poh_no fun hg => h (hg.1 j hj)

set_option maxRecDepth 100000 in
set_option maxHeartbeats 3200000 in
theorem pathOfHeights (v : Value) (xs : List Int) (w : World) (hv : ArgI w v xs) (hl : xs.length ≤ 1048576) :
    Calls Try.prog 48 #[v] w fun e w' => e = .returned (.tuple #[.string (pohP xs), .bool (pohOk xs)]) ∧ Below w.heap.size w w' := by
  obtain ⟨A1, c1, rfl, k1⟩ := hv
  have HK := Lib.hid k1
  clear k1
  go_enter Try.func48, Try.ntmps48
  go_wp2
  go_loopw [4, 5] (fun x y wr => ∃ (j k : Nat), j ≤ xs.length - 1 ∧ y = .int .i64 ((j : Int) + 1) ∧ x = .string ⟨(stepsL xs j).toArray⟩ ∧ (∀ i, i < j → okAt xs i) ∧ wr = w.drewN k) (fun _ y _ => xs.length - (intOf y).toNat)
  case atStart => exact ⟨0, 0, Nat.zero_le _, rfl, rfl, fun i hi => by omega, rfl⟩
  case round =>
    obtain ⟨j, k, hj, rfl, rfl, hall, rfl⟩ := hrel
    have HALL := Lib.hid hall
    clear hall
    have hlen : (⟨(stepsL xs j).toArray⟩ : ByteArray).size = j := by rw [str_len, stepsL_len]
    by_cases hlt : j + 1 < xs.length
    · obtain ⟨a, rfl, ha, hca⟩ := HK.out (j + 1) hlt
      rw [add_succ] at hca
      obtain ⟨a', e, -, hcb⟩ := HK.out j (by omega)
      obtain rfl : a = a' := by simpa using e
      clear e
      have hj1 : ((j : Int) + 1).toNat = j + 1 := by omega
      have hj2 : (j : Int) + 1 - 1 = (j : Int) := by omega
      have hji : (j : Int) + 1 < (xs.length : Int) := by omega
      have HP := Lib.hid (fun h : ¬ okAt xs j => poh_not_at hlt h)
      have HS := Lib.hid (show stepsL xs (j + 1) = stepsL xs j ++ [stepC xs j] from rfl)
      have HC := Lib.hid (show stepC xs j = if xs.getD (j + 1) 0 - xs.getD j 0 = 1 then 117 else 100 from rfl)
      have HOK := Lib.hid (show okAt xs j ↔ (0 ≤ xs.getD (j + 1) 0 ∧ xs.getD (j + 1) 0 ≤ 8 ∧ 0 ≤ xs.getD j 0 ∧ xs.getD j 0 ≤ 8 ∧ (xs.getD (j + 1) 0 - xs.getD j 0 = 1 ∨ xs.getD (j + 1) 0 - xs.getD j 0 = -1)) from Iff.rfl)
      generalize xs.getD (j + 1) 0 = x at *
      generalize xs.getD j 0 = y at *
      by_cases x0 : x < 0
      · have HN := Lib.hid (HP.out (by rw [HOK.out]; omega))
        go_wp2_with fail
        (with_reducible refine (l1In_no1 x 0 8 _ x0).mono ?_)
        rintro e w' ⟨rfl, rfl⟩
        go_wp2
        go_ret2
        exact ⟨ret_sb HN.out.2.symm HN.out.1.symm, below_drewN (Below.refl _ _) _⟩
      by_cases x8 : 8 < x
      · have HN := Lib.hid (HP.out (by rw [HOK.out]; omega))
        have x0' : 0 ≤ x := by omega
        go_wp2_with fail
        (with_reducible refine (l1In_no2 x 0 8 _ x0' x8).mono ?_)
        rintro e w' ⟨rfl, rfl⟩
        go_wp2
        go_ret2
        exact ⟨ret_sb HN.out.2.symm HN.out.1.symm, below_drewN (Below.refl _ _) _⟩
      have x0' : 0 ≤ x := by omega
      have x8' : x ≤ 8 := by omega
      by_cases y0 : y < 0
      · have HN := Lib.hid (HP.out (by rw [HOK.out]; omega))
        go_wp2_with fail
        (with_reducible refine (l1In_yes x 0 8 _ x0' x8').mono ?_)
        rintro e w' ⟨rfl, rfl⟩
        go_wp2_with fail
        (with_reducible refine (l1In_no1 y 0 8 _ y0).mono ?_)
        rintro e w' ⟨rfl, rfl⟩
        go_wp2
        go_ret2
        exact ⟨ret_sb HN.out.2.symm HN.out.1.symm, below_drewN (Below.refl _ _) _⟩
      by_cases y8 : 8 < y
      · have HN := Lib.hid (HP.out (by rw [HOK.out]; omega))
        have y0' : 0 ≤ y := by omega
        go_wp2_with fail
        (with_reducible refine (l1In_yes x 0 8 _ x0' x8').mono ?_)
        rintro e w' ⟨rfl, rfl⟩
        go_wp2_with fail
        (with_reducible refine (l1In_no2 y 0 8 _ y0' y8).mono ?_)
        rintro e w' ⟨rfl, rfl⟩
        go_wp2
        go_ret2
        exact ⟨ret_sb HN.out.2.symm HN.out.1.symm, below_drewN (Below.refl _ _) _⟩
      have y0' : 0 ≤ y := by omega
      have y8' : y ≤ 8 := by omega
      clear x0 x8 y0 y8
      by_cases d1 : x - y = 1
      · have b1 : (x - y == 1) = true := by simp [d1]
        have HN := Lib.hid (HOK.out.2 ⟨x0', x8', y0', y8', .inl d1⟩)
        have HCC := Lib.hid (HC.out.trans (if_pos d1))
        clear d1
        go_wp2_with fail
        (with_reducible refine (l1In_yes x 0 8 _ x0' x8').mono ?_)
        rintro e w' ⟨rfl, rfl⟩
        go_wp2_with fail
        (with_reducible refine (l1In_yes y 0 8 _ y0' y8').mono ?_)
        rintro e w' ⟨rfl, rfl⟩
        go_wp2
        go_quiet (fail)
        go_wp2
        refine ⟨⟨j + 1, _, by omega, by simp, ?_, fun i hi => ?_, rfl⟩, by simp [intOf]; omega⟩
        · rw [HS.out, HCC.out, ← str_snoc]
        · by_cases h : i = j
          · rw [h]; exact HN.out
          · exact HALL.out i (by omega)
      · have b1 : (x - y == 1) = false := by simp [d1]
        by_cases d2 : x - y = -1
        · have b2 : (x - y == -1) = true := by simp [d2]
          have HN := Lib.hid (HOK.out.2 ⟨x0', x8', y0', y8', .inr d2⟩)
          have HCC := Lib.hid (HC.out.trans (if_neg d1))
          clear d1 d2
          go_wp2_with fail
          (with_reducible refine (l1In_yes x 0 8 _ x0' x8').mono ?_)
          rintro e w' ⟨rfl, rfl⟩
          go_wp2_with fail
          (with_reducible refine (l1In_yes y 0 8 _ y0' y8').mono ?_)
          rintro e w' ⟨rfl, rfl⟩
          go_wp2
          go_quiet (fail)
          go_wp2
          refine ⟨⟨j + 1, _, by omega, by simp, ?_, fun i hi => ?_, rfl⟩, by simp [intOf]; omega⟩
          · rw [HS.out, HCC.out, ← str_snoc]
          · by_cases h : i = j
            · rw [h]; exact HN.out
            · exact HALL.out i (by omega)
        · have b2 : (x - y == -1) = false := by simp [d2]
          have HN := Lib.hid (HP.out (by rw [HOK.out]; omega))
          clear d1 d2
          go_wp2_with fail
          (with_reducible refine (l1In_yes x 0 8 _ x0' x8').mono ?_)
          rintro e w' ⟨rfl, rfl⟩
          go_wp2_with fail
          (with_reducible refine (l1In_yes y 0 8 _ y0' y8').mono ?_)
          rintro e w' ⟨rfl, rfl⟩
          go_wp2
          go_quiet (fail)
          go_wp2
          go_ret2
          exact ⟨ret_sb HN.out.2.symm HN.out.1.symm, below_drewN (Below.refl _ _) _⟩
    · have hlt' : ¬ ((j : Int) + 1 < (xs.length : Int)) := by omega
      by_cases hn : xs.length = 0
      · have HN := Lib.hid (poh_no (xs := xs) fun h => by have := h.2.1; omega)
        go_wp2
        go_ret2
        exact ⟨ret_sb HN.out.2.symm HN.out.1.symm, below_drewN (Below.refl _ _) _⟩
      · obtain ⟨a, rfl, ha, hca⟩ := HK.out 0 (by omega)
        rw [show a.add 0 = a from rfl] at hca
        have hn0 : (0 : Int) < (xs.length : Int) := by omega
        have hne : ((xs.length : Int) == 0) = false := beq_eq_false_iff_ne.2 (by omega)
        have HJ := Lib.hid (show xs.length - 1 = j from by omega)
        have HWW := Lib.hid (show pohW xs = ⟨(stepsL xs j).toArray⟩ by unfold pohW; rw [HJ.out])
        have HX := Lib.hid (show pohGood xs ↔ (xs.getD 0 0 = 0 ∧ dyck (pohW xs) = true) from ⟨fun h => h.2.2, fun h => ⟨fun i hi => HALL.out i (by have := HJ.out; omega), by omega, h⟩⟩)
        generalize xs.getD 0 0 = x at *
        by_cases x0 : x = 0
        · have b0 : (x != 0) = false := by simp [x0]
          rcases hd : dyck (pohW xs) with _ | _
          · have HN := Lib.hid (poh_no (xs := xs) fun h => by rw [HX.out, hd] at h; simp at h)
            rw [HWW.out] at hd
            have HD := Lib.hid hd
            clear hd x0
            go_wp2_with fail
            (with_reducible refine (isDyck_no _ _ (by omega) HD.out).mono ?_)
            rintro e w' ⟨rfl, rfl⟩
            go_wp2
            go_ret2
            exact ⟨ret_sb HN.out.2.symm HN.out.1.symm, below_drewN (Below.refl _ _) _⟩
          · have HN := Lib.hid (poh_yes (xs := xs) (HX.out.2 ⟨x0, hd⟩))
            rw [HWW.out] at hd
            have HD := Lib.hid hd
            clear hd x0
            go_wp2_with fail
            (with_reducible refine (isDyck_yes _ _ (by omega) HD.out).mono ?_)
            rintro e w' ⟨rfl, rfl⟩
            go_wp2
            go_ret2
            exact ⟨ret_sb (by rw [HN.out.2, HWW.out]) HN.out.1.symm, below_drewN (Below.refl _ _) _⟩
        · have b0 : (x != 0) = true := by simp [x0]
          have HN := Lib.hid (poh_no (xs := xs) fun h => x0 (HX.out.1 h).1)
          clear x0
          go_wp2
          go_ret2
          exact ⟨ret_sb HN.out.2.symm HN.out.1.symm, below_drewN (Below.refl _ _) _⟩

end Go.Proofs.Ytbdnelijfbnfnaa
end

section
namespace Go.Proofs.Ytbdnelijfbnfnaa
open Go.ChangeShapes Go.WideShapes Go.ChangeAt Go.RowKit
set_option linter.unusedVariables false

/-- Sums of f from a on, up to k. -/
def sm (f : Nat → Int) (a : Nat) : Nat → Int
  | 0 => if a = 0 then f 0 else 0
  | k + 1 => sm f a k + if a ≤ k + 1 then f (k + 1) else 0
theorem sm_low (f : Nat → Int) (a : Nat) : ∀ k, k < a → sm f a k = 0 := by
  intro k
  induction k with
  | zero => intro h; rw [sm, if_neg (by omega)]
  | succ k ih => intro h; rw [sm, if_neg (by omega), ih (by omega)]; rfl
theorem sm_bd (f : Nat → Int) (a : Nat) (B : Int) (hB : 0 ≤ B) (n : Nat) : ∀ k, k ≤ n → (∀ m, m ≤ n → 0 ≤ f m ∧ f m ≤ B) → 0 ≤ sm f a k ∧ sm f a k ≤ (k + 1) * B := by
  intro k
  induction k with
  | zero =>
    intro hk h
    have := h 0 (by omega)
    rw [sm]; split <;> simp <;> omega
  | succ k ih =>
    intro hk h
    have h1 := ih (by omega) h
    have h2 := h (k + 1) hk
    have e : ((k + 1 : Nat) : Int) + 1 = ((k : Int) + 1) + 1 := by omega
    rw [sm, e, Int.add_mul, Int.one_mul]
    split <;> omega
/-- The words of i letters u and k letters d, by their last letters. -/
def wy : Nat → Nat → Int
  | 0 => fun _ => 1
  | i + 1 => sm (wy i) (i + 1)
theorem wy_zero (k : Nat) : wy 0 k = 1 := rfl
theorem wy_low (i k : Nat) (h : k < i) : wy i k = 0 := by
  cases i with
  | zero => omega
  | succ i => exact sm_low _ _ _ h
theorem wy_diag (i : Nat) : wy (i + 1) (i + 1) = wy i (i + 1) := by
  show sm (wy i) (i + 1) (i + 1) = _
  rw [sm, if_pos (Nat.le_refl _), sm_low _ _ _ (by omega)]; omega
theorem wy_step (i k : Nat) (h : i + 1 < k + 1) : wy (i + 1) (k + 1) = wy i (k + 1) + wy (i + 1) k := by
  show sm (wy i) (i + 1) (k + 1) = _
  rw [sm, if_pos (by omega)]
  show sm (wy i) (i + 1) k + _ = _ + sm (wy i) (i + 1) k
  omega
theorem wy_bd : ∀ (i : Nat) (k : Nat), k ≤ 15 → 0 ≤ wy i k ∧ wy i k ≤ 16 ^ i := by
  intro i
  induction i with
  | zero => intro k hk; rw [wy_zero]; decide
  | succ i ih =>
    intro k hk
    have hp : (0 : Int) ≤ 16 ^ i := Int.le_of_lt (Int.pow_pos (by decide))
    have h := sm_bd (wy i) (i + 1) (16 ^ i) hp 15 k hk ih
    refine ⟨h.1, Int.le_trans h.2 ?_⟩
    rw [Int.pow_succ, Int.mul_comm _ 16]
    exact Int.mul_le_mul_of_nonneg_right (by omega) hp
theorem wy_fit (i k : Nat) (hi : i ≤ 15) (hk : k ≤ 15) : 0 ≤ wy i k ∧ wy i k ≤ 1152921504606846976 := by
  have h := wy_bd i k hk
  refine ⟨h.1, Int.le_trans h.2 ?_⟩
  have : (16 : Int) ^ i ≤ 16 ^ 15 := by
    have h1 : (16 : Nat) ^ i ≤ 16 ^ 15 := Nat.pow_le_pow_right (by decide) hi
    exact_mod_cast h1
  exact Int.le_trans this (by decide)

/-- Block g holds a row of ints that reads f at the places up to d. -/
def RowI (w : World) (g d : Nat) (f : Nat → Int) : Prop := ∃ C, w.heap[g]? = some (.cells C 3 (0, 0)) ∧ ∀ k, k ≤ d → C[k]? = some (.int .i64 (f k))
theorem RowI.lt {w : World} {g d : Nat} {f : Nat → Int} (h : RowI w g d f) : g < w.heap.size := by
  obtain ⟨C, h1, -⟩ := h
  exact (Array.getElem?_eq_some_iff.1 h1).1
theorem RowI.cell {w : World} {g d : Nat} {f : Nat → Int} (h : RowI w g d f) {k : Nat} (hk : k ≤ d) : w.cell? ⟨g, k, none⟩ = some (.int .i64 (f k)) ∧ w.frozen? ⟨g, k, none⟩ = false := by
  obtain ⟨C, h1, h2⟩ := h
  refine ⟨?_, by simp [World.frozen?, h1]⟩
  rw [cell_of_row w g k C 3 (0, 0) h1]
  exact h2 k hk
theorem RowI.keep {w w' : World} {g d : Nat} {f : Nat → Int} (h : RowI w g d f) (e : w'.heap[g]? = w.heap[g]?) : RowI w' g d f := by
  obtain ⟨C, h1, h2⟩ := h
  exact ⟨C, e.trans h1, h2⟩
theorem RowI.other {w : World} {g d g' k : Nat} {f : Nat → Int} (h : RowI w g d f) (hne : g' ≠ g) (y : Value) : RowI (w.setCell ⟨g', k, none⟩ y) g d f :=
  h.keep (by simp [World.setCell, Array.getElem?_modify, hne])
theorem RowI.set {w : World} {g d k : Nat} {f f' : Nat → Int} {y : Int} (h : RowI w g d f) (hk : k ≤ d) (hy : f' k = y) (ho : ∀ q, q ≤ d → q ≠ k → f' q = f q) : RowI (w.setCell ⟨g, k, none⟩ (.int .i64 y)) g d f' := by
  obtain ⟨C, h1, h2⟩ := h
  refine ⟨C.setIfInBounds k (.int .i64 y), by simp [World.setCell, Array.getElem?_modify, h1], fun q hq => ?_⟩
  by_cases e : q = k
  · subst e
    have hC : q < C.size := (Array.getElem?_eq_some_iff.1 (h2 q hk)).1
    rw [Array.getElem?_setIfInBounds_self_of_lt hC, hy]
  · rw [Array.getElem?_setIfInBounds_ne (by omega), h2 q hq, ho q hq e]
theorem RowI.same {w : World} {g d : Nat} {f f' : Nat → Int} (h : RowI w g d f) (ho : ∀ q, q ≤ d → f' q = f q) : RowI w g d f' := by
  obtain ⟨C, h1, h2⟩ := h
  exact ⟨C, h1, fun q hq => by rw [h2 q hq, ho q hq]⟩
theorem RowI.made {w : World} {base g d : Nat} (h : w.ownsRow base 3 1 (.slice (some ⟨g, 0, none⟩) (d + 1) (d + 1)) (d + 1) (madeCells (Value.int .i64 0).cells ((d + 1) * 1)).toList) : RowI w g d fun _ => 0 := by
  rcases h.2 with ⟨e, -⟩ | ⟨g', cap, cur, e, hb, hh, hnc, hcm, hcur, htake⟩
  · cases e
  · simp only [Value.slice.injEq, Option.some.injEq, Addr.mk.injEq] at e
    obtain ⟨⟨rfl, -⟩, -, rfl⟩ := e
    refine ⟨cur, hh, fun k hk => ?_⟩
    have e1 : cur.toList[k]? = (cur.toList.take ((d + 1) * 1))[k]? := by rw [List.getElem?_take, if_pos (by omega)]
    rw [← Array.getElem?_toList, e1, htake]
    rw [List.getElem?_eq_getElem (by simp [size_madeCells]; omega)]
    simp [madeCells, Value.cells, Nat.mod_one]

theorem infoR : (Try.prog.info? 37).map (fun i => (i.zero, i.size, i.bytes)) = some (some (.slice none 0 0), 1, 24) := by kernel_rfl
def rowV (d g : Nat) : Value := .slice (some ⟨g, 0, none⟩) (d + 1) (d + 1)
/-- v is the table: its rows are the blocks gs. -/
def OutR (w : World) (base d : Nat) (v : Value) (gs : List Nat) : Prop := w.ownsRow base 37 1 v gs.length (gs.map (rowV d))
theorem OutR.cell {w : World} {base d : Nat} {v : Value} {gs : List Nat} (h : OutR w base d v gs) {j : Nat} (hj : j < gs.length) :
    ∃ o cap, v = .slice (some ⟨o, 0, none⟩) gs.length cap ∧ base ≤ o ∧ w.cell? ⟨o, j, none⟩ = some (rowV d (gs.getD j 0)) ∧ ∃ cur, w.heap[o]? = some (.cells cur 37 (0, 0)) := by
  rcases h.2 with ⟨-, e⟩ | ⟨o, cap, cur, e, hb, hh, hnc, hcm, hcur, htake⟩
  · omega
  · refine ⟨o, cap, e, hb, ?_, cur, hh⟩
    rw [cell_of_row w o j cur 37 (0, 0) hh]
    have e1 : cur.toList[j]? = (cur.toList.take (gs.length * 1))[j]? := by rw [List.getElem?_take, if_pos (by omega)]
    rw [← Array.getElem?_toList, e1, htake, List.getElem?_map]
    simp [List.getD, hj]
theorem OutR.own {w : World} {base d : Nat} {v : Value} {gs : List Nat} (h : OutR w base d v gs) {o : Nat} (ho : v.ownBlock = some o) : ∃ cur, w.heap[o]? = some (.cells cur 37 (0, 0)) := by
  rcases h.2 with ⟨e, -⟩ | ⟨o', cap, cur, e, hb, hh, -⟩
  · subst e; cases ho
  · subst e
    simp only [Value.ownBlock, Option.some.injEq] at ho
    subst ho
    exact ⟨cur, hh⟩
theorem OutR.keep {w w' : World} {base d : Nat} {v : Value} {gs : List Nat} (h : OutR w base d v gs) (hb : ∀ o, v.ownBlock = some o → w'.heap[o]? = w.heap[o]?) : OutR w' base d v gs := by
  refine ⟨h.1, ?_⟩
  rcases h.2 with e | ⟨o, cap, cur, e, h1, h2, h3⟩
  · exact .inl e
  · exact .inr ⟨o, cap, cur, e, h1, (hb o (by rw [e]; rfl)).trans h2, h3⟩
theorem OutR.ne {w : World} {base d g n : Nat} {v : Value} {gs : List Nat} {f : Nat → Int} (h : OutR w base d v gs) (hr : RowI w g n f) : v.ownBlock ≠ some g := by
  intro e
  obtain ⟨cur, h1⟩ := h.own e
  obtain ⟨C, h2, -⟩ := hr
  rw [h1] at h2
  simp at h2
theorem OutR.set {w : World} {base d g n k : Nat} {v : Value} {gs : List Nat} {f : Nat → Int} (h : OutR w base d v gs) (hr : RowI w g n f) (y : Value) : OutR (w.setCell ⟨g, k, none⟩ y) base d v gs :=
  h.keep fun o ho => by
    have : g ≠ o := fun e => h.ne hr (by rw [e]; exact ho)
    simp [World.setCell, Array.getElem?_modify, this]

end Go.Proofs.Ytbdnelijfbnfnaa
end

section
namespace Go.Proofs.Ytbdnelijfbnfnaa
open Go.ChangeShapes Go.WideShapes Go.ChangeAt Go.RowKit
set_option linter.unusedVariables false

theorem df_mem {h : Nat} {l : List UInt8} (hd : dyckFrom h l = true) : ∀ c ∈ l, c.toNat = 117 ∨ c.toNat = 100 := by
  induction l generalizing h with
  | nil => simp
  | cons c l ih =>
    intro x hx
    rcases df_letter hd with ⟨e, h1⟩ | ⟨e, -, h1⟩
    · rcases List.mem_cons.1 hx with rfl | hx
      · exact .inl e
      · exact ih h1 x hx
    · rcases List.mem_cons.1 hx with rfl | hx
      · exact .inr e
      · exact ih h1 x hx
theorem at_mem (s : ByteArray) (i : Nat) (h : i < s.size) : s[i] ∈ s.data.toList := by
  have : s.data[i]'h ∈ s.data := Array.getElem_mem h
  exact Array.mem_toList_iff.2 this
theorem at_list (s : ByteArray) (i : Nat) (h : i < s.size) (h' : i < s.data.toList.length) : s.data.toList[i] = s[i] := by
  rw [Array.getElem_toList]; rfl
theorem dyck_letter {s : ByteArray} (hd : dyck s = true) (i : Nat) (h : i < s.size) : s[i].toNat = 117 ∨ s[i].toNat = 100 := by
  rw [dyck_short (dyck_size hd)] at hd
  exact df_mem hd _ (at_mem s i h)

theorem hsL_head (h : Int) (l : List UInt8) : (hsL h l).getD 0 0 = h := by cases l <;> rfl
theorem hsL_step (h : Int) (l : List UInt8) (i : Nat) (hi : i < l.length) : (hsL h l).getD (i + 1) 0 = (hsL h l).getD i 0 + if l[i].toNat = 117 then 1 else -1 := by
  induction l generalizing h i with
  | nil => simp at hi
  | cons c l ih =>
    rw [hsL]
    cases i with
    | zero =>
      rw [List.getD_cons_succ, hsL_head, List.getD_cons_zero]
      show (if c.toNat = 117 then h + 1 else h - 1) = h + if c.toNat = 117 then 1 else -1
      split <;> omega
    | succ i =>
      rw [List.getD_cons_succ, List.getD_cons_succ]
      exact ih _ i (by simpa using hi)
/-- The height in front of letter i. -/
def hAt (s : ByteArray) (i : Nat) : Int := (hsL 0 s.data.toList).getD i 0
theorem hAt_zero (s : ByteArray) : hAt s 0 = 0 := hsL_head _ _
theorem hAt_up (s : ByteArray) (i : Nat) (h : i < s.size) (e : s[i].toNat = 117) : hAt s (i + 1) = hAt s i + 1 := by
  unfold hAt
  rw [hsL_step _ _ i (by simpa using h), at_list s i h, if_pos e]
theorem hAt_down (s : ByteArray) (i : Nat) (h : i < s.size) (e : s[i].toNat ≠ 117) : hAt s (i + 1) = hAt s i + -1 := by
  unfold hAt
  rw [hsL_step _ _ i (by simpa using h), at_list s i h, if_neg e]
theorem hAt_bd (s : ByteArray) (i : Nat) (h : i ≤ s.size) : -(i : Int) ≤ hAt s i ∧ hAt s i ≤ i := by
  induction i with
  | zero => rw [hAt_zero]; simp
  | succ i ih =>
    have := ih (by omega)
    by_cases e : s[i].toNat = 117
    · rw [hAt_up s i (by omega) e]; omega
    · rw [hAt_down s i (by omega) e]; omega
/-- The heights when the first i letters have been read. -/
def hFill (s : ByteArray) (i : Nat) : Nat → Int := fun q => if q ≤ i then hAt s q else 0
theorem hFill_at (s : ByteArray) (i q : Nat) (h : q ≤ i) : hFill s i q = hAt s q := if_pos h
theorem hFill_zero (s : ByteArray) (q : Nat) : hFill s 0 q = 0 := by
  unfold hFill
  split
  · rename_i h
    obtain rfl : q = 0 := by omega
    exact hAt_zero s
  · rfl
theorem hFill_next (s : ByteArray) (i q : Nat) (h : q ≠ i + 1) : hFill s (i + 1) q = hFill s i q := by
  unfold hFill
  by_cases e : q ≤ i
  · rw [if_pos e, if_pos (by omega)]
  · rw [if_neg e, if_neg (by omega)]

theorem iter_setCell {w : World} {k g q : Nat} {s : ByteArray} {i : Nat} {y : Value} (h : w.heap[k]? = some (.stringIter s i)) (hne : g ≠ k) : (w.setCell ⟨g, q, none⟩ y).heap[k]? = some (.stringIter s i) := by
  rw [← h]
  simp [World.setCell, Array.getElem?_modify, hne]
theorem RowI.ne_iter {w : World} {k g d : Nat} {f : Nat → Int} {s : ByteArray} {i : Nat} (h : RowI w g d f) (hk : w.heap[k]? = some (.stringIter s i)) : g ≠ k := by
  obtain ⟨C, h1, -⟩ := h
  intro e
  rw [e, hk] at h1
  simp at h1
theorem RowI.iterAt {w : World} {k g d : Nat} {f : Nat → Int} {s : ByteArray} {i j : Nat} (h : RowI w g d f) (hk : w.heap[k]? = some (.stringIter s i)) : RowI (w.iterAt k s j) g d f :=
  h.keep (Lib.iterAt_other _ _ _ _ _ (h.ne_iter hk))
theorem OwnI.of_rowI {w : World} {lo hi g d c : Nat} {f : Nat → Int} {xs : List Int} (h : RowI w g d f) (hl : xs.length = d + 1) (hx : ∀ j, j ≤ d → xs.getD j 0 = f j) (h1 : lo ≤ g) (h2 : g < hi) : OwnI w lo hi (.slice (some ⟨g, 0, none⟩) (d + 1) c) xs := by
  obtain ⟨C, h3, h4⟩ := h
  refine ⟨_, c, by rw [hl], .inr ⟨g, C, h1, h2, rfl, h3, fun j hj => ?_⟩⟩
  rw [h4 j (by omega), hx j (by omega)]
/-- The state of a range over s, its iterator in block k, at place i. -/
def AtS (w : World) (k : Nat) (s : ByteArray) (i : Nat) : Prop := w.heap[k]? = some (.stringIter s i)

set_option maxRecDepth 100000 in
set_option maxHeartbeats 1600000 in
theorem heightsOfI (s : ByteArray) (w : World) : Calls Try.prog 46 #[.string s] w (AnsI (heightsP s) w) := by
  rcases hd : dyck s with _ | _
  · have HP := Lib.hid (heightsP_no hd)
    have HD := Lib.hid hd
    clear hd
    go_enter Try.func46, Try.ntmps46
    go_wp2_with fail
    (with_reducible refine (isDyckI_no s _ HD.out).mono ?_)
    rintro e w' ⟨rfl, hb⟩
    go_wp2
    go_ret
    exact ⟨_, rfl, by rw [HP.out]; exact ⟨_, _, rfl, .inl rfl⟩, hb⟩
  · have HP := Lib.hid (heightsP_yes hd)
    have HD := Lib.hid hd
    have h16 := dyck_size hd
    clear hd
    obtain ⟨i0, hi0, hz0, hz1, hz2⟩ := info_parts info3
    go_enter Try.func46, Try.ntmps46
    go_wp2_with fail
    (with_reducible refine (isDyckI_yes s _ HD.out).mono ?_)
    rintro e w1 ⟨rfl, hb⟩
    have HB1 := Lib.hid hb
    have z1 := hb.size
    clear hb
    go_wp2_with (at_make; go_must (refine wpList_make_full _ rfl _ _ 37 rfl w1.heap.size 3 i0 (.int .i64 0) 1 Try.underlying37 hi0 hz0 hz1 .i64 .i64 ((s.size : Int) + 1) ((s.size : Int) + 1) (s.size + 1) rfl rfl (by omega) (by omega) (by rw [hz2]; omega) (by unfold maxLen; omega) (Nat.le_refl _) ?_); intro w2 hown1 hgrow1)
    have HR := Lib.hid (RowI.made hown1)
    have HB2 := Lib.hid (HB1.out.grown hgrow1 z1 (fun k hk => by cases hk))
    have z2 := (hown1.lt w1.heap.size rfl).2
    clear hown1 hgrow1
    obtain ⟨g, hg⟩ : ∃ g, g = w1.heap.size := ⟨_, rfl⟩
    rw [← hg] at HR z2 z1
    rw [← hg]
    clear hg
    go_loopw [] (fun wr => ∃ i : Nat, i ≤ s.size ∧ AtS wr w2.heap.size s i ∧ RowI wr g s.size (hFill s i) ∧ Below w.heap.size w wr ∧ wr.heap.size = w2.heap.size + 1) (fun wr => s.size - wr.iterPos w2.heap.size)
    case atStart => exact ⟨0, Nat.zero_le _, World.iter_heap w2 s 0, (HR.out.keep (by rw [show (w2.iter s 0).heap = w2.heap.push _ from rfl, Array.getElem?_push, if_neg (by omega)])).same (fun q _ => hFill_zero s q), HB2.out.alloc (by omega) _, by simp [World.iter]⟩
    case round =>
      obtain ⟨i, hi, hit, hrow, hb, hz⟩ := hrel
      have HIT := Lib.hid hit
      have HROW := Lib.hid hrow
      have HB := Lib.hid hb
      clear hit hrow hb
      by_cases hlt : i < s.size
      · obtain ⟨W, hW⟩ : ∃ W, W = wr.iterAt w2.heap.size s (i + 1) := ⟨_, rfl⟩
        have HIT1 := Lib.hid (show AtS W w2.heap.size s (i + 1) by rw [hW]; exact Lib.iterAt_heap _ _ _ _ _ HIT.out)
        have HROW1 := Lib.hid (show RowI W g s.size (hFill s i) by rw [hW]; exact HROW.out.iterAt HIT.out)
        have HB3 := Lib.hid (show Below w.heap.size w W by rw [hW]; exact Lib.below_iterAt HB.out (by omega) _ _)
        have hzW : W.heap.size = w2.heap.size + 1 := by rw [hW, Lib.iterAt_size]; exact hz
        have HZW := Lib.hid hzW
        obtain ⟨hc, -⟩ := HROW1.out.cell (k := i) (by omega)
        obtain ⟨hc', hf⟩ := HROW1.out.cell (k := i + 1) (by omega)
        rw [hFill_at _ _ _ (Nat.le_refl _)] at hc
        have hbd := hAt_bd s i (by omega)
        have hi1 : (i : Int) < ((s.size + 1 : Nat) : Int) := by omega
        have hi2 : (i : Int) + 1 < ((s.size + 1 : Nat) : Int) := by omega
        have hl := dyck_letter HD.out i hlt
        generalize hFill s i (i + 1) = z0 at hc'
        have HZ := Lib.hid hz
        clear hz hzW
        rcases hl with e1 | e1
        · have hnx := next_letter (P := Try.prog) wr _ s i 117 HIT.out hlt e1 (by omega)
          rw [← hW] at hnx
          have HU := Lib.hid (hAt_up s i hlt e1)
          clear e1 hW
          generalize hzz : hAt s i = z at hc hbd HU
          clear hzz
          have hw1 : IntKind.i64.wrap (z + 1) = z + 1 := IntWalk.i64_in _ (by omega)
          have hw2 : IntKind.i64.wrap ((i : Int) + 1) = (i : Int) + 1 := IntWalk.i64_in _ (by omega)
          have hi3 : ((i : Int) + 1).toNat = i + 1 := by omega
          have hi4 : (0 : Int) ≤ (i : Int) + 1 := by omega
          have hi5 : (i : Int) < (s.size : Int) + 1 := by omega
          have hi6 : (i : Int) < (s.size : Int) := by omega
          go_wp2_with fail
          go_region_law (go_simp; go_at_call 49; (with_reducible refine (stepOf_up _).mono ?_); rintro e w' ⟨rfl, rfl⟩)
          all_goals go_wp2
          all_goals refine ⟨⟨i + 1, by omega, iter_setCell HIT1.out (RowI.ne_iter HROW1.out HIT1.out), (HROW1.out.set (f' := hFill s (i + 1)) (by omega) ((hFill_at _ _ _ (Nat.le_refl _)).trans HU.out) (fun q _ hne => hFill_next _ _ _ hne)).keep rfl, (HB3.out.setCell (by omega) _).drew, by have := HZW.out; simpa [World.setCell] using this⟩, ?_⟩
          all_goals
            have e1 : ((W.setCell ⟨g, i + 1, none⟩ (.int .i64 (z + 1))).drew).heap[w2.heap.size]? = some (.stringIter s (i + 1)) := iter_setCell HIT1.out (RowI.ne_iter HROW1.out HIT1.out)
            have e2 := HIT.out
            unfold AtS at e2
            simp only [World.iterPos, e1, e2]
            omega
        · have hnx := next_letter (P := Try.prog) wr _ s i 100 HIT.out hlt e1 (by omega)
          rw [← hW] at hnx
          have HU := Lib.hid (hAt_down s i hlt (by omega))
          clear e1 hW
          generalize hzz : hAt s i = z at hc hbd HU
          clear hzz
          have hw1 : IntKind.i64.wrap (z + -1) = z + -1 := IntWalk.i64_in _ (by omega)
          have hw2 : IntKind.i64.wrap ((i : Int) + 1) = (i : Int) + 1 := IntWalk.i64_in _ (by omega)
          have hi3 : ((i : Int) + 1).toNat = i + 1 := by omega
          have hi4 : (0 : Int) ≤ (i : Int) + 1 := by omega
          have hi5 : (i : Int) < (s.size : Int) + 1 := by omega
          have hi6 : (i : Int) < (s.size : Int) := by omega
          go_wp2_with fail
          go_region_law (go_simp; go_at_call 49; (with_reducible refine (stepOf_down _).mono ?_); rintro e w' ⟨rfl, rfl⟩)
          all_goals go_wp2
          all_goals refine ⟨⟨i + 1, by omega, iter_setCell HIT1.out (RowI.ne_iter HROW1.out HIT1.out), (HROW1.out.set (f' := hFill s (i + 1)) (by omega) ((hFill_at _ _ _ (Nat.le_refl _)).trans HU.out) (fun q _ hne => hFill_next _ _ _ hne)).keep rfl, (HB3.out.setCell (by omega) _).drew, by have := HZW.out; simpa [World.setCell] using this⟩, ?_⟩
          all_goals
            have e1 : ((W.setCell ⟨g, i + 1, none⟩ (.int .i64 (z + -1))).drew).heap[w2.heap.size]? = some (.stringIter s (i + 1)) := iter_setCell HIT1.out (RowI.ne_iter HROW1.out HIT1.out)
            have e2 := HIT.out
            unfold AtS at e2
            simp only [World.iterPos, e1, e2]
            omega
      · have hnx := fun ty => Lib.run_next_end_at (P := Try.prog) wr _ s i ty HIT.out hlt
        go_wp2
        go_ret
        obtain rfl : i = s.size := by omega
        refine ⟨_, rfl, ?_, HB.out⟩
        rw [HP.out]
        exact OwnI.of_rowI HROW.out (by rw [hsL_len]; simp) (fun j hj => (hFill_at _ _ _ hj).symm) (by omega) (by omega)

end Go.Proofs.Ytbdnelijfbnfnaa
end

section
namespace Go.Proofs.Ytbdnelijfbnfnaa
open Go.RowKit
set_option linter.unusedVariables false

theorem bld_size : (Try.prog.info? 64).map (·.size) = some 2 := by kernel_rfl
theorem bld_lies : liesAt Try.prog Try.prog.depth 64 (2 / Try.prog.cellsOf 64) 0 64 1 = true := by kernel_rfl
theorem bld_byte : (Try.prog.info? 5).map (fun i => (i.zero, i.size, i.bytes)) = some (some (.int .u8 0), 1, 1) := by kernel_rfl

set_option maxHeartbeats 1000000 in
set_option maxRecDepth 100000 in
theorem cc_used (b : Nat) (w : World) (h0 : w.cell? ⟨b, 0, none⟩ = some (.pointer (some ⟨b, 0, none⟩))) :
    Calls Try.prog 68 #[.pointer (some ⟨b, 0, none⟩)] w fun e w' => e = .returned (.tuple #[]) ∧ w' = w := by
  obtain ⟨j, hj, _⟩ := Option.map_eq_some_iff.1 bld_size
  go_enter Try.func68, Try.ntmps68
  go_wp2
  rw [Lib.run_neq_ptr_same w _ Try.underlying62 hj]
  go_wp2
  go_end0
  exact ⟨rfl, rfl⟩

set_option maxHeartbeats 1000000 in
set_option maxRecDepth 100000 in
theorem cc_fresh (b : Nat) (w : World) (h0 : w.cell? ⟨b, 0, none⟩ = some (.pointer none)) (hsh : w.shape? b = some (64, 2)) (hfz : w.frozen? ⟨b, 0, none⟩ = false) :
    Calls Try.prog 68 #[.pointer (some ⟨b, 0, none⟩)] w fun e w' => e = .returned (.tuple #[]) ∧ w' = w.setCell ⟨b, 0, none⟩ (.pointer (some ⟨b, 0, none⟩)) := by
  obtain ⟨j, hj, hjs⟩ := Option.map_eq_some_iff.1 bld_size
  go_enter Try.func68, Try.ntmps68
  go_wp2
  rw [Lib.run_to_unsafe w ⟨b, 0, none⟩ Try.underlying62 Try.underlying93 hj (by rw [hjs]; decide) hsh (Nat.zero_lt_succ 1)]
  simp only [Result.andThen]
  rw [Oper.upon_value]
  go_wp2
  rw [run_callFunc_extern Try.func73 (by kernel_rfl) (by kernel_rfl) (by kernel_rfl) (e := Extern.AbiNoEscape.same) (by kernel_rfl)]
  rw [Lib.run_noEscape]
  simp only [Result.andThen]
  rw [Oper.upon_value]
  go_wp2
  rw [Lib.run_from_unsafe w ⟨b, 0, none⟩ Try.underlying93 Try.underlying62 hj hsh bld_lies]
  simp only [Result.andThen]
  rw [Oper.upon_value]
  go_wp2
  go_end0
  exact ⟨rfl, rfl⟩

theorem copyCheck (B b : Nat) (bs : List Value) (w : World) (h : Lib.IsBuilderF 64 5 B b bs w) :
    Calls Try.prog 68 #[.pointer (some ⟨b, 0, none⟩)] w fun e w' => e = .returned (.tuple #[]) ∧ (Lib.BuilderAtF 64 5 B b (.pointer (some ⟨b, 0, none⟩)) bs w' ∧ Below B w w' ∧ Lib.OthersKept 5 (some b) w w') := by
  rcases h with h | h
  · refine (cc_fresh b w h.cell0 h.shape h.frozen0).mono ?_
    rintro e w' ⟨rfl, rfl⟩
    exact ⟨rfl, h.used _, (Below.refl B w).setCell (p := ⟨b, 0, none⟩) h.1 _, (Lib.OthersKept.refl _ _ w).setCell ⟨b, 0, none⟩ rfl _⟩
  · refine (cc_used b w h.cell0).mono ?_
    rintro e w' ⟨rfl, rfl⟩
    exact ⟨rfl, h, Below.refl B _, Lib.OthersKept.refl _ _ _⟩

set_option maxHeartbeats 2000000 in
set_option maxRecDepth 100000 in
theorem writeByte (B b : Nat) (bs : List Value) (c : Int) (w : World) (h : Lib.IsBuilderF 64 5 B b bs w) (hlen : bs.length + 1 ≤ 140737488355328) (hBw : B ≤ w.heap.size) :
    Calls Try.prog 63 #[.pointer (some ⟨b, 0, none⟩), .int .u8 c] w fun e w' => e = .returned .nilIface ∧ (Lib.BuilderAtF 64 5 B b (.pointer (some ⟨b, 0, none⟩)) (bs ++ [.int .u8 c]) w' ∧ Below B w w' ∧ Lib.OthersKept 5 (some b) w w') := by
  obtain ⟨i0, hi, hz0, hz1, hz2⟩ := info_parts bld_byte
  go_enter Try.func63, Try.ntmps63
  go_wp2_with (go_at_call 68; refine (copyCheck B b bs _ h).mono ?_)
  rintro e w1 ⟨rfl, h1, hb1, hk1⟩
  obtain ⟨hB, v, hbk, hown, hne⟩ := h1
  have c0 : w1.cell? ⟨b, 0, none⟩ = some (.pointer (some ⟨b, 0, none⟩)) := by rw [Lib.cell_of_heap hbk]; rfl
  have c1 : w1.cell? ⟨b, 1, none⟩ = some v := by rw [Lib.cell_of_heap hbk]; rfl
  go_wp2_with (at_builtin; refine wpList_append_ownF _ rfl _ _ 22 rfl B 5 i0 (.int .u8 0) 1 1 Try.underlying22 hi hz0 hz1 hz2 rfl (by decide) _ _ _ rfl (hown.alloc _) ⟨w1.heap.size, 0, none⟩ 1 1 [.int .u8 c] rfl rfl ?c1 ?c2 ?c3 ?c4 ?c5 ?_)
  case c1 =>
    intro j u hj
    match j, hj with
    | 0, hj => simp at hj; subst hj; simp [Addr.add]
  case c2 => intro u hu; simp at hu; subst hu; rfl
  case c3 => unfold maxLen; omega
  case c4 => omega
  case c5 => have := hb1.size; simp; omega
  intro v' w2 hown' hgrow _
  have hlt : b < w1.heap.size := by
    rcases Nat.lt_or_ge b w1.heap.size with h' | h'
    · exact h'
    · simp [Array.getElem?_eq_none h'] at hbk
  have hb2 : w2.heap[b]? = some (.cells #[.pointer (some ⟨b, 0, none⟩), v] 64 (0, 0)) := by
    rw [hgrow.block b (by simp; omega) (fun e => hne e.symm), Lib.alloc_old w1 _ b hlt]
    exact hbk
  have d0 : w2.cell? ⟨b, 0, none⟩ = some (.pointer (some ⟨b, 0, none⟩)) := by rw [Lib.cell_of_heap hb2]; rfl
  have d1 : w2.cell? ⟨b, 1, none⟩ = some v := by rw [Lib.cell_of_heap hb2]; rfl
  have f1 : w2.frozen? ⟨b, 1, none⟩ = false := Lib.frozen_of_heap hb2 1
  obtain ⟨g, cap, rfl⟩ : ∃ g cap, v' = .slice (some ⟨g, 0, none⟩) (bs.length + 1) cap := by
    rcases hown'.2 with ⟨_, h0⟩ | ⟨g, cap, cur, fz, hv, _⟩
    · omega
    · exact ⟨g, cap, hv⟩
  go_wp2
  go_ret
  refine ⟨rfl, ?_, ?_, ((hk1.alloc _).grown hgrow (Lib.ownsRowF_kind (hown.alloc _))).setCell ⟨b, 1, none⟩ rfl _⟩
  · exact Lib.BuilderAtF.put (T := 64) (e := 5) hB hb2 (bs' := bs ++ [.int .u8 c]) (by simpa using hown') (by decide)
  · exact ((hb1.alloc (by have := hb1.size; omega) _).grown hgrow (by have := hb1.size; simp; omega) (fun k hk => (hown.lt k hk).1)).setCell (p := ⟨b, 1, none⟩) hB _

end Go.Proofs.Ytbdnelijfbnfnaa
end

section
namespace Go.Proofs.Ytbdnelijfbnfnaa
open Go.ChangeShapes Go.WideShapes Go.ChangeAt Go.RowKit
set_option linter.unusedVariables false

theorem df_low : ∀ (l : List UInt8) (h : Nat), dyckFrom h l = true → h ≤ l.length := by
  intro l
  induction l with
  | nil => intro h hd; rw [df_nil] at hd; simp at hd; omega
  | cons c l ih =>
    intro h hd
    rw [List.length_cons]
    rcases df_letter hd with ⟨-, h1⟩ | ⟨-, h0, h1⟩
    · have := ih _ h1; omega
    · have := ih _ h1; omega
theorem hAt_path {s : ByteArray} (hd : dyck s = true) : ∀ j, j ≤ s.size → ∃ h : Nat, hAt s j = (h : Int) ∧ h ≤ j ∧ dyckFrom h (rest s j) = true := by
  intro j
  induction j with
  | zero =>
    intro _
    rw [dyck_short (dyck_size hd)] at hd
    exact ⟨0, hAt_zero s, Nat.le_refl _, hd⟩
  | succ j ih =>
    intro hj
    obtain ⟨h, h1, h2, h3⟩ := ih (by omega)
    rw [rest_cons s j hj] at h3
    rcases df_letter h3 with ⟨e, h4⟩ | ⟨e, h0, h4⟩
    · exact ⟨h + 1, by rw [hAt_up s j hj e, h1]; omega, by omega, h4⟩
    · exact ⟨h - 1, by rw [hAt_down s j hj (by omega), h1]; omega, by omega, h4⟩
theorem hAt_fit {s : ByteArray} (hd : dyck s = true) (j : Nat) (hj : j ≤ s.size) : 0 ≤ hAt s j ∧ hAt s j ≤ 8 := by
  obtain ⟨h, h1, h2, h3⟩ := hAt_path hd j hj
  have h4 := df_low _ _ h3
  have h5 := dyck_size hd
  have h6 : (rest s j).length = s.size - j := by unfold rest; simp
  rw [h1]; omega

/-- The letters by the directions of the steps. -/
def stepD (xs : List Int) (j : Nat) : UInt8 := if xs.getD j 0 < xs.getD (j + 1) 0 then 117 else 100
def dirL (xs : List Int) : Nat → List UInt8
  | 0 => []
  | j + 1 => dirL xs j ++ [stepD xs j]
theorem dirL_len (xs : List Int) (j : Nat) : (dirL xs j).length = j := by
  induction j with
  | zero => rfl
  | succ j ih => rw [dirL, List.length_append, ih]; rfl
theorem dirL_at (xs : List Int) (j i : Nat) (h : i < j) (h' : i < (dirL xs j).length) : (dirL xs j)[i] = stepD xs i := by
  induction j with
  | zero => omega
  | succ j ih =>
    have hl := dirL_len xs j
    by_cases e : i = j
    · subst e
      simp only [dirL]
      rw [List.getElem_append_right (by omega)]
      simp [hl]
    · simp only [dirL]
      rw [List.getElem_append_left (by omega)]
      exact ih (by omega) (by omega)
def dirW (xs : List Int) : ByteArray := ⟨(dirL xs (xs.length - 1)).toArray⟩
theorem dirW_size (xs : List Int) : (dirW xs).size = xs.length - 1 := by
  unfold dirW
  rw [str_len, dirL_len]
theorem dirW_at (xs : List Int) (i : Nat) (h : i < (dirW xs).size) : (dirW xs)[i] = stepD xs i := by
  have hs := dirW_size xs
  rw [← at_list _ i h (by simpa using h)]
  exact dirL_at xs _ i (by omega) (by rw [dirL_len]; omega)
theorem dir_steps {xs : List Int} (j : Nat) (h : ∀ i, i < j → (xs.getD i 0 < xs.getD (i + 1) 0 ↔ xs.getD (i + 1) 0 - xs.getD i 0 = 1)) : dirL xs j = stepsL xs j := by
  induction j with
  | zero => rfl
  | succ j ih =>
    rw [dirL, stepsL, ih (fun i hi => h i (by omega))]
    congr 2
    unfold stepD stepC
    have := h j (by omega)
    by_cases e : xs.getD j 0 < xs.getD (j + 1) 0
    · rw [if_pos e, if_pos (this.1 e)]
    · rw [if_neg e, if_neg (fun h => e (this.2 h))]
theorem dir_up {xs : List Int} {i : Nat} (h : i < (dirW xs).size) : (dirW xs)[i].toNat = 117 ↔ xs.getD i 0 < xs.getD (i + 1) 0 := by
  rw [dirW_at xs i h]
  unfold stepD
  by_cases e : xs.getD i 0 < xs.getD (i + 1) 0
  · rw [if_pos e]; exact ⟨fun _ => e, fun _ => rfl⟩
  · rw [if_neg e]; exact ⟨fun h => absurd h (by decide), fun h => absurd h e⟩
theorem hAt_list {xs : List Int} {s : ByteArray} (hd : dyck s = true) (h : heightsP s = xs) (j : Nat) : xs.getD j 0 = hAt s j := by
  rw [← h, heightsP_yes hd]; rfl
/-- What the comparison with the heights of the word says. -/
theorem poh_eq {xs : List Int} (h0 : 0 < xs.length) (h : heightsP (dirW xs) = xs) : pohGood xs ∧ pohW xs = dirW xs := by
  have hd : dyck (dirW xs) = true := by
    rcases hd : dyck (dirW xs) with _ | _
    · rw [heightsP_no hd] at h; rw [← h] at h0; simp at h0
    · rfl
  have hs := dirW_size xs
  have hok : ∀ j, j + 1 < xs.length → okAt xs j := by
    intro j hj
    have h1 := hAt_fit hd j (by omega)
    have h2 := hAt_fit hd (j + 1) (by omega)
    have hup := dir_up (xs := xs) (i := j) (by omega)
    unfold okAt
    rw [hAt_list hd h j, hAt_list hd h (j + 1)]
    by_cases e : (dirW xs)[j].toNat = 117
    · have := hAt_up _ j (by omega) e
      exact ⟨by omega, by omega, by omega, by omega, .inl (by omega)⟩
    · have := hAt_down _ j (by omega) e
      exact ⟨by omega, by omega, by omega, by omega, .inr (by omega)⟩
  have hw : pohW xs = dirW xs := by
    unfold pohW dirW
    rw [dir_steps (xs.length - 1) fun i hi => by
      have := hok i (by omega)
      unfold okAt at this
      omega]
  refine ⟨⟨hok, h0, ?_, by rw [hw]; exact hd⟩, hw⟩
  rw [hAt_list hd h 0]; exact hAt_zero _
theorem poh_back {xs : List Int} (hg : pohGood xs) : heightsP (dirW xs) = xs := by
  obtain ⟨hok, h0, hz, hd⟩ := hg
  have hw : pohW xs = dirW xs := by
    unfold pohW dirW
    rw [dir_steps (xs.length - 1) fun i hi => by
      have := hok i (by omega)
      unfold okAt at this
      omega]
  rw [hw] at hd
  have hs := dirW_size xs
  have hall : ∀ j, j < xs.length → hAt (dirW xs) j = xs.getD j 0 := by
    intro j
    induction j with
    | zero => intro _; rw [hAt_zero, hz]
    | succ j ih =>
      intro hj
      have h1 := ih (by omega)
      have hup := dir_up (xs := xs) (i := j) (by omega)
      have h2 := hok j hj
      unfold okAt at h2
      by_cases e : (dirW xs)[j].toNat = 117
      · rw [hAt_up _ j (by omega) e, h1]
        have := hup.1 e
        omega
      · rw [hAt_down _ j (by omega) e, h1]
        have : ¬ xs.getD j 0 < xs.getD (j + 1) 0 := fun h => e (hup.2 h)
        omega
  rw [heightsP_yes hd]
  have hl : (hsL 0 (dirW xs).data.toList).length = xs.length := by rw [hsL_len]; simp; omega
  apply List.ext_getElem hl
  intro i h1 h2
  have := hall i h2
  unfold hAt at this
  rw [List.getD_eq_getElem?_getD, List.getD_eq_getElem?_getD, List.getElem?_eq_getElem h1, List.getElem?_eq_getElem h2] at this
  exact this

set_option maxRecDepth 100000 in
set_option maxHeartbeats 3200000 in
theorem pathOfHeightsI (v : Value) (xs : List Int) (lo hi : Nat) (w : World) (hv : OwnI w lo hi v xs) (hhi : hi ≤ w.heap.size) (hl : xs.length ≤ 1048576) :
    Calls Try.prog 47 #[v] w fun e w' => e = .returned (.tuple #[.string (pohP xs), .bool (pohOk xs)]) ∧ Below w.heap.size w w' := by
  obtain ⟨A1, c1, rfl, -⟩ := id hv
  have HV := Lib.hid hv
  clear hv
  go_enter Try.func47, Try.ntmps47
  go_wp2
  go_loopw [5] (fun y wr => ∃ (j : Nat), j ≤ xs.length - 1 ∧ y = .int .i64 ((j : Int) + 1) ∧ Lib.IsBuilderF 64 5 w.heap.size w.heap.size (Lib.byteCells (dirL xs j)) wr ∧ Below w.heap.size w wr) (fun y _ => xs.length - (intOf y).toNat)
  case atStart => exact ⟨0, Nat.zero_le _, rfl, Lib.IsBuilderF.of (Lib.fresh_isBuilder 64 5 w), (Below.refl _ _).alloc (Nat.le_refl _) _⟩
  case round =>
    obtain ⟨j, hj, rfl, hbd, hb⟩ := hrel
    have HBD := Lib.hid hbd
    have HB := Lib.hid hb
    have zB := hb.size
    clear hbd hb
    by_cases hlt : j + 1 < xs.length
    · obtain ⟨g, p, e1, -, -, hc1, -⟩ := (HV.out.keep HB.out hhi).cell (j := j) (by omega)
      obtain ⟨g', p', e2, -, -, hc2, -⟩ := (HV.out.keep HB.out hhi).cell (j := j + 1) hlt
      simp only [Value.slice.injEq] at e1
      obtain ⟨rfl, -, rfl⟩ := e1
      simp only [Value.slice.injEq, Option.some.injEq, Addr.mk.injEq] at e2
      obtain ⟨⟨rfl, -, -⟩, -, rfl⟩ := e2
      have hj1 : ((j : Int) + 1).toNat = j + 1 := by omega
      have hj2 : (j : Int) + 1 - 1 = (j : Int) := by omega
      have hji : (j : Int) + 1 < (xs.length : Int) := by omega
      have hw1 : IntKind.i64.wrap ((j : Int) + 1 - 1) = (j : Int) := by rw [hj2]; exact IntWalk.i64_in _ (by omega)
      have HST := Lib.hid (show dirL xs (j + 1) = dirL xs j ++ [stepD xs j] from rfl)
      have HSD := Lib.hid (show stepD xs j = if xs.getD j 0 < xs.getD (j + 1) 0 then 117 else 100 from rfl)
      have hjl : (j : Int) < (xs.length : Int) := by omega
      generalize xs.getD (j + 1) 0 = x at *
      generalize xs.getD j 0 = y at *
      have HBDN := Lib.hid (show ∀ n, Lib.IsBuilderF 64 5 w.heap.size w.heap.size (Lib.byteCells (dirL xs j)) (wr.drewN n) from fun n => HBD.out)
      by_cases hxy : y < x
      · have HS1 := Lib.hid (HSD.out.trans (if_pos hxy))
        go_wp2_with fail
        go_quiet (fail)
        go_wp2_with fail
        refine (writeByte w.heap.size w.heap.size _ 117 _ (HBDN.out _) (by rw [Lib.byteCells_length, dirL_len]; omega) zB).mono ?_
        rintro e w3 ⟨rfl, h1, b1, -⟩
        go_wp2
        refine ⟨⟨j + 1, by omega, by simp, ?_, (below_drewN HB.out _).trans b1⟩, by simp [intOf]; omega⟩
        rw [HST.out, HS1.out, Lib.byteCells_append]
        exact Or.inr h1
      · have HS1 := Lib.hid (HSD.out.trans (if_neg hxy))
        go_wp2_with fail
        go_quiet (fail)
        go_wp2_with fail
        refine (writeByte w.heap.size w.heap.size _ 100 _ (HBDN.out _) (by rw [Lib.byteCells_length, dirL_len]; omega) zB).mono ?_
        rintro e w3 ⟨rfl, h1, b1, -⟩
        go_wp2
        refine ⟨⟨j + 1, by omega, by simp, ?_, (below_drewN HB.out _).trans b1⟩, by simp [intOf]; omega⟩
        rw [HST.out, HS1.out, Lib.byteCells_append]
        exact Or.inr h1
    · have hlt' : ¬ ((j : Int) + 1 < (xs.length : Int)) := by omega
      have HJ := Lib.hid (show xs.length - 1 = j from by omega)
      have HDW := Lib.hid (show dirW xs = ⟨(dirL xs j).toArray⟩ by unfold dirW; rw [HJ.out])
      go_wp2_with fail
      refine (Try.Builder_String_any_k w.heap.size w.heap.size (dirL xs j) _ HBD.out zB).mono ?_
      rintro e w1 ⟨rfl, -, b1, -⟩
      rw [← HDW.out]
      have HB1 := Lib.hid (HB.out.trans b1)
      have z1 := HB1.out.size
      clear b1
      by_cases hn : xs.length = 0
      · have HN := Lib.hid (poh_no (xs := xs) fun h => by have := h.2.1; omega)
        have hn0 : ((xs.length : Int) == 0) = true := by simp [hn]
        go_wp2
        go_ret2
        exact ⟨ret_sb HN.out.2.symm HN.out.1.symm, HB1.out⟩
      · have hn0 : ((xs.length : Int) == 0) = false := beq_eq_false_iff_ne.2 (by omega)
        have hpos : 0 < xs.length := by omega
        have HPOS := Lib.hid hpos
        go_wp2_with fail
        refine (heightsOfI (dirW xs) _).mono ?_
        rintro e w2 ⟨v2, rfl, ho2, hb2⟩
        obtain ⟨A2, c2, rfl, -⟩ := id ho2
        have HO2 := Lib.hid ho2
        have HV2 := Lib.hid ((HV.out.keep HB1.out hhi).keep hb2 (by omega))
        have HB2 := Lib.hid (HB1.out.trans (hb2.mono z1))
        clear ho2 hb2
        by_cases hlen : (heightsP (dirW xs)).length = xs.length
        · obtain ⟨g1, p1, e1, -, -, -, -⟩ := HO2.out.cell (j := 0) (by omega)
          obtain ⟨g2, p2, e2, -, -, -, -⟩ := HV2.out.cell (j := 0) hpos
          simp only [Value.slice.injEq] at e1 e2
          obtain ⟨rfl, -, rfl⟩ := e1
          obtain ⟨rfl, -, rfl⟩ := e2
          have HC1 := Lib.hid (show ∀ i, i < (heightsP (dirW xs)).length → w2.cell? ⟨g1, 0 + i, none⟩ = some (.int .i64 ((heightsP (dirW xs)).getD i 0)) from fun i hi => by
            obtain ⟨g, p, e, -, -, h, -⟩ := HO2.out.cell hi
            simp only [Value.slice.injEq, Option.some.injEq, Addr.mk.injEq] at e
            rw [e.1.1, Nat.zero_add]; exact h)
          have HC2 := Lib.hid (show ∀ i, i < xs.length → w2.cell? ⟨g2, 0 + i, none⟩ = some (.int .i64 (xs.getD i 0)) from fun i hi => by
            obtain ⟨g, p, e, -, -, h, -⟩ := HV2.out.cell hi
            simp only [Value.slice.injEq, Option.some.injEq, Addr.mk.injEq] at e
            rw [e.1.1, Nat.zero_add]; exact h)
          by_cases hsame : heightsP (dirW xs) = xs
          · have HN := Lib.hid (poh_yes (poh_eq hpos hsame).1)
            have HW := Lib.hid (poh_eq hpos hsame).2
            have HE := Lib.hid (show ((heightsP (dirW xs)).take (heightsP (dirW xs)).length == xs.take xs.length) = true by rw [hsame]; simp)
            have HLEN := Lib.hid hlen
            clear hlen hsame
            go_wp2_with fail
            refine (Try.slices_Equal_int g1 0 _ _ g2 0 _ _ (heightsP (dirW xs)) xs _ (Nat.le_refl _) (Nat.le_refl _) (by have := HLEN.out; omega) (by omega) HC1.out HC2.out).mono ?_
            rw [HE.out]
            rintro e w3 ⟨rfl, q, rfl⟩
            go_wp2
            go_ret2
            exact ⟨ret_sb (by rw [HN.out.2, HW.out]) HN.out.1.symm, below_drewN HB2.out _⟩
          · have HN := Lib.hid (poh_no (xs := xs) fun h => hsame (poh_back h))
            have HE := Lib.hid (show ((heightsP (dirW xs)).take (heightsP (dirW xs)).length == xs.take xs.length) = false by rw [List.take_length, List.take_length]; exact beq_eq_false_iff_ne.2 hsame)
            have HLEN := Lib.hid hlen
            clear hlen hsame
            go_wp2_with fail
            refine (Try.slices_Equal_int g1 0 _ _ g2 0 _ _ (heightsP (dirW xs)) xs _ (Nat.le_refl _) (Nat.le_refl _) (by have := HLEN.out; omega) (by omega) HC1.out HC2.out).mono ?_
            rw [HE.out]
            rintro e w3 ⟨rfl, q, rfl⟩
            go_wp2
            go_ret2
            exact ⟨ret_sb HN.out.2.symm HN.out.1.symm, below_drewN HB2.out _⟩
        · have HN := Lib.hid (poh_no (xs := xs) fun h => hlen (by rw [poh_back h]))
          have HLEN := Lib.hid hlen
          clear hlen
          go_wp2_with fail
          refine (Try.slices_Equal_int_lens _ _ _ _ _ _ _ HLEN.out).mono ?_
          rintro e w3 ⟨rfl, rfl⟩
          go_wp2
          go_ret2
          exact ⟨ret_sb HN.out.2.symm HN.out.1.symm, HB2.out⟩

end Go.Proofs.Ytbdnelijfbnfnaa
end

section
namespace Go.Proofs.Ytbdnelijfbnfnaa
open Go.RowKit
set_option linter.unusedVariables false

def fitB (a b : ByteArray) : Bool := dyck a && dyck b && (a.size == b.size)
theorem fit_yes {a b : ByteArray} (h : fitB a b = true) : dyck a = true ∧ dyck b = true ∧ a.size = b.size := by
  unfold fitB at h
  simp only [Bool.and_eq_true, beq_iff_eq] at h
  exact ⟨h.1.1, h.1.2, h.2⟩
theorem fit_of {a b : ByteArray} (h1 : dyck a = true) (h2 : dyck b = true) (h3 : a.size = b.size) : fitB a b = true := by
  unfold fitB; rw [h1, h2, h3]; simp
theorem fit_no {a b : ByteArray} (h : dyck a = false ∨ dyck b = false ∨ a.size ≠ b.size) : fitB a b = false := by
  rcases hf : fitB a b with _ | _
  · rfl
  · obtain ⟨h1, h2, h3⟩ := fit_yes hf
    rcases h with h | h | h
    · rw [h1] at h; cases h
    · rw [h2] at h; cases h
    · exact absurd h3 h
theorem hs_len {a : ByteArray} (h : dyck a = true) : (heightsP a).length = a.size + 1 := by rw [heightsP_yes h, hsL_len]; simp
/-- Place by place. -/
def hh (f : Int → Int → Int) (xs ys : List Int) (n : Nat) : List Int := (List.range n).map fun i => f (xs.getD i 0) (ys.getD i 0)
theorem hh_len (f : Int → Int → Int) (xs ys : List Int) (n : Nat) : (hh f xs ys n).length = n := by simp [hh]
theorem hh_at (f : Int → Int → Int) (xs ys : List Int) (n i : Nat) (h : i < n) : (hh f xs ys n).getD i 0 = f (xs.getD i 0) (ys.getD i 0) := by simp [hh, List.getD, h]
theorem hh_next (f : Int → Int → Int) (xs ys : List Int) (n : Nat) : hh f xs ys (n + 1) = hh f xs ys n ++ [f (xs.getD n 0) (ys.getD n 0)] := by
  unfold hh; rw [List.range_succ, List.map_append]; rfl
/-- The path of these heights. -/
noncomputable def thrP (f : Int → Int → Int) (a b : ByteArray) : ByteArray := if fitB a b = true then pohP (hh f (heightsP a) (heightsP b) (a.size + 1)) else ⟨#[]⟩
noncomputable def thrOk (f : Int → Int → Int) (a b : ByteArray) : Bool := fitB a b && pohOk (hh f (heightsP a) (heightsP b) (a.size + 1))
theorem thr_yes {f : Int → Int → Int} {a b : ByteArray} (h : fitB a b = true) : thrP f a b = pohP (hh f (heightsP a) (heightsP b) (a.size + 1)) ∧ thrOk f a b = pohOk (hh f (heightsP a) (heightsP b) (a.size + 1)) := by
  unfold thrP thrOk; rw [if_pos h, h]; exact ⟨rfl, rfl⟩
theorem thr_no {f : Int → Int → Int} {a b : ByteArray} (h : fitB a b = false) : thrP f a b = ⟨#[]⟩ ∧ thrOk f a b = false := by
  unfold thrP thrOk; rw [if_neg (by rw [h]; simp), h]; exact ⟨rfl, rfl⟩
def blwB (xs ys : List Int) (n : Nat) : Bool := (List.range n).all fun i => decide (xs.getD i 0 ≤ ys.getD i 0)
theorem blw_iff (xs ys : List Int) (n : Nat) : blwB xs ys n = true ↔ ∀ i, i < n → xs.getD i 0 ≤ ys.getD i 0 := by
  unfold blwB
  rw [List.all_eq_true]
  constructor
  · intro h i hi; exact of_decide_eq_true (h i (List.mem_range.2 hi))
  · intro h i hi; exact decide_eq_true (h i (List.mem_range.1 hi))
theorem blw_no {xs ys : List Int} {n i : Nat} (hi : i < n) (h : ys.getD i 0 < xs.getD i 0) : blwB xs ys n = false := by
  rcases hb : blwB xs ys n with _ | _
  · rfl
  · have := (blw_iff xs ys n).1 hb i hi; omega
/-- No height of a is greater than that of b. -/
def isbP (a b : ByteArray) : Bool := fitB a b && blwB (heightsP a) (heightsP b) (a.size + 1)
theorem isb_yes {a b : ByteArray} (h : fitB a b = true) : isbP a b = blwB (heightsP a) (heightsP b) (a.size + 1) := by unfold isbP; rw [h]; rfl
theorem isb_no {a b : ByteArray} (h : fitB a b = false) : isbP a b = false := by unfold isbP; rw [h]; rfl

/-- The word of a path's heights is the path. -/
theorem dir_back {a : ByteArray} (hd : dyck a = true) : dirW (heightsP a) = a := by
  have hl := hs_len hd
  have hz := dirW_size (heightsP a)
  apply ByteArray.ext
  apply Array.ext (by show (dirW (heightsP a)).size = a.size; omega)
  intro i h1 h2
  have hi : i < (dirW (heightsP a)).size := h1
  have hi2 : i < a.size := h2
  show (dirW (heightsP a))[i] = a[i]
  rw [dirW_at _ i hi]
  unfold stepD
  rw [hAt_list hd rfl i, hAt_list hd rfl (i + 1)]
  by_cases e : a[i].toNat = 117
  · have := hAt_up a i hi2 e
    rw [if_pos (by omega)]
    exact UInt8.toNat_inj.1 (by rw [e]; rfl)
  · have := hAt_down a i hi2 e
    rw [if_neg (by omega)]
    have := (dyck_letter hd i hi2).resolve_left e
    exact UInt8.toNat_inj.1 (by rw [this]; rfl)
theorem poh_heights {a : ByteArray} (hd : dyck a = true) : pohOk (heightsP a) = true ∧ pohP (heightsP a) = a := by
  have hl := hs_len hd
  obtain ⟨hg, hw⟩ := poh_eq (xs := heightsP a) (by omega) (by rw [dir_back hd])
  obtain ⟨h1, h2⟩ := poh_yes hg
  exact ⟨h1, by rw [h2, hw, dir_back hd]⟩
theorem poh_hs {xs : List Int} (h : pohOk xs = true) : heightsP (pohP xs) = xs ∧ dyck (pohP xs) = true := by
  have hg : pohGood xs := by
    rcases Classical.em (pohGood xs) with hg | hg
    · exact hg
    · rw [(poh_no hg).1] at h; cases h
  have h2 := (poh_yes hg).2
  have hb := poh_back hg
  have he := poh_eq (xs := xs) hg.2.1 hb
  rw [h2]
  exact ⟨by rw [he.2]; exact hb, hg.2.2.2⟩
/-- The program's way to tell what is below. -/
theorem isb_low {a b : ByteArray} (h : fitB a b = true) : isbP a b = (thrOk min a b && decide (thrP min a b = a)) := by
  obtain ⟨ha, hb, hs⟩ := fit_yes h
  obtain ⟨e1, e2⟩ := thr_yes (f := min) h
  have la := hs_len ha
  rw [isb_yes h, e1, e2]
  rw [Bool.eq_iff_iff, Bool.and_eq_true, decide_eq_true_eq, blw_iff]
  constructor
  · intro hle
    have : hh min (heightsP a) (heightsP b) (a.size + 1) = heightsP a := by
      apply List.ext_getElem (by rw [hh_len, la])
      intro i h1 h2
      have hi : i < a.size + 1 := by omega
      have := hh_at min (heightsP a) (heightsP b) (a.size + 1) i hi
      rw [List.getD_eq_getElem?_getD, List.getElem?_eq_getElem h1] at this
      have hx : (heightsP a).getD i 0 = (heightsP a)[i] := by rw [List.getD_eq_getElem?_getD, List.getElem?_eq_getElem h2]; rfl
      have := hle i hi
      simp only [Option.getD_some] at *
      omega
    rw [this]
    exact poh_heights ha
  · rintro ⟨h1, h2⟩ i hi
    have h3 := (poh_hs h1).1
    rw [h2] at h3
    have := hh_at min (heightsP a) (heightsP b) (a.size + 1) i hi
    rw [← h3] at this
    omega

/-- The sum of the differences ahead of place j. -/
def dsL (xs ys : List Int) : Nat → Int
  | 0 => 0
  | j + 1 => dsL xs ys j + max (xs.getD j 0 - ys.getD j 0) (ys.getD j 0 - xs.getD j 0)
theorem dsL_bd {xs ys : List Int} {n : Nat} (hx : ∀ j, j < n → 0 ≤ xs.getD j 0 ∧ xs.getD j 0 ≤ 8) (hy : ∀ j, j < n → 0 ≤ ys.getD j 0 ∧ ys.getD j 0 ≤ 8) : ∀ j, j ≤ n → 0 ≤ dsL xs ys j ∧ dsL xs ys j ≤ 8 * j
  | 0, _ => by simp [dsL]
  | j + 1, h => by
    have := dsL_bd hx hy j (by omega)
    have h1 := hx j (by omega)
    have h2 := hy j (by omega)
    rw [dsL]; omega
def dstP (a b : ByteArray) : Int := if fitB a b = true then dsL (heightsP a) (heightsP b) (a.size + 1) / 2 else -1
theorem dst_yes {a b : ByteArray} (h : fitB a b = true) : dstP a b = dsL (heightsP a) (heightsP b) (a.size + 1) / 2 := if_pos h
theorem dst_no {a b : ByteArray} (h : fitB a b = false) : dstP a b = -1 := if_neg (by rw [h]; simp)
/-- What the heights are too much. -/
def tmL (xs : List Int) : Nat → Int
  | 0 => 0
  | j + 1 => tmL xs j + xs.getD j 0 - ((j % 2 : Nat) : Int)
def rnkP (w : ByteArray) : Int := if dyck w = true then tmL (heightsP w) (w.size + 1) / 2 else -1
theorem tmL_bd {xs : List Int} {n : Nat} (hx : ∀ j, j < n → 0 ≤ xs.getD j 0 ∧ xs.getD j 0 ≤ 8) : ∀ j, j ≤ n → -(j : Int) ≤ tmL xs j ∧ tmL xs j ≤ 8 * j
  | 0, _ => by simp [tmL]
  | j + 1, h => by
    have := tmL_bd hx j (by omega)
    have h1 := hx j (by omega)
    rw [tmL]; omega
theorem hAt_par {s : ByteArray} (hd : dyck s = true) : ∀ j, j ≤ s.size → hAt s j % 2 = ((j % 2 : Nat) : Int)
  | 0, _ => by rw [hAt_zero]; rfl
  | j + 1, h => by
    have := hAt_par hd j (by omega)
    by_cases e : s[j].toNat = 117
    · rw [hAt_up s j (by omega) e]; omega
    · rw [hAt_down s j (by omega) e]; omega
theorem hs_fit {a : ByteArray} (hd : dyck a = true) (j : Nat) (h : j < a.size + 1) : 0 ≤ (heightsP a).getD j 0 ∧ (heightsP a).getD j 0 ≤ 8 := by
  rw [hAt_list hd rfl j]; exact hAt_fit hd j (by omega)
theorem tmL_nn {w : ByteArray} (hd : dyck w = true) : ∀ j, j ≤ w.size + 1 → 0 ≤ tmL (heightsP w) j
  | 0, _ => by simp [tmL]
  | j + 1, h => by
    have := tmL_nn hd j (by omega)
    have p1 := hAt_par hd j (by omega)
    have p2 := hAt_fit hd j (by omega)
    rw [← hAt_list hd rfl j] at p1 p2
    rw [tmL]; omega
/-- The lowest path. -/
def zzL : Nat → List UInt8
  | 0 => []
  | k + 1 => 117 :: 100 :: zzL k
theorem zzL_len : ∀ k, (zzL k).length = 2 * k
  | 0 => rfl
  | k + 1 => by rw [zzL, List.length_cons, List.length_cons, zzL_len k]; omega
theorem zz_hs : ∀ (k j : Nat), j ≤ 2 * k → (hsL 0 (zzL k)).getD j 0 = ((j % 2 : Nat) : Int)
  | 0, j, h => by obtain rfl : j = 0 := by omega
                  rfl
  | k + 1, j, h => by
    rw [zzL, hsL_up _ _ _ rfl, hsL_down _ _ _ (by decide)]
    match j, h with
    | 0, _ => rfl
    | 1, _ => rfl
    | j + 2, h =>
      have := zz_hs k j (by omega)
      rw [List.getD_eq_getElem?_getD, List.getElem?_cons_succ, List.getElem?_cons_succ, ← List.getD_eq_getElem?_getD, show ((0 : Int) + 1 - 1) = 0 by omega, this]
      congr 1; omega
theorem zz_dyck : ∀ k, dyckFrom 0 (zzL k) = true
  | 0 => rfl
  | k + 1 => by rw [zzL, df_up _ _ _ rfl, df_down _ _ _ rfl, zz_dyck k]
def zzP (k : Nat) : ByteArray := ⟨(zzL k).toArray⟩
theorem zzP_list (k : Nat) : (zzP k).data.toList = zzL k := by simp [zzP]
theorem zzP_size (k : Nat) : (zzP k).size = 2 * k := by rw [← zzL_len k, ← zzP_list]; simp
theorem zzP_dyck (k : Nat) (h : k ≤ 8) : dyck (zzP k) = true := by rw [dyck_short (by rw [zzP_size]; omega), zzP_list]; exact zz_dyck k
theorem dyck_even {s : ByteArray} (hd : dyck s = true) : s.size % 2 = 0 := by
  have h := hAt_par hd s.size (Nat.le_refl _)
  obtain ⟨k, hk, -, hf⟩ := hAt_path hd s.size (Nat.le_refl _)
  rw [rest_end s s.size (Nat.le_refl _), df_nil] at hf
  simp only [beq_iff_eq] at hf
  omega
theorem rank_dst {w : ByteArray} (hd : dyck w = true) : rnkP w = dstP w (zzP (w.size / 2)) := by
  have he := dyck_even hd
  have h16 := dyck_size hd
  have hz := zzP_dyck (w.size / 2) (by omega)
  have hs : w.size = (zzP (w.size / 2)).size := by rw [zzP_size]; omega
  unfold rnkP
  rw [if_pos hd, dst_yes (fit_of hd hz hs)]
  have key : ∀ j, j ≤ w.size + 1 → tmL (heightsP w) j = dsL (heightsP w) (heightsP (zzP (w.size / 2))) j := by
    intro j
    induction j with
    | zero => intro _; rfl
    | succ j ih =>
      intro h
      have e := ih (by omega)
      have p1 := hAt_par hd j (by omega)
      have p2 := hAt_fit hd j (by omega)
      rw [← hAt_list hd rfl j] at p1 p2
      have p3 : (heightsP (zzP (w.size / 2))).getD j 0 = ((j % 2 : Nat) : Int) := by
        rw [heightsP_yes hz, zzP_list]; exact zz_hs _ j (by omega)
      rw [tmL, dsL, e, p3]; omega
  rw [key _ (Nat.le_refl _)]
theorem rnk_no {w : ByteArray} (h : dyck w = false) : rnkP w = -1 := if_neg (by rw [h]; simp)
theorem rnk_yes {w : ByteArray} (h : dyck w = true) : rnkP w = tmL (heightsP w) (w.size + 1) / 2 := if_pos h

end Go.Proofs.Ytbdnelijfbnfnaa
end

section
namespace Go.Proofs.Ytbdnelijfbnfnaa
open Go.ChangeShapes Go.WideShapes Go.ChangeAt Go.RowKit
open Go.PlainAid (bt bt_nonneg bt_le get_bt bt_end)
set_option linter.unusedVariables false

set_option maxRecDepth 100000 in
theorem l18Fit (a b : ByteArray) (w : World) (ha : a.size ≤ 1099511627776) (hb : b.size ≤ 1099511627776) : Calls Try.prog 31 #[.string a, .string b] w fun e w' => e = .returned (.bool (fitB a b)) ∧ w = w' := by
  rcases h1 : dyck a with _ | _
  · have HF := Lib.hid (fit_no (a := a) (b := b) (.inl h1))
    have H1 := Lib.hid h1
    clear h1
    go_enter Try.func31, Try.ntmps31
    go_wp2_with fail
    (with_reducible refine (isDyck_no a _ ha H1.out).mono ?_)
    rintro e w' ⟨rfl, rfl⟩
    go_wp2
    go_ret
    exact ⟨ret_bool HF.out.symm, rfl⟩
  · rcases h2 : dyck b with _ | _
    · have HF := Lib.hid (fit_no (a := a) (b := b) (.inr (.inl h2)))
      have H1 := Lib.hid h1
      have H2 := Lib.hid h2
      clear h1 h2
      go_enter Try.func31, Try.ntmps31
      go_wp2_with fail
      (with_reducible refine (isDyck_yes a _ ha H1.out).mono ?_)
      rintro e w' ⟨rfl, rfl⟩
      go_wp2_with fail
      (with_reducible refine (isDyck_no b _ hb H2.out).mono ?_)
      rintro e w' ⟨rfl, rfl⟩
      go_wp2
      go_ret
      exact ⟨ret_bool HF.out.symm, rfl⟩
    · have HF := Lib.hid (show fitB a b = ((a.size : Int) == (b.size : Int)) by
        unfold fitB; rw [h1, h2, Bool.eq_iff_iff]; simp; omega)
      have H1 := Lib.hid h1
      have H2 := Lib.hid h2
      clear h1 h2
      go_enter Try.func31, Try.ntmps31
      go_wp2_with fail
      (with_reducible refine (isDyck_yes a _ ha H1.out).mono ?_)
      rintro e w' ⟨rfl, rfl⟩
      go_wp2_with fail
      (with_reducible refine (isDyck_yes b _ hb H2.out).mono ?_)
      rintro e w' ⟨rfl, rfl⟩
      go_wp2
      go_ret
      exact ⟨ret_bool HF.out.symm, rfl⟩

set_option maxRecDepth 100000 in
set_option maxHeartbeats 1600000 in
theorem isBelow (a b : ByteArray) (w : World) (ha : a.size ≤ 1099511627776) (hb : b.size ≤ 1099511627776) : Calls Try.prog 23 #[.string a, .string b] w fun e w' => e = .returned (.bool (isbP a b)) ∧ Below w.heap.size w w' := by
  have HF := Lib.hid (l18Fit a b w ha hb)
  rcases hf : fitB a b with _ | _
  · have HP := Lib.hid (isb_no hf)
    rw [hf] at HF
    clear hf
    go_enter Try.func23, Try.ntmps23
    go_wp2_with fail
    (with_reducible refine HF.out.mono ?_)
    rintro e w' ⟨rfl, rfl⟩
    go_wp2
    go_ret
    exact ⟨ret_bool HP.out.symm, Below.refl _ _⟩
  · have HP := Lib.hid (isb_yes hf)
    obtain ⟨d1, d2, hs⟩ := fit_yes hf
    have hl1 := hs_len d1
    have hl2 := hs_len d2
    have h16 := dyck_size d1
    have HA := Lib.hid (fun W => heightsOf a W ha)
    have HB := Lib.hid (fun W => heightsOf b W hb)
    obtain ⟨n, hn⟩ : ∃ n, n = a.size + 1 := ⟨_, rfl⟩
    rw [← hn] at HP
    have HN := Lib.hid (fun i => blw_no (xs := heightsP a) (ys := heightsP b) (n := n) (i := i))
    have HY := Lib.hid (blw_iff (heightsP a) (heightsP b) n)
    generalize heightsP a = xs at *
    generalize heightsP b = ys at *
    have l1 : xs.length = n := by omega
    have l2 : ys.length = n := by omega
    have hn17 : n ≤ 17 := by omega
    rw [hf] at HF
    clear hf d1 d2 hs hl1 hl2 h16 hn
    go_enter Try.func23, Try.ntmps23
    go_wp2_with fail
    (with_reducible refine HF.out.mono ?_)
    rintro e w' ⟨rfl, rfl⟩
    go_wp2_with fail
    (with_reducible refine (HA.out _).mono ?_)
    rintro e w1 ⟨v1, rfl, o1, b1⟩
    obtain ⟨A1, c1, rfl, k1⟩ := id o1
    go_wp2_with fail
    (with_reducible refine (HB.out _).mono ?_)
    rintro e w2 ⟨v2, rfl, o2, b2⟩
    obtain ⟨A2, c2, rfl, k2⟩ := id o2
    have HO1 := Lib.hid (o1.keep b2 (Nat.le_refl _))
    have HO2 := Lib.hid o2
    have HB2 := Lib.hid (b1.trans (b2.mono b1.size))
    clear k1 k2 o1 o2 b1 b2
    have L1 := Lib.hid (show xs.length = n ∧ ys.length = n from ⟨l1, l2⟩)
    rw [l1] at HO1
    rw [l2] at HO2
    simp only [l2]
    clear l1 l2
    go_wp2
    go_loopw [7] (fun y wr => ∃ (i q : Nat), i ≤ n ∧ y = .int .i64 i ∧ wr = w2.drewN q ∧ ∀ j, j < i → xs.getD j 0 ≤ ys.getD j 0) (fun y _ => n - (intOf y).toNat)
    case atStart => exact ⟨0, 0, Nat.zero_le _, rfl, rfl, fun j h => absurd h (Nat.not_lt_zero _)⟩
    case round =>
      obtain ⟨i, q, hi, rfl, rfl, hle⟩ := hrel
      have HLE := Lib.hid hle
      clear hle
      by_cases hlt : i < n
      · obtain ⟨g1, p1, e1, -, -, hc1, -⟩ := HO1.out.cell (j := i) (by have := L1.out; omega)
        simp only [Value.slice.injEq] at e1
        obtain ⟨rfl, -, rfl⟩ := e1
        obtain ⟨g2, p2, e2, -, -, hc2, -⟩ := HO2.out.cell (j := i) (by have := L1.out; omega)
        simp only [Value.slice.injEq] at e2
        obtain ⟨rfl, -, rfl⟩ := e2
        have hii : (i : Int) < (n : Int) := by omega
        have HNO := Lib.hid (HN.out i hlt)
        have HLT := Lib.hid (show xs.getD i 0 ≤ ys.getD i 0 → ∀ j, j < i + 1 → xs.getD j 0 ≤ ys.getD j 0 from fun h j hj => by
          by_cases e : j = i
          · subst e; exact h
          · exact HLE.out j (by omega))
        generalize xs.getD i 0 = x at *
        generalize ys.getD i 0 = y at *
        by_cases c : y < x
        · have hPN := Lib.hid (HNO.out c)
          go_wp2
          go_quiet (fail)
          go_wp2
          go_ret
          exact ⟨ret_bool (by rw [HP.out, hPN.out]), below_drewN (below_drewN HB2.out _) _⟩
        · have cd : decide (y < x) = false := decide_eq_false c
          have HL2 := Lib.hid (HLT.out (by omega))
          go_wp2
          go_quiet (fail)
          go_wp2
          refine ⟨⟨i + 1, q + nq, by omega, by simp, by simp, HL2.out⟩, by simp [intOf]; omega⟩
      · obtain rfl : i = n := by omega
        go_wp2
        go_ret
        exact ⟨ret_bool (by rw [HP.out]; exact (HY.out.2 HLE.out).symm), below_drewN HB2.out _⟩

set_option maxRecDepth 100000 in
set_option maxHeartbeats 1600000 in
theorem distanceBetween (a b : ByteArray) (w : World) (ha : a.size ≤ 1099511627776) (hb : b.size ≤ 1099511627776) : Calls Try.prog 11 #[.string a, .string b] w fun e w' => e = .returned (.int .i64 (dstP a b)) ∧ Below w.heap.size w w' := by
  have HF := Lib.hid (l18Fit a b w ha hb)
  rcases hf : fitB a b with _ | _
  · have HP := Lib.hid (dst_no hf)
    rw [hf] at HF
    clear hf
    go_enter Try.func11, Try.ntmps11
    go_wp2_with fail
    (with_reducible refine HF.out.mono ?_)
    rintro e w' ⟨rfl, rfl⟩
    go_wp2
    go_ret
    exact ⟨ret_int HP.out.symm, Below.refl _ _⟩
  · have HP := Lib.hid (dst_yes hf)
    obtain ⟨d1, d2, hs⟩ := fit_yes hf
    have hl1 := hs_len d1
    have hl2 := hs_len d2
    have h16 := dyck_size d1
    have HA := Lib.hid (fun W => heightsOf a W ha)
    have HB := Lib.hid (fun W => heightsOf b W hb)
    have HX := Lib.hid (fun j (h : j < a.size + 1) => hs_fit d1 j h)
    have HY := Lib.hid (fun j (h : j < a.size + 1) => hs_fit d2 j (by omega))
    obtain ⟨n, hn⟩ : ∃ n, n = a.size + 1 := ⟨_, rfl⟩
    rw [← hn] at HP HX HY
    have HDB := Lib.hid (dsL_bd HX.out HY.out)
    generalize heightsP a = xs at *
    generalize heightsP b = ys at *
    have l1 : xs.length = n := by omega
    have l2 : ys.length = n := by omega
    have hn17 : n ≤ 17 := by omega
    rw [hf] at HF
    clear hf d1 d2 hs hl1 hl2 h16 hn
    go_enter Try.func11, Try.ntmps11
    go_wp2_with fail
    (with_reducible refine HF.out.mono ?_)
    rintro e w' ⟨rfl, rfl⟩
    go_wp2_with fail
    (with_reducible refine (HA.out _).mono ?_)
    rintro e w1 ⟨v1, rfl, o1, b1⟩
    obtain ⟨A1, c1, rfl, k1⟩ := id o1
    go_wp2_with fail
    (with_reducible refine (HB.out _).mono ?_)
    rintro e w2 ⟨v2, rfl, o2, b2⟩
    obtain ⟨A2, c2, rfl, k2⟩ := id o2
    have HO1 := Lib.hid (o1.keep b2 (Nat.le_refl _))
    have HO2 := Lib.hid o2
    have HB2 := Lib.hid (b1.trans (b2.mono b1.size))
    clear k1 k2 o1 o2 b1 b2
    have L1 := Lib.hid (show xs.length = n ∧ ys.length = n from ⟨l1, l2⟩)
    rw [l1] at HO1
    rw [l2] at HO2
    simp only [l2]
    clear l1 l2
    go_wp2
    go_loopw [7, 8] (fun x y wr => ∃ (i q : Nat), i ≤ n ∧ y = .int .i64 i ∧ x = .int .i64 (dsL xs ys i) ∧ wr = w2.drewN q) (fun _ y _ => n - (intOf y).toNat)
    case atStart => exact ⟨0, 0, Nat.zero_le _, rfl, rfl, rfl⟩
    case round =>
      obtain ⟨i, q, hi, rfl, rfl, rfl⟩ := hrel
      obtain ⟨d0, d1⟩ := HDB.out i hi
      by_cases hlt : i < n
      · obtain ⟨g1, p1, e1, -, -, hc1, -⟩ := HO1.out.cell (j := i) (by have := L1.out; omega)
        simp only [Value.slice.injEq] at e1
        obtain ⟨rfl, -, rfl⟩ := e1
        obtain ⟨g2, p2, e2, -, -, hc2, -⟩ := HO2.out.cell (j := i) (by have := L1.out; omega)
        simp only [Value.slice.injEq] at e2
        obtain ⟨rfl, -, rfl⟩ := e2
        have hii : (i : Int) < (n : Int) := by omega
        have HD := Lib.hid (show dsL xs ys (i + 1) = dsL xs ys i + max (xs.getD i 0 - ys.getD i 0) (ys.getD i 0 - xs.getD i 0) from rfl)
        obtain ⟨x0, x1⟩ := HX.out i hlt
        obtain ⟨y0, y1⟩ := HY.out i hlt
        generalize dsL xs ys i = d at *
        generalize xs.getD i 0 = x at *
        generalize ys.getD i 0 = y at *
        have w1 : IntKind.i64.wrap (x - y) = x - y := IntWalk.i64_in _ (by omega)
        have w2' : IntKind.i64.wrap (y - x) = y - x := IntWalk.i64_in _ (by omega)
        have w3 : IntKind.i64.wrap (d + max (x - y) (y - x)) = d + max (x - y) (y - x) := IntWalk.i64_in _ (by omega)
        go_wp2
        go_quiet (fail)
        go_wp2
        refine ⟨⟨i + 1, q + nq, by omega, by simp, by rw [HD.out], by simp⟩, by simp [intOf]; omega⟩
      · obtain rfl : i = n := by omega
        go_wp2
        go_ret
        exact ⟨ret_int HP.out.symm, below_drewN HB2.out _⟩

set_option maxRecDepth 100000 in
set_option maxHeartbeats 1600000 in
theorem rankOfPath (a : ByteArray) (w : World) (ha : a.size ≤ 1099511627776) : Calls Try.prog 24 #[.string a] w fun e w' => e = .returned (.int .i64 (rnkP a)) ∧ Below w.heap.size w w' := by
  have HA := Lib.hid (fun W => heightsOf a W ha)
  rcases hd : dyck a with _ | _
  · have HP := Lib.hid (rnk_no hd)
    rw [heightsP_no hd] at HA
    clear hd
    go_enter Try.func24, Try.ntmps24
    go_wp2_with fail
    (with_reducible refine (HA.out _).mono ?_)
    rintro e w1 ⟨v1, rfl, o1, b1⟩
    obtain ⟨A1, c1, rfl, k1⟩ := id o1
    simp only [List.length_nil] at *
    have HB := Lib.hid b1
    clear k1 o1 b1
    go_wp2
    go_loop [4, 5] (fun x y => x = .int .i64 0 ∧ y = .int .i64 0) (fun _ _ => 0)
    case atStart => exact ⟨rfl, rfl⟩
    case round =>
      obtain ⟨rfl, rfl⟩ := hrel
      go_wp2
      go_ret
      exact ⟨ret_int HP.out.symm, HB.out⟩
  · have HP := Lib.hid (rnk_yes hd)
    have hl1 := hs_len hd
    have h16 := dyck_size hd
    have HX := Lib.hid (fun j (h : j < a.size + 1) => hs_fit hd j h)
    obtain ⟨n, hn⟩ : ∃ n, n = a.size + 1 := ⟨_, rfl⟩
    rw [← hn] at HP HX
    have HDB := Lib.hid (fun j (h : j ≤ n) => show 0 ≤ tmL (heightsP a) j ∧ tmL (heightsP a) j ≤ 8 * j from ⟨tmL_nn hd j (by omega), (tmL_bd HX.out j h).2⟩)
    generalize heightsP a = xs at *
    have l1 : xs.length = n := by omega
    have hn17 : n ≤ 17 := by omega
    have hn0 : 0 < n := by omega
    clear hd hl1 h16 hn
    go_enter Try.func24, Try.ntmps24
    go_wp2_with fail
    (with_reducible refine (HA.out _).mono ?_)
    rintro e w1 ⟨v1, rfl, o1, b1⟩
    obtain ⟨A1, c1, rfl, k1⟩ := id o1
    have HO1 := Lib.hid o1
    have HB := Lib.hid b1
    clear k1 o1 b1
    have L1 := Lib.hid (show xs.length = n ∧ xs.length = n from ⟨l1, l1⟩)
    rw [l1] at HO1
    simp only [l1]
    clear l1
    go_wp2
    go_loop [4, 5] (fun x y => ∃ i : Nat, i ≤ n ∧ y = .int .i64 i ∧ x = .int .i64 (tmL xs i)) (fun _ y => n - (intOf y).toNat)
    case atStart => exact ⟨0, Nat.zero_le _, rfl, rfl⟩
    case round =>
      obtain ⟨i, hi, rfl, rfl⟩ := hrel
      obtain ⟨d0, d1⟩ := HDB.out i hi
      by_cases hlt : i < n
      · obtain ⟨g1, p1, e1, -, -, hc1, -⟩ := HO1.out.cell (j := i) (by have := L1.out; omega)
        simp only [Value.slice.injEq] at e1
        obtain ⟨rfl, -, rfl⟩ := e1
        have hii : (i : Int) < (n : Int) := by omega
        have HD := Lib.hid (show tmL xs (i + 1) = tmL xs i + xs.getD i 0 - ((i % 2 : Nat) : Int) from rfl)
        obtain ⟨x0, x1⟩ := HX.out i hlt
        generalize tmL xs i = d at *
        generalize xs.getD i 0 = x at *
        have hr : (i : Int).tmod 2 = ((i % 2 : Nat) : Int) := by rw [Int.tmod_eq_emod_of_nonneg (by omega)]; omega
        have hr2 : (i : Int) % 2 = ((i % 2 : Nat) : Int) := by omega
        obtain ⟨r, hrr⟩ : ∃ r : Nat, r = i % 2 := ⟨_, rfl⟩
        have hr1 : r ≤ 1 := by omega
        rw [← hrr] at hr hr2 HD
        clear hrr
        have w1 : IntKind.i64.wrap (d + x) = d + x := IntWalk.i64_in _ (by omega)
        have w2 : IntKind.i64.wrap (d + x - (r : Int)) = d + x - (r : Int) := IntWalk.i64_in _ (by omega)
        go_wp2
        refine ⟨⟨i + 1, by omega, by simp, ?_⟩, by simp [intOf]; omega⟩
        first | (rw [HD.out]) | (rw [HD.out]; congr 1; omega)
      · obtain rfl : i = n := by omega
        go_wp2
        go_ret
        exact ⟨ret_int HP.out.symm, HB.out⟩

end Go.Proofs.Ytbdnelijfbnfnaa
end

section
namespace Go.Proofs.Ytbdnelijfbnfnaa
open Go.ChangeShapes Go.WideShapes Go.ChangeAt Go.RowKit
open Go.PlainAid (bt bt_nonneg bt_le get_bt bt_end)
set_option linter.unusedVariables false

/-- An int appended to a row of this call's own, in a region. -/
theorem stepApp1 {w : World} {ops : Array Oper} {o : Oper} {a : Act} {K : Act → World → Prop} {Q : Exit → Act → World → Prop} {E : Prop} (hgd : o.guard = none) (s x : Operand)
    (ho : o.op = .call { callee := .builtin .append, args := #[s, x], argTypes := #[37, 37] })
    (base : Nat) (v : Value) (n : Nat) (xs : List Int) (hs : a.eval s = v) (hown : w.ownsRow base 3 1 v n (xs.map (Value.int .i64)))
    (b c : Nat) (y : Int) (hx : a.eval x = .slice (some ⟨b, 0, none⟩) 1 c) (hcell : w.cell? ⟨b, 0, none⟩ = some (.int .i64 y))
    (hn : n ≤ 1099511627776) (hbase : base ≤ w.heap.size)
    (h : ∀ v' w', w'.ownsRow base 3 1 v' (n + 1) ((xs ++ [y]).map (Value.int .i64)) → w.grownBy w' v.ownBlock → K (a.put o.dst v') w') :
    if Region.wanted o (yielded ops a.tmps) = true then Oper.wp Try.prog o a w K Q else E := by
  have hw : Region.wanted o (yielded ops a.tmps) = true := by simp [Region.wanted, hgd]
  rw [if_pos hw]
  obtain ⟨i0, hi, hz0, hz1, hz2⟩ := info_parts info3
  obtain ⟨v', w', hr, h2, h3, h4⟩ := run_append_own (P := Try.prog) w base 37 o.type 3 i0 (.int .i64 0) 1 8 Try.underlying37 hi hz0 hz1 hz2 rfl (by decide) v n _ hown ⟨b, 0, none⟩ 1 c [.int .i64 y] rfl (fun j u hj => by
    match j, hj with
    | 0, hj => simp at hj; subst hj; simpa [Addr.add] using hcell) (fun u hu => by simp at hu; subst hu; rfl) (by unfold maxLen; omega) (by omega) hbase
  unfold Oper.wp execOp
  simp only [ho, resolve, invoke, builtin, Sem.run_bind, Sem.run_pure, Result.andThen_ok, List.map_toArray, List.map_cons, List.map_nil, hs, hx, hr]
  exact h v' w' (by simpa using h2) h3
theorem cell_one_at {w : World} {x : Value} {t : TypeId} {b : Nat} (hb : b = w.heap.size) : (w.alloc (.cells #[x] t)).cell? ⟨b, 0, none⟩ = some x := by subst hb; exact cell_one _ _ _
theorem row_drew {w : World} {base n k : Nat} {e : TypeId} {size : Nat} {v : Value} {xs : List Value} (h : w.ownsRow base e size v n xs) : (w.drewN k).ownsRow base e size v n xs := h

set_option maxRecDepth 100000 in
set_option maxHeartbeats 3200000 in
theorem l18HeightsLowerPath (a b : ByteArray) (w : World) (ha : a.size ≤ 1099511627776) (hb : b.size ≤ 1099511627776) :
    Calls Try.prog 29 #[.string a, .string b, .bool true] w fun e w' => e = .returned (.tuple #[.string (thrP min a b), .bool (thrOk min a b)]) ∧ Below w.heap.size w w' := by
  have HF := Lib.hid (l18Fit a b w ha hb)
  rcases hf : fitB a b with _ | _
  · have HP := Lib.hid (thr_no (f := min) hf)
    rw [hf] at HF
    clear hf
    go_enter Try.func29, Try.ntmps29
    go_wp2_with fail
    (with_reducible refine HF.out.mono ?_)
    rintro e w' ⟨rfl, rfl⟩
    go_wp2
    go_ret2
    exact ⟨ret_sb HP.out.1.symm HP.out.2.symm, Below.refl _ _⟩
  · have HP := Lib.hid (thr_yes (f := min) hf)
    obtain ⟨d1, d2, hs⟩ := fit_yes hf
    have hl1 := hs_len d1
    have hl2 := hs_len d2
    have h16 := dyck_size d1
    have HA := Lib.hid (fun W => heightsOf a W ha)
    have HB := Lib.hid (fun W => heightsOf b W hb)
    obtain ⟨n, hn⟩ : ∃ n, n = a.size + 1 := ⟨_, rfl⟩
    rw [← hn] at HP
    generalize heightsP a = xs at *
    generalize heightsP b = ys at *
    have l1 : xs.length = n := by omega
    have l2 : ys.length = n := by omega
    have hn17 : n ≤ 17 := by omega
    rw [hf] at HF
    clear hf d1 d2 hs hl1 hl2 h16 hn
    go_enter Try.func29, Try.ntmps29
    go_wp2_with fail
    (with_reducible refine HF.out.mono ?_)
    rintro e w' ⟨rfl, rfl⟩
    go_wp2_with fail
    (with_reducible refine (HA.out _).mono ?_)
    rintro e w1 ⟨v1, rfl, o1, b1⟩
    obtain ⟨A1, c1, rfl, k1⟩ := id o1
    go_wp2_with fail
    (with_reducible refine (HB.out _).mono ?_)
    rintro e w2 ⟨v2, rfl, o2, b2⟩
    obtain ⟨A2, c2, rfl, k2⟩ := id o2
    have HO1 := Lib.hid ((o1.keep b2 (Nat.le_refl _)).wide (Nat.le_refl _) b2.size)
    have HO2 := Lib.hid o2
    have HB2 := Lib.hid (b1.trans (b2.mono b1.size))
    have z2 := HB2.out.size
    clear k1 k2 o1 o2 b1 b2
    have L1 := Lib.hid (show xs.length = n ∧ ys.length = n from ⟨l1, l2⟩)
    rw [l1] at HO1
    rw [l2] at HO2
    simp only [l2]
    clear l1 l2
    go_wp2
    go_loopw [10, 11] (fun v y wr => ∃ i : Nat, i ≤ n ∧ y = .int .i64 i ∧ wr.ownsRow w2.heap.size 3 1 v i ((hh min xs ys i).map (Value.int .i64)) ∧ Below w2.heap.size w2 wr) (fun _ y _ => n - (intOf y).toNat)
    case atStart => exact ⟨0, Nat.zero_le _, rfl, World.ownsRow_made w2 #[] 0 (Nat.le_refl _) (Nat.zero_le _) (by simp), (Below.refl _ _).alloc (Nat.le_refl _) _⟩
    case round =>
      obtain ⟨i, hi, rfl, hrow, hb⟩ := hrel
      have HROW := Lib.hid hrow
      have HBW := Lib.hid hb
      have hB := hb.size
      clear hrow hb
      by_cases hlt : i < n
      · obtain ⟨g1, p1, e1, -, -, hc1, -⟩ := (HO1.out.keep HBW.out (Nat.le_refl _)).cell (j := i) (by have := L1.out; omega)
        simp only [Value.slice.injEq] at e1
        obtain ⟨rfl, -, rfl⟩ := e1
        obtain ⟨g2, p2, e2, -, -, hc2, -⟩ := (HO2.out.keep HBW.out (Nat.le_refl _)).cell (j := i) (by have := L1.out; omega)
        simp only [Value.slice.injEq] at e2
        obtain ⟨rfl, -, rfl⟩ := e2
        have hii : (i : Int) < (n : Int) := by omega
        have HNX := Lib.hid (hh_next min xs ys i)
        generalize xs.getD i 0 = x at *
        generalize ys.getD i 0 = y at *
        go_wp2
        go_region_law (refine stepApp1 rfl _ _ (by rfl) w2.heap.size _ i (hh min xs ys i) (by rfl) (World.ownsRow.alloc (row_drew HROW.out) _) _ 1 (min x y) (by rfl) (cell_one_at (by simp)) (by omega) (by simp; omega) ?_; intro v' w' hown' hg'; have HOW := Lib.hid hown'; have HBG := Lib.hid (((below_drewN HBW.out _).alloc hB _).grown hg' (by simp; omega) (fun k hk => (World.ownsRow.lt HROW.out k hk).1)); clear hown' hg')
        all_goals go_wp2
        all_goals exact ⟨⟨i + 1, by omega, by simp, by rw [HNX.out]; exact HOW.out, HBG.out⟩, by simp [intOf]; omega⟩
      · obtain rfl : i = n := by omega
        have HOI := Lib.hid (OwnI.of_row HROW.out)
        have HQ := Lib.hid (fun v (h : OwnI wr w2.heap.size wr.heap.size v (hh min xs ys i)) => pathOfHeights v (hh min xs ys i) wr (ArgI.of_own h (Nat.le_refl _)) (by rw [hh_len]; omega))
        go_wp2_with fail
        (with_reducible refine (HQ.out _ HOI.out).mono ?_)
        rintro e w3 ⟨rfl, hb3⟩
        go_wp2
        go_ret2
        exact ⟨ret_sb HP.out.1.symm HP.out.2.symm, HB2.out.trans ((HBW.out.trans (hb3.mono hB)).mono z2)⟩
set_option maxRecDepth 100000 in
theorem specLowerPath (a b : ByteArray) (w : World) (ha : a.size ≤ 1099511627776) (hb : b.size ≤ 1099511627776) :
    Calls Try.prog 7 #[.string a, .string b] w fun e w' => e = .returned (.tuple #[.string (thrP min a b), .bool (thrOk min a b)]) ∧ Below w.heap.size w w' := by
  have HT := Lib.hid (l18HeightsLowerPath a b w ha hb)
  go_enter Try.func7, Try.ntmps7
  go_wp2_with fail
  (with_reducible refine HT.out.mono ?_)
  rintro e w1 ⟨rfl, hb1⟩
  go_wp2
  go_ret2
  exact ⟨rfl, hb1⟩

set_option maxRecDepth 100000 in
set_option maxHeartbeats 3200000 in
theorem l18HeightsUpperPath (a b : ByteArray) (w : World) (ha : a.size ≤ 1099511627776) (hb : b.size ≤ 1099511627776) :
    Calls Try.prog 29 #[.string a, .string b, .bool false] w fun e w' => e = .returned (.tuple #[.string (thrP max a b), .bool (thrOk max a b)]) ∧ Below w.heap.size w w' := by
  have HF := Lib.hid (l18Fit a b w ha hb)
  rcases hf : fitB a b with _ | _
  · have HP := Lib.hid (thr_no (f := max) hf)
    rw [hf] at HF
    clear hf
    go_enter Try.func29, Try.ntmps29
    go_wp2_with fail
    (with_reducible refine HF.out.mono ?_)
    rintro e w' ⟨rfl, rfl⟩
    go_wp2
    go_ret2
    exact ⟨ret_sb HP.out.1.symm HP.out.2.symm, Below.refl _ _⟩
  · have HP := Lib.hid (thr_yes (f := max) hf)
    obtain ⟨d1, d2, hs⟩ := fit_yes hf
    have hl1 := hs_len d1
    have hl2 := hs_len d2
    have h16 := dyck_size d1
    have HA := Lib.hid (fun W => heightsOf a W ha)
    have HB := Lib.hid (fun W => heightsOf b W hb)
    obtain ⟨n, hn⟩ : ∃ n, n = a.size + 1 := ⟨_, rfl⟩
    rw [← hn] at HP
    generalize heightsP a = xs at *
    generalize heightsP b = ys at *
    have l1 : xs.length = n := by omega
    have l2 : ys.length = n := by omega
    have hn17 : n ≤ 17 := by omega
    rw [hf] at HF
    clear hf d1 d2 hs hl1 hl2 h16 hn
    go_enter Try.func29, Try.ntmps29
    go_wp2_with fail
    (with_reducible refine HF.out.mono ?_)
    rintro e w' ⟨rfl, rfl⟩
    go_wp2_with fail
    (with_reducible refine (HA.out _).mono ?_)
    rintro e w1 ⟨v1, rfl, o1, b1⟩
    obtain ⟨A1, c1, rfl, k1⟩ := id o1
    go_wp2_with fail
    (with_reducible refine (HB.out _).mono ?_)
    rintro e w2 ⟨v2, rfl, o2, b2⟩
    obtain ⟨A2, c2, rfl, k2⟩ := id o2
    have HO1 := Lib.hid ((o1.keep b2 (Nat.le_refl _)).wide (Nat.le_refl _) b2.size)
    have HO2 := Lib.hid o2
    have HB2 := Lib.hid (b1.trans (b2.mono b1.size))
    have z2 := HB2.out.size
    clear k1 k2 o1 o2 b1 b2
    have L1 := Lib.hid (show xs.length = n ∧ ys.length = n from ⟨l1, l2⟩)
    rw [l1] at HO1
    rw [l2] at HO2
    simp only [l2]
    clear l1 l2
    go_wp2
    go_loopw [10, 11] (fun v y wr => ∃ i : Nat, i ≤ n ∧ y = .int .i64 i ∧ wr.ownsRow w2.heap.size 3 1 v i ((hh max xs ys i).map (Value.int .i64)) ∧ Below w2.heap.size w2 wr) (fun _ y _ => n - (intOf y).toNat)
    case atStart => exact ⟨0, Nat.zero_le _, rfl, World.ownsRow_made w2 #[] 0 (Nat.le_refl _) (Nat.zero_le _) (by simp), (Below.refl _ _).alloc (Nat.le_refl _) _⟩
    case round =>
      obtain ⟨i, hi, rfl, hrow, hb⟩ := hrel
      have HROW := Lib.hid hrow
      have HBW := Lib.hid hb
      have hB := hb.size
      clear hrow hb
      by_cases hlt : i < n
      · obtain ⟨g1, p1, e1, -, -, hc1, -⟩ := (HO1.out.keep HBW.out (Nat.le_refl _)).cell (j := i) (by have := L1.out; omega)
        simp only [Value.slice.injEq] at e1
        obtain ⟨rfl, -, rfl⟩ := e1
        obtain ⟨g2, p2, e2, -, -, hc2, -⟩ := (HO2.out.keep HBW.out (Nat.le_refl _)).cell (j := i) (by have := L1.out; omega)
        simp only [Value.slice.injEq] at e2
        obtain ⟨rfl, -, rfl⟩ := e2
        have hii : (i : Int) < (n : Int) := by omega
        have HNX := Lib.hid (hh_next max xs ys i)
        generalize xs.getD i 0 = x at *
        generalize ys.getD i 0 = y at *
        go_wp2
        go_region_law (refine stepApp1 rfl _ _ (by rfl) w2.heap.size _ i (hh max xs ys i) (by rfl) (World.ownsRow.alloc (row_drew HROW.out) _) _ 1 (max x y) (by rfl) (cell_one_at (by simp)) (by omega) (by simp; omega) ?_; intro v' w' hown' hg'; have HOW := Lib.hid hown'; have HBG := Lib.hid (((below_drewN HBW.out _).alloc hB _).grown hg' (by simp; omega) (fun k hk => (World.ownsRow.lt HROW.out k hk).1)); clear hown' hg')
        all_goals go_wp2
        all_goals exact ⟨⟨i + 1, by omega, by simp, by rw [HNX.out]; exact HOW.out, HBG.out⟩, by simp [intOf]; omega⟩
      · obtain rfl : i = n := by omega
        have HOI := Lib.hid (OwnI.of_row HROW.out)
        have HQ := Lib.hid (fun v (h : OwnI wr w2.heap.size wr.heap.size v (hh max xs ys i)) => pathOfHeights v (hh max xs ys i) wr (ArgI.of_own h (Nat.le_refl _)) (by rw [hh_len]; omega))
        go_wp2_with fail
        (with_reducible refine (HQ.out _ HOI.out).mono ?_)
        rintro e w3 ⟨rfl, hb3⟩
        go_wp2
        go_ret2
        exact ⟨ret_sb HP.out.1.symm HP.out.2.symm, HB2.out.trans ((HBW.out.trans (hb3.mono hB)).mono z2)⟩
set_option maxRecDepth 100000 in
theorem specUpperPath (a b : ByteArray) (w : World) (ha : a.size ≤ 1099511627776) (hb : b.size ≤ 1099511627776) :
    Calls Try.prog 9 #[.string a, .string b] w fun e w' => e = .returned (.tuple #[.string (thrP max a b), .bool (thrOk max a b)]) ∧ Below w.heap.size w w' := by
  have HT := Lib.hid (l18HeightsUpperPath a b w ha hb)
  go_enter Try.func9, Try.ntmps9
  go_wp2_with fail
  (with_reducible refine HT.out.mono ?_)
  rintro e w1 ⟨rfl, hb1⟩
  go_wp2
  go_ret2
  exact ⟨rfl, hb1⟩

end Go.Proofs.Ytbdnelijfbnfnaa
end

section
namespace Go.Proofs.Ytbdnelijfbnfnaa
open Go.ChangeShapes Go.WideShapes Go.ChangeAt Go.RowKit
open Go.PlainAid (bt bt_nonneg bt_le get_bt bt_end)
set_option linter.unusedVariables false

theorem str_ext {a b : ByteArray} (h : a.size = b.size) (hb : ∀ k, k < a.size → bt a k = bt b k) : a = b := by
  apply ByteArray.ext
  apply Array.ext h
  intro i h1 h2
  have := hb i h1
  rw [← get_bt a i h1, ← get_bt b i h2] at this
  apply UInt8.toNat_inj.1
  have e1 : a.data[i] = a[i]'h1 := rfl
  have e2 : b.data[i] = b[i]'h2 := rfl
  rw [e1, e2]; omega
theorem bt_at_or (s : ByteArray) (k : Nat) : bt s k = (s.data.toList.map fun c => (c.toNat : Int)).getD k 0 := by
  by_cases h : k < s.size
  · rw [← get_bt s k h, List.getD_eq_getElem?_getD, List.getElem?_eq_getElem (by simpa using h)]
    simp; rfl
  · rw [bt_end s (by omega), List.getD_eq_getElem?_getD, List.getElem?_eq_none (by simpa using h)]
    rfl
theorem bt_app (a b : ByteArray) (q : Nat) : bt (a ++ b) q = if q < a.size then bt a q else bt b (q - a.size) := by
  rw [bt_at_or, ByteArray.data_append, Array.toList_append, List.map_append]
  have hl : (a.data.toList.map fun c => (c.toNat : Int)).length = a.size := by simp
  split
  · rename_i h
    rw [bt_at_or, List.getD_eq_getElem?_getD, List.getElem?_append_left (by omega), List.getD_eq_getElem?_getD]
  · rename_i h
    rw [bt_at_or, List.getD_eq_getElem?_getD, List.getElem?_append_right (by omega), List.getD_eq_getElem?_getD, hl]
theorem bt_ext (s : ByteArray) (a b q : Nat) (hb : b ≤ s.size) (h : a + q < b) : bt (s.extract a b) q = bt s (a + q) := by
  rw [bt_at_or, bt_at_or, ByteArray.data_extract, Array.toList_extract, List.extract_eq_take_drop, List.getD_eq_getElem?_getD, List.getD_eq_getElem?_getD, List.getElem?_map, List.getElem?_map, List.getElem?_take, if_pos (by omega), List.getElem?_drop]
theorem bt_nums (f : Nat → Int) (n q : Nat) (h : q < n) (h0 : 0 ≤ f q) (h1 : f q ≤ 255) : bt (strOfNums ((List.range n).map f)) q = f q := by
  rw [bt_at_or]
  unfold strOfNums
  simp only [List.map_map, List.getD_eq_getElem?_getD, List.getElem?_map, List.getElem?_range h, Option.map_some, Option.getD_some, Function.comp]
  rw [UInt8.toNat_ofNat']
  omega
theorem nums_size (f : Nat → Int) (n : Nat) : (strOfNums ((List.range n).map f)).size = n := by
  unfold strOfNums; rw [str_len]; simp

end Go.Proofs.Ytbdnelijfbnfnaa
end
