/- From levels to trees: the contracts of the model's l6Build and BinaryOfLevels. -/
import Derived.Test.YtjplehkahbkcoaaSpec6E
namespace Go.Proofs.Ytjplehkahbkcoaa
open Go.ChangeShapes Go.WideShapes Go.ChangeAt Go.RowKit
open Go.PlainAid (bt bt_nonneg bt_le get_bt bt_end)
set_option linter.unusedVariables false

/-- A part of a row of ints, from one of its places on. -/
theorem run_from (w : World) (a : Option Addr) (len cap n : Nat) (hn : n ≤ len) : (Instr.slice 27 (.slice a len cap) (some (.int .i64 (n : Int))) none none).run Try.prog w = .ok (.slice (if cap = n then a else a.map (·.add n)) (len - n) (cap - n)) w := by
  obtain ⟨i0, hi, -, -, -⟩ := info_parts info3
  have he : Try.prog.elem 27 = 3 := by kernel_rfl
  have hc : Try.prog.cellsOf 3 = 1 := by kernel_rfl
  have hu : Try.prog.underlying 27 = some (.slice (Try.prog.elem 27)) := by rw [he]; exact Try.underlying27
  rw [run_slice_l w _ a len cap hu .i64 (n : Int) (by omega) (by omega), he, run_sizeOf w hi, hc]
  simp [sliced, Result.andThen]
/-- The ints xs at a place of a row. -/
def SubI (w : World) (A : Option Addr) (cap : Nat) (xs : List Int) : Prop := xs.length ≤ cap ∧ ∀ j, j < xs.length → ∃ g o, A = some ⟨g, o, none⟩ ∧ w.cell? ⟨g, o + j, none⟩ = some (.int .i64 (xs.getD j 0))
theorem SubI.from {w : World} {A : Option Addr} {cap : Nat} {xs : List Int} (h : SubI w A cap xs) (n : Nat) (hn : n ≤ xs.length) : SubI w (if cap = n then A else A.map (·.add n)) (cap - n) (xs.drop n) := by
  refine ⟨by rw [List.length_drop]; have := h.1; omega, fun j hj => ?_⟩
  rw [List.length_drop] at hj
  have h1 := h.1
  obtain ⟨g, o, rfl, hc⟩ := h.2 (n + j) (by omega)
  rw [if_neg (by omega)]
  refine ⟨g, o + n, ?_, ?_⟩
  · show some (Addr.add _ n) = _
    unfold Addr.add
    split
    · rename_i h; subst h; rfl
    · rfl
  · rw [Nat.add_assoc, hc]; simp [List.getD]
theorem SubI.own {w : World} {lo hi : Nat} {A : Option Addr} {cap : Nat} {xs : List Int} (h : OwnI w lo hi (.slice A xs.length cap) xs) (hc : xs.length ≤ cap) : SubI w A cap xs := by
  refine ⟨hc, fun j hj => ?_⟩
  obtain ⟨g, c, e', h1, h2, h3, -⟩ := h.cell hj
  simp only [Value.slice.injEq] at e'
  exact ⟨g, 0, e'.1, by rw [Nat.zero_add]; exact h3⟩

/-- The tree at level v that begins a row of levels, and how many of them it takes; 0 if there is none. -/
def bld : Nat → List Int → Int → ByteArray × Nat
  | 0, _, _ => (⟨#[]⟩, 0)
  | f + 1, xs, v =>
    if xs.length = 0 ∨ xs.getD 0 0 < v then (⟨#[]⟩, 0) else if xs.getD 0 0 = v then (⟨#[46]⟩, 1)
    else if (bld f xs (v + 1)).2 = 0 then (⟨#[]⟩, 0)
    else if (bld f (xs.drop (bld f xs (v + 1)).2) (v + 1)).2 = 0 then (⟨#[]⟩, 0)
    else (((⟨#[40]⟩ ++ (bld f xs (v + 1)).1) ++ (bld f (xs.drop (bld f xs (v + 1)).2) (v + 1)).1) ++ ⟨#[41]⟩, (bld f xs (v + 1)).2 + (bld f (xs.drop (bld f xs (v + 1)).2) (v + 1)).2)
theorem bld_no (f : Nat) (xs : List Int) (v : Int) (h : xs.length = 0 ∨ xs.getD 0 0 < v) : bld f xs v = (⟨#[]⟩, 0) := by
  cases f with
  | zero => rfl
  | succ f => rw [bld, if_pos h]
theorem bld_bd : ∀ (f : Nat) (xs : List Int) (v : Int), (bld f xs v).2 ≤ xs.length ∧ (bld f xs v).1.size ≤ 3 * (bld f xs v).2 ∧ ((bld f xs v).2 ≠ 0 → (bld f xs v).1.size + 2 ≤ 3 * (bld f xs v).2) := by
  intro f
  induction f with
  | zero => intro xs v; exact ⟨Nat.zero_le _, Nat.le_refl _, fun h => absurd rfl h⟩
  | succ f ih =>
    intro xs v
    rw [bld]
    split
    · exact ⟨Nat.zero_le _, Nat.le_refl _, fun h => absurd rfl h⟩
    · rename_i h0
      split
      · exact ⟨by show 1 ≤ _; omega, by show 1 ≤ 3; omega, fun _ => by show 1 + 2 ≤ 3; omega⟩
      · split
        · exact ⟨Nat.zero_le _, Nat.le_refl _, fun h => absurd rfl h⟩
        · rename_i h1
          split
          · exact ⟨Nat.zero_le _, Nat.le_refl _, fun h => absurd rfl h⟩
          · rename_i h2
            obtain ⟨a1, a2, a3⟩ := ih xs (v + 1)
            obtain ⟨b1, b2, b3⟩ := ih (xs.drop (bld f xs (v + 1)).2) (v + 1)
            have a4 := a3 h1
            have b4 := b3 h2
            rw [List.length_drop] at b1
            refine ⟨by dsimp only; omega, ?_, fun _ => ?_⟩
            · dsimp only; simp only [ByteArray.size_append, one_size]; omega
            · dsimp only; simp only [ByteArray.size_append, one_size]; omega
theorem ret_si {a b : ByteArray} {x y : Int} (h : a = b) (h' : x = y) : Ending.returned (.tuple #[.string a, .int .i64 x]) = .returned (.tuple #[.string b, .int .i64 y]) := by rw [h, h']

set_option maxRecDepth 100000 in
set_option maxHeartbeats 3200000 in
theorem l6BuildF : ∀ (f : Nat) (xs : List Int) (v : Nat), (∀ j, j < xs.length → xs.getD j 0 ≤ 8) → 9 ≤ v + f → v ≤ 9 → xs.length ≤ 9 → ∀ (w : World) (A : Option Addr) (cap : Nat), SubI w A cap xs →
    Calls Try.prog 56 #[.slice A xs.length cap, .int .i64 v] w fun e w' => e = .returned (.tuple #[.string (bld f xs v).1, .int .i64 (bld f xs v).2]) ∧ w = w' := by
  intro f
  induction f with
  | zero =>
    intro xs v h8 hf hv hl w A cap hS
    have HB := Lib.hid (bld_no 0 xs v (by
      by_cases h : xs.length = 0
      · exact .inl h
      · have := h8 0 (by omega); exact .inr (by omega)))
    by_cases h0 : xs.length = 0
    · have hb : ((xs.length : Int) == 0) = true := by simp [h0]
      clear h8 hS h0
      go_enter Try.func56, Try.ntmps56
      go_wp2
      go_ret2
      exact ⟨ret_si (by rw [HB.out]) (by rw [HB.out]; rfl), rfl⟩
    · have hb : ((xs.length : Int) == 0) = false := beq_eq_false_iff_ne.2 (by omega)
      have hp : (0 : Int) < (xs.length : Int) := by omega
      have h80 := h8 0 (by omega)
      obtain ⟨g, o, rfl, hc⟩ := hS.2 0 (by omega)
      rw [Nat.add_zero] at hc
      generalize xs.getD 0 0 = y at hc h80
      have hyv : y < (v : Int) := by omega
      clear h8 hS h0
      go_enter Try.func56, Try.ntmps56
      go_wp2
      go_ret2
      exact ⟨ret_si (by rw [HB.out]) (by rw [HB.out]; rfl), rfl⟩
  | succ f ih =>
    intro xs v h8 hf hv hl w A cap hS
    by_cases h0 : xs.length = 0
    · have HB := Lib.hid (bld_no (f + 1) xs v (.inl h0))
      have hb : ((xs.length : Int) == 0) = true := by simp [h0]
      clear h8 hS h0 ih
      go_enter Try.func56, Try.ntmps56
      go_wp2
      go_ret2
      exact ⟨ret_si (by rw [HB.out]) (by rw [HB.out]; rfl), rfl⟩
    · have hb : ((xs.length : Int) == 0) = false := beq_eq_false_iff_ne.2 (by omega)
      have hp : (0 : Int) < (xs.length : Int) := by omega
      obtain ⟨g, o, hA, hc⟩ := hS.2 0 (by omega)
      rw [Nat.add_zero] at hc
      by_cases h1 : xs.getD 0 0 < (v : Int)
      · have HB := Lib.hid (bld_no (f + 1) xs v (.inr h1))
        subst hA
        generalize xs.getD 0 0 = y at hc h1
        clear h8 hS h0 ih
        go_enter Try.func56, Try.ntmps56
        go_wp2
        go_ret2
        exact ⟨ret_si (by rw [HB.out]) (by rw [HB.out]; rfl), rfl⟩
      · by_cases h2 : xs.getD 0 0 = (v : Int)
        · have HB := Lib.hid (show bld (f + 1) xs v = (⟨#[46]⟩, 1) by rw [bld, if_neg (by rintro (h | h); exact h0 h; exact h1 h), if_pos h2])
          subst hA
          rw [h2] at hc
          clear h8 hS h0 ih h1 h2
          go_enter Try.func56, Try.ntmps56
          go_wp2
          go_ret2
          exact ⟨ret_si (by rw [HB.out]) (by rw [HB.out]; rfl), rfl⟩
        · have h80 := h8 0 (by omega)
          have hv1 : ((v : Int) + 1) = ((v + 1 : Nat) : Int) := by omega
          have hvw : IntKind.i64.wrap ((v : Int) + 1) = (v : Int) + 1 := IntWalk.i64_in _ (by omega)
          have hi1 := ih xs (v + 1) h8 (by omega) (by omega) hl w A cap hS
          rw [← hv1] at hi1
          have HI1 := Lib.hid hi1
          have HU := Lib.hid (show bld (f + 1) xs v = _ by rw [bld, if_neg (by rintro (h | h); exact h0 h; exact h1 h), if_neg h2])
          obtain ⟨a1, a2, a3⟩ := bld_bd f xs ((v : Int) + 1)
          have hn2 := ih (xs.drop (bld f xs ((v : Int) + 1)).2) (v + 1) (fun j hj => by
            rw [List.length_drop] at hj
            have := h8 ((bld f xs ((v : Int) + 1)).2 + j) (by omega)
            simpa [List.getD] using this) (by omega) (by omega) (by rw [List.length_drop]; omega) w _ _ (hS.from _ a1)
          rw [← hv1] at hn2
          obtain ⟨b1, b2, b3⟩ := bld_bd f (xs.drop (bld f xs ((v : Int) + 1)).2) ((v : Int) + 1)
          have hbq : (xs.getD 0 0 == (v : Int)) = false := beq_eq_false_iff_ne.2 h2
          rw [List.length_drop] at b1 hn2
          have HRF := Lib.hid fun w => run_from w A xs.length cap (bld f xs ((v : Int) + 1)).2 a1
          have HN2 := Lib.hid hn2
          have HA := Lib.hid hA
          clear h8 hS ih hi1 hn2 hv1
          generalize bld f xs ((v : Int) + 1) = r1 at *
          obtain ⟨t1, n1⟩ := r1
          dsimp only at *
          by_cases z1 : n1 = 0
          · have HU2 := Lib.hid (HU.out.trans (if_pos z1))
            have hq1 : ((n1 : Int) == 0) = true := by simp [z1]
            subst hA
            generalize xs.getD 0 0 = y at hc h1 h2 hbq
            clear HN2 HRF z1 h2 h0
            go_enter Try.func56, Try.ntmps56
            go_wp2_with fail
            (with_reducible refine HI1.out.mono ?_)
            rintro e w' ⟨rfl, rfl⟩
            go_wp2
            go_ret2
            exact ⟨ret_si (by rw [HU2.out]) (by rw [HU2.out]; rfl), rfl⟩
          · have hq1 : ((n1 : Int) == 0) = false := beq_eq_false_iff_ne.2 (by omega)
            generalize bld f (xs.drop n1) ((v : Int) + 1) = r2 at *
            obtain ⟨t2, n2⟩ := r2
            dsimp only at *
            have hsl : ∀ w, (Instr.slice 27 (.slice (some ⟨g, o, none⟩) xs.length cap) (some (.int .i64 (n1 : Int))) none none).run Try.prog w = .ok (.slice (if cap = n1 then A else A.map (·.add n1)) (xs.length - n1) (cap - n1)) w := by
              rw [← hA]; exact HRF.out
            generalize (if cap = n1 then A else A.map (·.add n1)) = A2 at *
            subst hA
            generalize xs.getD 0 0 = y at hc h1 h2 hbq
            by_cases z2 : n2 = 0
            · have HU2 := Lib.hid (HU.out.trans ((if_neg z1).trans (if_pos z2)))
              have hq2 : ((n2 : Int) == 0) = true := by simp [z2]
              clear z1 z2 h2 h0
              go_enter Try.func56, Try.ntmps56
              go_wp2_with fail
              (with_reducible refine HI1.out.mono ?_)
              rintro e w' ⟨rfl, rfl⟩
              go_wp2_with fail
              (with_reducible refine HN2.out.mono ?_)
              rintro e w' ⟨rfl, rfl⟩
              go_wp2
              go_ret2
              exact ⟨ret_si (by rw [HU2.out]) (by rw [HU2.out]; rfl), rfl⟩
            · have HU2 := Lib.hid (HU.out.trans ((if_neg z1).trans (if_neg z2)))
              have hq2 : ((n2 : Int) == 0) = false := beq_eq_false_iff_ne.2 (by omega)
              have q1 : ¬ 9223372036854775807 < (⟨#[40]⟩ : ByteArray).size + t1.size := by rw [one_size]; omega
              have q2 : ¬ 9223372036854775807 < (⟨#[40]⟩ ++ t1 : ByteArray).size + t2.size := by rw [ByteArray.size_append, one_size]; omega
              have q3 : ¬ 9223372036854775807 < ((⟨#[40]⟩ ++ t1) ++ t2 : ByteArray).size + (⟨#[41]⟩ : ByteArray).size := by simp only [ByteArray.size_append, one_size]; omega
              have hnw : IntKind.i64.wrap ((n1 : Int) + (n2 : Int)) = (n1 : Int) + (n2 : Int) := IntWalk.i64_in _ (by omega)
              clear z1 z2 h2 h0
              go_enter Try.func56, Try.ntmps56
              go_wp2_with fail
              (with_reducible refine HI1.out.mono ?_)
              rintro e w' ⟨rfl, rfl⟩
              go_wp2_with fail
              (with_reducible refine HN2.out.mono ?_)
              rintro e w' ⟨rfl, rfl⟩
              go_wp2
              go_ret2
              exact ⟨ret_si (by rw [HU2.out]) (by rw [HU2.out]; simp), rfl⟩

theorem l1In_not (x lo hi : Int) (w : World) (h : ¬ (lo ≤ x ∧ x ≤ hi)) :
    Calls Try.prog 55 #[.int .i64 x, .int .i64 lo, .int .i64 hi] w fun e w' => e = .returned (.bool false) ∧ w = w' := by
  by_cases h1 : lo ≤ x
  · exact l1In_no2 x lo hi w h1 (by omega)
  · exact l1In_no1 x lo hi w (by omega)
def bolGood (xs : List Int) : Prop := (∀ j, j < xs.length → 0 ≤ xs.getD j 0 ∧ xs.getD j 0 ≤ 8) ∧ 1 ≤ xs.length ∧ xs.length ≤ 9 ∧ (bld 9 xs 0).2 = xs.length
open Classical in
noncomputable def bolOk (xs : List Int) : Bool := decide (bolGood xs)
noncomputable def bolP (xs : List Int) : ByteArray := if bolOk xs = true then (bld 9 xs 0).1 else ⟨#[]⟩
open Classical in
theorem bol_no {xs : List Int} (h : ¬ bolGood xs) : bolOk xs = false ∧ bolP xs = ⟨#[]⟩ := by
  have : bolOk xs = false := by unfold bolOk; exact decide_eq_false h
  exact ⟨this, by unfold bolP; rw [this]; rfl⟩
open Classical in
theorem bol_yes {xs : List Int} (h : bolGood xs) : bolOk xs = true ∧ bolP xs = (bld 9 xs 0).1 := by
  have : bolOk xs = true := by unfold bolOk; exact decide_eq_true h
  exact ⟨this, by unfold bolP; rw [this]; rfl⟩

set_option maxRecDepth 100000 in
set_option maxHeartbeats 3200000 in
theorem binaryOfLevels (A : Option Addr) (xs : List Int) (cap lo hi : Nat) (w : World) (ho : OwnI w lo hi (.slice A xs.length cap) xs) (hcap : xs.length ≤ cap) (hl : xs.length ≤ 1048576) :
    Calls Try.prog 32 #[.slice A xs.length cap] w fun e w' => e = .returned (.tuple #[.string (bolP xs), .bool (bolOk xs)]) ∧ Below w.heap.size w w' := by
  have HO := Lib.hid ho
  have HS := Lib.hid (SubI.own ho hcap)
  clear ho
  go_enter Try.func32, Try.ntmps32
  go_wp2
  go_loop [4] (fun y => ∃ i : Nat, i ≤ xs.length ∧ y = .int .i64 i ∧ ∀ j, j < i → 0 ≤ xs.getD j 0 ∧ xs.getD j 0 ≤ 8) (fun y => xs.length - (intOf y).toNat)
  case atStart => exact ⟨0, Nat.zero_le _, rfl, fun j hj => absurd hj (Nat.not_lt_zero _)⟩
  case round =>
    obtain ⟨i, hi, rfl, ha⟩ := hrel
    have HA := Lib.hid ha
    clear ha
    by_cases hlt : i < xs.length
    · obtain ⟨g, c, e', -, -, hc, -⟩ := HO.out.cell hlt
      simp only [Value.slice.injEq] at e'
      obtain ⟨rfl, -, -⟩ := e'
      have hii : (i : Int) < (xs.length : Int) := by omega
      generalize hy : xs.getD i 0 = y at hc
      have HY := Lib.hid hy
      clear hy
      by_cases hin : 0 ≤ y ∧ y ≤ 8
      · have HI := Lib.hid (l1In_yes y 0 8 w hin.1 hin.2)
        go_wp2_with fail
        (with_reducible refine HI.out.mono ?_)
        rintro e w' ⟨rfl, rfl⟩
        go_wp2
        refine ⟨⟨i + 1, by omega, by simp, fun j hj => ?_⟩, by simp [intOf]; omega⟩
        by_cases h : j < i
        · exact HA.out j h
        · obtain rfl : j = i := by omega
          rw [HY.out]; exact hin
      · have HI := Lib.hid (l1In_not y 0 8 w hin)
        have HN := Lib.hid (bol_no (xs := xs) fun h => hin (by have := h.1 i hlt; rw [HY.out] at this; exact this))
        clear hin
        go_wp2_with fail
        (with_reducible refine HI.out.mono ?_)
        rintro e w' ⟨rfl, rfl⟩
        go_wp2
        go_ret2
        exact ⟨ret_sb HN.out.2.symm HN.out.1.symm, Below.refl _ _⟩
    · obtain rfl : i = xs.length := by omega
      have hii : ¬ ((xs.length : Int) < (xs.length : Int)) := by omega
      by_cases hin : 1 ≤ xs.length ∧ xs.length ≤ 9
      · have HI := Lib.hid (l1In_yes (xs.length : Int) 1 9 w (by omega) (by omega))
        have HB := Lib.hid (l6BuildF 9 xs 0 (fun j hj => (HA.out j hj).2) (by omega) (by omega) hin.2 w A cap HS.out)
        by_cases hn : (bld 9 xs 0).2 = xs.length
        · have HY := Lib.hid (bol_yes (xs := xs) ⟨HA.out, hin.1, hin.2, hn⟩)
          have HN := Lib.hid (show (((bld 9 xs 0).2 : Int) != (xs.length : Int)) = false by rw [hn]; simp)
          clear hn hin
          go_wp2_with fail
          (with_reducible refine HI.out.mono ?_)
          rintro e w' ⟨rfl, rfl⟩
          go_wp2_with fail
          (refine HB.out.mono ?_)
          rintro e w' ⟨rfl, rfl⟩
          have hnn := HN.out
          rw [show (((0 : Nat) : Int)) = (0 : Int) from rfl]
          generalize bld 9 xs 0 = r at *
          go_wp2
          go_ret2
          exact ⟨ret_sb HY.out.2.symm HY.out.1.symm, Below.refl _ _⟩
        · have HY := Lib.hid (bol_no (xs := xs) fun h => hn h.2.2.2)
          have HN := Lib.hid (show (((bld 9 xs 0).2 : Int) != (xs.length : Int)) = true by simp; omega)
          clear hn hin
          go_wp2_with fail
          (with_reducible refine HI.out.mono ?_)
          rintro e w' ⟨rfl, rfl⟩
          go_wp2_with fail
          (refine HB.out.mono ?_)
          rintro e w' ⟨rfl, rfl⟩
          have hnn := HN.out
          rw [show (((0 : Nat) : Int)) = (0 : Int) from rfl]
          generalize bld 9 xs 0 = r at *
          go_wp2
          go_ret2
          exact ⟨ret_sb HY.out.2.symm HY.out.1.symm, Below.refl _ _⟩
      · have HI := Lib.hid (l1In_not (xs.length : Int) 1 9 w (by omega))
        have HN := Lib.hid (bol_no (xs := xs) fun h => hin ⟨h.2.1, h.2.2.1⟩)
        clear hin
        go_wp2_with fail
        (with_reducible refine HI.out.mono ?_)
        rintro e w' ⟨rfl, rfl⟩
        go_wp2
        go_ret2
        exact ⟨ret_sb HN.out.2.symm HN.out.1.symm, Below.refl _ _⟩

end Go.Proofs.Ytjplehkahbkcoaa
