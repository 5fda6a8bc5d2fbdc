/- The contracts of the model's IsPartition, l8Renumber and RenumberBlocks. -/
import Derived.Test.YtfpknljgmpgneaaSpec2C
import Derived.Test.YtfpknljgmpgneaaInts
import Derived.Maps.AppendAt
import Derived.BigQuiet
namespace Go.Proofs.Ytfpknljgmpgneaa
open Go.ChangeShapes Go.WideShapes Go.ChangeAt Go.RowKit
set_option linter.unusedVariables false

theorem l1In_out (x lo hi : Int) (w : World) (h : ¬ (lo ≤ x ∧ x ≤ hi)) :
    Calls Try.prog 31 #[.int .i64 x, .int .i64 lo, .int .i64 hi] w fun e w' => e = .returned (.bool false) ∧ w = w' := by
  by_cases h1 : lo ≤ x
  · exact l1In_no2 x lo hi w h1 (by omega)
  · exact l1In_no1 x lo hi w (by omega)
/-- The next number of a block, behind the first i elements. -/
def ptN (xs : List Int) : Nat → Nat
  | 0 => 0
  | i + 1 => if xs.getD i 0 = (ptN xs i : Int) then ptN xs i + 1 else ptN xs i
theorem ptN_le (xs : List Int) (i : Nat) : ptN xs i ≤ i := by
  induction i with
  | zero => exact Nat.le_refl _
  | succ i ih => rw [ptN]; split <;> omega
def prtB (xs : List Int) : Bool := decide (xs.length ≤ 8 ∧ ∀ i, i < xs.length → 0 ≤ xs.getD i 0 ∧ xs.getD i 0 ≤ (ptN xs i : Int))
theorem prt_yes {xs : List Int} (h : prtB xs = true) : xs.length ≤ 8 ∧ ∀ i, i < xs.length → 0 ≤ xs.getD i 0 ∧ xs.getD i 0 ≤ (ptN xs i : Int) := of_decide_eq_true h

set_option maxRecDepth 100000 in
set_option maxHeartbeats 1600000 in
theorem isPartition (v : Value) (xs : List Int) (lo hi : Nat) (w : World) (hv : OwnI w lo hi v xs) (hl : xs.length ≤ 1099511627776) :
    Calls Try.prog 48 #[v] w fun e w' => e = .returned (.bool (prtB xs)) ∧ w = w' := by
  obtain ⟨A1, c1, rfl, k1⟩ := id hv
  clear k1
  have HV := Lib.hid hv
  clear hv
  go_enter Try.func48, Try.ntmps48
  go_wp2
  go_loop [3, 4] (fun x y => ∃ i : Nat, i ≤ xs.length ∧ y = .int .i64 i ∧ x = .int .i64 (ptN xs i : Int) ∧ ∀ j, j < i → 0 ≤ xs.getD j 0 ∧ xs.getD j 0 ≤ (ptN xs j : Int)) (fun _ y => xs.length - (intOf y).toNat)
  case atStart => exact ⟨0, Nat.zero_le _, rfl, rfl, fun j hj => absurd hj (Nat.not_lt_zero _)⟩
  case round =>
    obtain ⟨i, hi1, rfl, rfl, ha⟩ := hrel
    have HA := Lib.hid ha
    clear ha
    by_cases hlt : i < xs.length
    · obtain ⟨g, c, e', -, -, hc, -⟩ := HV.out.cell hlt
      simp only [Value.slice.injEq] at e'
      obtain ⟨rfl, -, -⟩ := e'
      have hii : (i : Int) < (xs.length : Int) := by omega
      have hle := ptN_le xs i
      have HY := Lib.hid (show ptN xs (i + 1) = if xs.getD i 0 = (ptN xs i : Int) then ptN xs i + 1 else ptN xs i from rfl)
      have HOK := Lib.hid (show (0 ≤ xs.getD i 0 ∧ xs.getD i 0 ≤ (ptN xs i : Int)) → ∀ j, j < i + 1 → 0 ≤ xs.getD j 0 ∧ xs.getD j 0 ≤ (ptN xs j : Int) from fun h j hj => by
        by_cases e : j < i
        · exact HA.out j e
        · obtain rfl : j = i := by omega
          exact h)
      have HNO := Lib.hid (show ¬ (0 ≤ xs.getD i 0 ∧ xs.getD i 0 ≤ (ptN xs i : Int)) → prtB xs = false from fun h => decide_eq_false fun h2 => h (h2.2 i hlt))
      generalize xs.getD i 0 = y at *
      generalize ptN xs i = n at *
      by_cases hin : 0 ≤ y ∧ y ≤ (n : Int)
      · have HI := Lib.hid (l1In_yes y 0 (n : Int) w hin.1 hin.2)
        have HO := Lib.hid (HOK.out hin)
        by_cases e : y = (n : Int)
        · have he : (y == (n : Int)) = true := by simp [e]
          have HS := Lib.hid (HY.out.trans (if_pos e))
          have hnw : IntKind.i64.wrap ((n : Int) + 1) = (n : Int) + 1 := IntWalk.i64_in _ (by omega)
          clear e hin HNO HOK HY
          go_wp2_with fail
          (with_reducible refine HI.out.mono ?_)
          rintro e w' ⟨rfl, rfl⟩
          go_wp2
          exact ⟨⟨i + 1, by omega, by simp, by rw [HS.out]; simp, HO.out⟩, by simp [intOf]; omega⟩
        · have he : (y == (n : Int)) = false := beq_eq_false_iff_ne.2 e
          have HS := Lib.hid (HY.out.trans (if_neg e))
          clear e hin HNO HOK HY
          go_wp2_with fail
          (with_reducible refine HI.out.mono ?_)
          rintro e w' ⟨rfl, rfl⟩
          go_wp2
          exact ⟨⟨i + 1, by omega, by simp, by rw [HS.out], HO.out⟩, by simp [intOf]; omega⟩
      · have HI := Lib.hid (l1In_out y 0 (n : Int) w hin)
        have HN := Lib.hid (HNO.out hin)
        clear hin HNO HOK HY
        go_wp2_with fail
        (with_reducible refine HI.out.mono ?_)
        rintro e w' ⟨rfl, rfl⟩
        go_wp2
        go_ret
        exact ⟨ret_bool HN.out.symm, rfl⟩
    · obtain rfl : i = xs.length := by omega
      have hii : ¬ ((xs.length : Int) < (xs.length : Int)) := by omega
      have HR := Lib.hid (show prtB xs = decide ((xs.length : Int) ≤ 8) by
        by_cases h : xs.length ≤ 8
        · rw [decide_eq_true (show (xs.length : Int) ≤ 8 by omega)]; exact decide_eq_true ⟨h, HA.out⟩
        · rw [decide_eq_false (show ¬ (xs.length : Int) ≤ 8 by omega)]; exact decide_eq_false fun h2 => h h2.1)
      go_wp2
      go_ret
      exact ⟨ret_bool HR.out.symm, rfl⟩

/-- The last of the first k places at which y stands, or -1. -/
def laK (y : Int) (ns : List Int) : Nat → Int
  | 0 => -1
  | k + 1 => if ns.getD k 0 = y then (k : Int) else laK y ns k
theorem laK_bd (y : Int) (ns : List Int) (k : Nat) : laK y ns k = -1 ∨ 0 ≤ laK y ns k ∧ laK y ns k < (k : Int) := by
  induction k with
  | zero => exact .inl rfl
  | succ k ih => rw [laK]; split <;> omega
theorem laK_app (y x : Int) (ns : List Int) (k : Nat) (h : k ≤ ns.length) : laK y (ns ++ [x]) k = laK y ns k := by
  induction k with
  | zero => rfl
  | succ k ih => rw [laK, laK, ih (by omega), List.getD_eq_getElem?_getD, List.getElem?_append_left (by omega), ← List.getD_eq_getElem?_getD]
def la (y : Int) (ns : List Int) : Int := laK y ns ns.length
theorem la_new (y : Int) (ns : List Int) : la y (ns ++ [y]) = ns.length := by
  unfold la
  rw [List.length_append, List.length_singleton, laK, if_pos (by simp [List.getD])]
theorem la_old (y x : Int) (ns : List Int) (h : y ≠ x) : la y (ns ++ [x]) = la y ns := by
  unfold la
  rw [List.length_append, List.length_singleton, laK, if_neg (by simp [List.getD]; exact fun e => h e.symm), laK_app _ _ _ _ (Nat.le_refl _)]
/-- The names of the blocks, in the order of their first elements, of the first i elements. -/
def rnN (xs : List Int) : Nat → List Int
  | 0 => []
  | i + 1 => if la (xs.getD i 0) (rnN xs i) < 0 then rnN xs i ++ [xs.getD i 0] else rnN xs i
/-- The numbers of the blocks of the first i elements. -/
def rnO (xs : List Int) : Nat → List Int
  | 0 => []
  | i + 1 => rnO xs i ++ [if la (xs.getD i 0) (rnN xs i) < 0 then ((rnN xs i).length : Int) else la (xs.getD i 0) (rnN xs i)]
theorem rnN_le (xs : List Int) (i : Nat) : (rnN xs i).length ≤ i := by
  induction i with
  | zero => exact Nat.le_refl _
  | succ i ih => rw [rnN]; split; (rw [List.length_append, List.length_singleton]; omega); omega
theorem rnO_len (xs : List Int) (i : Nat) : (rnO xs i).length = i := by
  induction i with
  | zero => rfl
  | succ i ih => rw [rnO, List.length_append, ih]; rfl

/-- One int appended to a row of ints that the call owns, with the word where the row then lies. -/
theorem wpAppIntAt {w : World} {ops : Array Oper} {rest : List Oper} {o : Oper} {a : Act} {Q : Exit → Act → World → Prop} (hgd : o.guard = none) (s x : Operand)
    (ho : o.op = .call { callee := .builtin .append, args := #[s, x], argTypes := #[22, 22] })
    (base : Nat) (v : Value) (n : Nat) (xs : List Int) (hs : a.eval s = v) (hown : w.ownsRow base 3 1 v n (xs.map (Value.int .i64)))
    (b : Nat) (c : Nat) (y : Int) (hx : a.eval x = .slice (some ⟨b, 0, none⟩) 1 c) (hcell : w.cell? ⟨b, 0, none⟩ = some (.int .i64 y))
    (hn : n ≤ 1099511627776) (hbase : base ≤ w.heap.size)
    (h : ∀ v' w', w'.ownsRow base 3 1 v' (n + 1) ((xs ++ [y]).map (Value.int .i64)) → w.grownBy w' v.ownBlock → (v'.ownBlock = v.ownBlock ∨ v'.ownBlock = some w.heap.size) → wpList Try.prog ops Q rest (a.put o.dst v') w') : wpList Try.prog ops Q (o :: rest) a w := by
  obtain ⟨i0, hi, hz0, hz1, hz2⟩ := info_parts info3
  refine wpList_append_own_at _ hgd s x 22 ho base 3 i0 (.int .i64 0) 1 8 Try.underlying22 hi hz0 hz1 hz2 rfl (by decide) v n _ hs hown ⟨b, 0, none⟩ 1 c [.int .i64 y] hx rfl ?_ ?_ (by unfold maxLen; omega) (by omega) hbase ?_
  · intro j u hj
    match j, hj with
    | 0, hj => simp at hj; subst hj; simpa [Addr.add] using hcell
  · intro u hu; simp at hu; subst hu; rfl
  · intro v' w' h1 h2 _ h3
    exact h v' w' (by simpa using h1) h2 h3
theorem row_nil (w : World) (base : Nat) (hb : base ≤ w.heap.size) : (w.alloc (.cells #[] 3)).ownsRow base 3 1 (.slice (some ⟨w.heap.size, 0, none⟩) 0 0) 0 (([] : List Int).map (Value.int .i64)) :=
  World.ownsRow_made w #[] 0 hb (Nat.zero_le _) (by simp)

/-- What RenumberBlocks answers. -/
def renP (xs : List Int) : List Int := if xs.length ≤ 8 then rnO xs xs.length else []
def renOk (xs : List Int) : Bool := decide (xs.length ≤ 8)
/-- A function that answers the ints xs in memory of its own, and whether. -/
def AnsIB (xs : List Int) (b : Bool) (w : World) (e : Ending) (w' : World) : Prop := ∃ v, e = .returned (.tuple #[v, .bool b]) ∧ OwnI w' w.heap.size w'.heap.size v xs ∧ Below w.heap.size w w'
theorem ret_vb8 {A A' : Value} {x y : Bool} (h : A = A') (h' : x = y) : Ending.returned (.tuple #[A, .bool x]) = .returned (.tuple #[A', .bool y]) := by rw [h, h']
end Go.Proofs.Ytfpknljgmpgneaa
