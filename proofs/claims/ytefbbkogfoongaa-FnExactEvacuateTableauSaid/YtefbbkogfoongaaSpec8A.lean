/- The contracts of the model's IsPartition, l8Renumber and RenumberBlocks. -/
import Derived.Test.YtefbbkogfoongaaSpec2C
import Derived.Test.YtefbbkogfoongaaInts
import Derived.Maps.AppendAt
import Derived.BigQuiet
namespace Go.Proofs.Ytefbbkogfoongaa
open Go.ChangeShapes Go.WideShapes Go.ChangeAt Go.RowKit
set_option linter.unusedVariables false

theorem l1In_out (x lo hi : Int) (w : World) (h : ¬ (lo ≤ x ∧ x ≤ hi)) :
    Calls Try.prog 27 #[.int .i64 x, .int .i64 lo, .int .i64 hi] w fun e w' => e = .returned (.bool false) ∧ w = w' := by
  by_cases h1 : lo ≤ x
  · exact l1In_no2 x lo hi w h1 (by omega)
  · exact l1In_no1 x lo hi w (by omega)
/-- The next number of a block, behind the first i elements. -/
def ptN (xs : List Int) : Nat → Nat
  | 0 => 0
  | i + 1 => if xs.getD i 0 = (ptN xs i : Int) then ptN xs i + 1 else ptN xs i
theorem ptN_le (xs : List Int) (i : Nat) : ptN xs i ≤ i := by
  induction i with
  | zero => exact Nat.le_refl _
  | succ i ih => rw [ptN]; split <;> omega
def prtB (xs : List Int) : Bool := decide (xs.length ≤ 8 ∧ ∀ i, i < xs.length → 0 ≤ xs.getD i 0 ∧ xs.getD i 0 ≤ (ptN xs i : Int))
theorem prt_yes {xs : List Int} (h : prtB xs = true) : xs.length ≤ 8 ∧ ∀ i, i < xs.length → 0 ≤ xs.getD i 0 ∧ xs.getD i 0 ≤ (ptN xs i : Int) := of_decide_eq_true h

/-- The last of the first k places at which y stands, or -1. -/
def laK (y : Int) (ns : List Int) : Nat → Int
  | 0 => -1
  | k + 1 => if ns.getD k 0 = y then (k : Int) else laK y ns k
theorem laK_bd (y : Int) (ns : List Int) (k : Nat) : laK y ns k = -1 ∨ 0 ≤ laK y ns k ∧ laK y ns k < (k : Int) := by
  induction k with
  | zero => exact .inl rfl
  | succ k ih => rw [laK]; split <;> omega
theorem laK_app (y x : Int) (ns : List Int) (k : Nat) (h : k ≤ ns.length) : laK y (ns ++ [x]) k = laK y ns k := by
  induction k with
  | zero => rfl
  | succ k ih => rw [laK, laK, ih (by omega), List.getD_eq_getElem?_getD, List.getElem?_append_left (by omega), ← List.getD_eq_getElem?_getD]
def la (y : Int) (ns : List Int) : Int := laK y ns ns.length
theorem la_new (y : Int) (ns : List Int) : la y (ns ++ [y]) = ns.length := by
  unfold la
  rw [List.length_append, List.length_singleton, laK, if_pos (by simp [List.getD])]
theorem la_old (y x : Int) (ns : List Int) (h : y ≠ x) : la y (ns ++ [x]) = la y ns := by
  unfold la
  rw [List.length_append, List.length_singleton, laK, if_neg (by simp [List.getD]; exact fun e => h e.symm), laK_app _ _ _ _ (Nat.le_refl _)]
/-- The names of the blocks, in the order of their first elements, of the first i elements. -/
def rnN (xs : List Int) : Nat → List Int
  | 0 => []
  | i + 1 => if la (xs.getD i 0) (rnN xs i) < 0 then rnN xs i ++ [xs.getD i 0] else rnN xs i
/-- The numbers of the blocks of the first i elements. -/
def rnO (xs : List Int) : Nat → List Int
  | 0 => []
  | i + 1 => rnO xs i ++ [if la (xs.getD i 0) (rnN xs i) < 0 then ((rnN xs i).length : Int) else la (xs.getD i 0) (rnN xs i)]
theorem rnN_le (xs : List Int) (i : Nat) : (rnN xs i).length ≤ i := by
  induction i with
  | zero => exact Nat.le_refl _
  | succ i ih => rw [rnN]; split; (rw [List.length_append, List.length_singleton]; omega); omega
theorem rnO_len (xs : List Int) (i : Nat) : (rnO xs i).length = i := by
  induction i with
  | zero => rfl
  | succ i ih => rw [rnO, List.length_append, ih]; rfl

/-- One int appended to a row of ints that the call owns, with the word where the row then lies. -/
theorem wpAppIntAt {w : World} {ops : Array Oper} {rest : List Oper} {o : Oper} {a : Act} {Q : Exit → Act → World → Prop} (hgd : o.guard = none) (s x : Operand)
    (ho : o.op = .call { callee := .builtin .append, args := #[s, x], argTypes := #[31, 31] })
    (base : Nat) (v : Value) (n : Nat) (xs : List Int) (hs : a.eval s = v) (hown : w.ownsRow base 3 1 v n (xs.map (Value.int .i64)))
    (b : Nat) (c : Nat) (y : Int) (hx : a.eval x = .slice (some ⟨b, 0, none⟩) 1 c) (hcell : w.cell? ⟨b, 0, none⟩ = some (.int .i64 y))
    (hn : n ≤ 1099511627776) (hbase : base ≤ w.heap.size)
    (h : ∀ v' w', w'.ownsRow base 3 1 v' (n + 1) ((xs ++ [y]).map (Value.int .i64)) → w.grownBy w' v.ownBlock → (v'.ownBlock = v.ownBlock ∨ v'.ownBlock = some w.heap.size) → wpList Try.prog ops Q rest (a.put o.dst v') w') : wpList Try.prog ops Q (o :: rest) a w := by
  obtain ⟨i0, hi, hz0, hz1, hz2⟩ := info_parts info3
  refine wpList_append_own_at _ hgd s x 31 ho base 3 i0 (.int .i64 0) 1 8 Try.underlying31 hi hz0 hz1 hz2 rfl (by decide) v n _ hs hown ⟨b, 0, none⟩ 1 c [.int .i64 y] hx rfl ?_ ?_ (by unfold maxLen; omega) (by omega) hbase ?_
  · intro j u hj
    match j, hj with
    | 0, hj => simp at hj; subst hj; simpa [Addr.add] using hcell
  · intro u hu; simp at hu; subst hu; rfl
  · intro v' w' h1 h2 _ h3
    exact h v' w' (by simpa using h1) h2 h3
theorem row_nil (w : World) (base : Nat) (hb : base ≤ w.heap.size) : (w.alloc (.cells #[] 3)).ownsRow base 3 1 (.slice (some ⟨w.heap.size, 0, none⟩) 0 0) 0 (([] : List Int).map (Value.int .i64)) :=
  World.ownsRow_made w #[] 0 hb (Nat.zero_le _) (by simp)

/-- What RenumberBlocks answers. -/
def renP (xs : List Int) : List Int := if xs.length ≤ 8 then rnO xs xs.length else []
def renOk (xs : List Int) : Bool := decide (xs.length ≤ 8)
/-- A function that answers the ints xs in memory of its own, and whether. -/
def AnsIB (xs : List Int) (b : Bool) (w : World) (e : Ending) (w' : World) : Prop := ∃ v, e = .returned (.tuple #[v, .bool b]) ∧ OwnI w' w.heap.size w'.heap.size v xs ∧ Below w.heap.size w w'
theorem ret_vb8 {A A' : Value} {x y : Bool} (h : A = A') (h' : x = y) : Ending.returned (.tuple #[A, .bool x]) = .returned (.tuple #[A', .bool y]) := by rw [h, h']
end Go.Proofs.Ytefbbkogfoongaa
