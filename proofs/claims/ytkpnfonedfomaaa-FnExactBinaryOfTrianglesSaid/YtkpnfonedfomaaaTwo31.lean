/- Two rows of ints that a call owns, apart from each other; what a stack looks like while its top is taken off. -/
import Derived.Test.YtkpnfonedfomaaaFact31
import Derived.Test.YtkpnfonedfomaaaAppAt
namespace Go.Proofs.Ytkpnfonedfomaaa
open Go.ChangeShapes Go.WideShapes Go.ChangeAt Go.RowKit
set_option linter.unusedVariables false

/-- The two values lie in different blocks. -/
def Apt (u v : Value) : Prop := ∀ k, u.ownBlock = some k → v.ownBlock ≠ some k
theorem Apt.symm {u v : Value} (h : Apt u v) : Apt v u := fun k e e2 => h k e2 e
theorem Apt.cut {u : Value} {A : Option Addr} {n c n' c' : Nat} (h : Apt u (.slice A n c)) : Apt u (.slice A n' c') := by
  intro k e e2
  refine h k e ?_
  cases A with
  | none => simp [Value.ownBlock] at e2
  | some a => simpa [Value.ownBlock] using e2
theorem RowN.two {w w' : World} {B : Nat} {u v v' : Value} {l : List Int} (hu : RowN w B u l) (ha : Apt u v) (hg : w.grownBy w' v.ownBlock) (hat : v'.ownBlock = v.ownBlock ∨ v'.ownBlock = some w.heap.size) : RowN w' B u l ∧ Apt u v' := by
  refine ⟨hu.keep fun g _ hlt e => hg.block g hlt fun e2 => ha g e e2.symm, fun k e e2 => ?_⟩
  rcases hat with h | h
  · exact ha k e (h ▸ e2)
  · rw [h] at e2
    have := (World.ownsRow.lt hu k e).2
    simp only [Option.some.injEq] at e2
    omega
theorem RowN.allocN {w : World} {B : Nat} {u : Value} {l : List Int} (hu : RowN w B u l) (o : Obj) : RowN (w.alloc o) B u l := World.ownsRow.alloc hu o
theorem RowN.of_app {w : World} {B : Nat} {v : Value} {l : List Int} {y : Int} (h : w.ownsRow B 3 1 v (l.length + 1) ((l ++ [y]).map (Value.int .i64))) : RowN w B v (l ++ [y]) := by
  unfold RowN
  rw [List.length_append]
  exact h
theorem RowN.made (w : World) (B b : Nat) (hb : b = w.heap.size) (hB : B ≤ b) : RowN (w.alloc (.cells #[] 3)) B (.slice (some ⟨b, 0, none⟩) 0 0) [] := by
  subst hb
  exact World.ownsRow_made w #[] 0 hB (Nat.zero_le _) (by simp)
/-- The stack when j numbers have been taken off. -/
theorem sr_mid {S : List Int} (O : List Int) {j : Nat} (h : j < S.length) :
    (S.take (S.length - j)).length = S.length - j ∧ (S.take (S.length - j)).getD (S.length - j - 1) 0 = S.getD (S.length - 1 - j) 0 ∧ (S.take (S.length - j)).dropLast = S.take (S.length - (j + 1)) ∧ O ++ S.reverse.take (j + 1) = (O ++ S.reverse.take j) ++ [S.getD (S.length - 1 - j) 0] := by
  have h1 : (S.take (S.length - j)).length = S.length - j := by rw [List.length_take]; omega
  refine ⟨h1, ?_, ?_, ?_⟩
  · rw [List.getD_eq_getElem?_getD, List.getElem?_take_of_lt (by omega), List.getD_eq_getElem?_getD, show S.length - j - 1 = S.length - 1 - j by omega]
  · rw [List.dropLast_eq_take, List.take_take, h1, show min (S.length - j - 1) (S.length - j) = S.length - (j + 1) by omega]
  · rw [List.append_assoc, take_more (l := S.reverse) (by rw [List.length_reverse]; exact h)]
    congr 2
    have := rev_at S j h
    rw [← this, getD_el (by rw [List.length_reverse]; exact h)]
theorem sr_none (S O : List Int) : S.take (S.length - S.length) = [] ∧ O ++ S.reverse.take S.length = O ++ S.reverse := by
  refine ⟨by rw [Nat.sub_self, List.take_zero], ?_⟩
  rw [List.take_of_length_le (by rw [List.length_reverse]; exact Nat.le_refl _)]
/-- The length of a slice. -/
def vLen : Value → Nat
  | .slice _ n _ => n
  | _ => 0

end Go.Proofs.Ytkpnfonedfomaaa
