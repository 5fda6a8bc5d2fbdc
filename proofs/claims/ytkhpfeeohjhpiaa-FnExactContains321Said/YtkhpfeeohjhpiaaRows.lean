/-
  No cell of these rows narrows 'for every input' (looked for: loops, veiled, ifaces, maps, wideKeys, modest, calm, conditions, laid).
  DERIVED. THE GIVEN ROWS OF THIS SEAT. 10 by the template 'for every input the law returns true; each argument reads behind the call as it read before'; 0 by the template 'total and deterministic' (their statements: YtkhpfeeohjhpiaaTotals.lean).
  GIVEN WITH THE SEED: the statements are not yours to turn. If you find one false, say at which input.
  Laid BY PROGRAM, IN A SANDBOX (cutbox-rows.mjs): the forced cells as the released guide's own fill.sh prints them over the translation c08a2ffc450d221a… (all of the seat's roots in one cut). By AI agents, Wed Nov 11 2026. No macro, syntax, notation, axiom, sorry.
-/
import Derived.Test.YtkhpfeeohjhpiaaChecked
import GoSem.Claim
import GoSem.ClaimJoined
import GoSem.ClaimMapViews
import Derived.JoinedTies
import Derived.KernelRfl
namespace Go.Proofs.Ytkhpfeeohjhpiaa
/- THE CELL 'sum', in the pinned program and in every row, IS THE sha256 OF THE DUMP (.gsa) THAT YtkhpfeeohjhpiaaProg.lean LOADS. Nothing in Lean hashes anything: it is a label: what it is worth is what the hold of that sum in a sandbox is worth. -/
noncomputable def Try.pinned : Pinned := { name := "ytkhpfeeohjhpiaa", sum := "c08a2ffc450d221acb6bacce2fc5c90dec6bee54057c931c53590b58b7ac1787", checked := Try.checked }
namespace Rows
def none {H : Type} : Left H := { results := [], args := [] }

/-- 'laws.FnPermutations': WHATEVER THE INPUT: true; the input reads as it did. -/
def fnPermutationsSpec : ChangeSpec := { name := "fnPermutations", fn := fun _ => fun
  | [d] => { results := [.lit (.bool true)], args := [d] }
  | _ => none }
def fnPermutationsRow : OpenClaim := { program := "ytkhpfeeohjhpiaa", sum := "c08a2ffc450d221acb6bacce2fc5c90dec6bee54057c931c53590b58b7ac1787", func := "loop.example/g03401/laws.FnPermutations", spec := "fnPermutations", inPlace := ["internal/abi.NoEscape"], unfollowed := true, recurses := true, apart := false }
def FnPermutationsSaid : Prop := fnPermutationsRow.holds Try.pinned (OpenSpec.ofChange fnPermutationsSpec)

/-- ITS FALSE NEIGHBOUR: 'it returns false'. Refute it at one input. -/
def fnPermutationsWrong : ChangeSpec := { name := "fnPermutations", fn := fun _ => fun
  | [d] => { results := [.lit (.bool false)], args := [d] }
  | _ => none }
def FnPermutationsWrongFalsely : Prop := fnPermutationsRow.holds Try.pinned (OpenSpec.ofChange fnPermutationsWrong)

/-- 'laws.FnExactIsPermutation': WHATEVER THE INPUT: true; the input reads as it did. -/
def fnExactIsPermutationSpec : ChangeSpec := { name := "fnExactIsPermutation", fn := fun _ => fun
  | [d] => { results := [.lit (.bool true)], args := [d] }
  | _ => none }
def fnExactIsPermutationRow : OpenClaim := { program := "ytkhpfeeohjhpiaa", sum := "c08a2ffc450d221acb6bacce2fc5c90dec6bee54057c931c53590b58b7ac1787", func := "loop.example/g03401/laws.FnExactIsPermutation", spec := "fnExactIsPermutation", apart := false }
def FnExactIsPermutationSaid : Prop := fnExactIsPermutationRow.holds Try.pinned (OpenSpec.ofChange fnExactIsPermutationSpec)

/-- ITS FALSE NEIGHBOUR: 'it returns false'. Refute it at one input. -/
def fnExactIsPermutationWrong : ChangeSpec := { name := "fnExactIsPermutation", fn := fun _ => fun
  | [d] => { results := [.lit (.bool false)], args := [d] }
  | _ => none }
def FnExactIsPermutationWrongFalsely : Prop := fnExactIsPermutationRow.holds Try.pinned (OpenSpec.ofChange fnExactIsPermutationWrong)

/-- 'laws.FnExactContains231': WHATEVER THE INPUT: true; the input reads as it did. -/
def fnExactContains231Spec : ChangeSpec := { name := "fnExactContains231", fn := fun _ => fun
  | [d] => { results := [.lit (.bool true)], args := [d] }
  | _ => none }
def fnExactContains231Row : OpenClaim := { program := "ytkhpfeeohjhpiaa", sum := "c08a2ffc450d221acb6bacce2fc5c90dec6bee54057c931c53590b58b7ac1787", func := "loop.example/g03401/laws.FnExactContains231", spec := "fnExactContains231", unfollowed := true, recurses := true, apart := false }
def FnExactContains231Said : Prop := fnExactContains231Row.holds Try.pinned (OpenSpec.ofChange fnExactContains231Spec)

/-- ITS FALSE NEIGHBOUR: 'it returns false'. Refute it at one input. -/
def fnExactContains231Wrong : ChangeSpec := { name := "fnExactContains231", fn := fun _ => fun
  | [d] => { results := [.lit (.bool false)], args := [d] }
  | _ => none }
def FnExactContains231WrongFalsely : Prop := fnExactContains231Row.holds Try.pinned (OpenSpec.ofChange fnExactContains231Wrong)

/-- 'laws.FnExactPermutationOf': WHATEVER THE INPUT: true; the input reads as it did. -/
def fnExactPermutationOfSpec : ChangeSpec := { name := "fnExactPermutationOf", fn := fun _ => fun
  | [d] => { results := [.lit (.bool true)], args := [d] }
  | _ => none }
def fnExactPermutationOfRow : OpenClaim := { program := "ytkhpfeeohjhpiaa", sum := "c08a2ffc450d221acb6bacce2fc5c90dec6bee54057c931c53590b58b7ac1787", func := "loop.example/g03401/laws.FnExactPermutationOf", spec := "fnExactPermutationOf", apart := false }
def FnExactPermutationOfSaid : Prop := fnExactPermutationOfRow.holds Try.pinned (OpenSpec.ofChange fnExactPermutationOfSpec)

/-- ITS FALSE NEIGHBOUR: 'it returns false'. Refute it at one input. -/
def fnExactPermutationOfWrong : ChangeSpec := { name := "fnExactPermutationOf", fn := fun _ => fun
  | [d] => { results := [.lit (.bool false)], args := [d] }
  | _ => none }
def FnExactPermutationOfWrongFalsely : Prop := fnExactPermutationOfRow.holds Try.pinned (OpenSpec.ofChange fnExactPermutationOfWrong)

/-- 'laws.FnExactPathOfPermutation': WHATEVER THE INPUT: true; the input reads as it did. -/
def fnExactPathOfPermutationSpec : ChangeSpec := { name := "fnExactPathOfPermutation", fn := fun _ => fun
  | [d] => { results := [.lit (.bool true)], args := [d] }
  | _ => none }
def fnExactPathOfPermutationRow : OpenClaim := { program := "ytkhpfeeohjhpiaa", sum := "c08a2ffc450d221acb6bacce2fc5c90dec6bee54057c931c53590b58b7ac1787", func := "loop.example/g03401/laws.FnExactPathOfPermutation", spec := "fnExactPathOfPermutation", inPlace := ["internal/abi.NoEscape"], unfollowed := true, recurses := true, apart := false }
def FnExactPathOfPermutationSaid : Prop := fnExactPathOfPermutationRow.holds Try.pinned (OpenSpec.ofChange fnExactPathOfPermutationSpec)

/-- ITS FALSE NEIGHBOUR: 'it returns false'. Refute it at one input. -/
def fnExactPathOfPermutationWrong : ChangeSpec := { name := "fnExactPathOfPermutation", fn := fun _ => fun
  | [d] => { results := [.lit (.bool false)], args := [d] }
  | _ => none }
def FnExactPathOfPermutationWrongFalsely : Prop := fnExactPathOfPermutationRow.holds Try.pinned (OpenSpec.ofChange fnExactPathOfPermutationWrong)

/-- 'laws.FnExactInversionsOf': WHATEVER THE INPUT: true; the input reads as it did. -/
def fnExactInversionsOfSpec : ChangeSpec := { name := "fnExactInversionsOf", fn := fun _ => fun
  | [d] => { results := [.lit (.bool true)], args := [d] }
  | _ => none }
def fnExactInversionsOfRow : OpenClaim := { program := "ytkhpfeeohjhpiaa", sum := "c08a2ffc450d221acb6bacce2fc5c90dec6bee54057c931c53590b58b7ac1787", func := "loop.example/g03401/laws.FnExactInversionsOf", spec := "fnExactInversionsOf", apart := false }
def FnExactInversionsOfSaid : Prop := fnExactInversionsOfRow.holds Try.pinned (OpenSpec.ofChange fnExactInversionsOfSpec)

/-- ITS FALSE NEIGHBOUR: 'it returns false'. Refute it at one input. -/
def fnExactInversionsOfWrong : ChangeSpec := { name := "fnExactInversionsOf", fn := fun _ => fun
  | [d] => { results := [.lit (.bool false)], args := [d] }
  | _ => none }
def FnExactInversionsOfWrongFalsely : Prop := fnExactInversionsOfRow.holds Try.pinned (OpenSpec.ofChange fnExactInversionsOfWrong)

/-- 'laws.FnExactDescentsOf': WHATEVER THE INPUT: true; the input reads as it did. -/
def fnExactDescentsOfSpec : ChangeSpec := { name := "fnExactDescentsOf", fn := fun _ => fun
  | [d] => { results := [.lit (.bool true)], args := [d] }
  | _ => none }
def fnExactDescentsOfRow : OpenClaim := { program := "ytkhpfeeohjhpiaa", sum := "c08a2ffc450d221acb6bacce2fc5c90dec6bee54057c931c53590b58b7ac1787", func := "loop.example/g03401/laws.FnExactDescentsOf", spec := "fnExactDescentsOf", apart := false }
def FnExactDescentsOfSaid : Prop := fnExactDescentsOfRow.holds Try.pinned (OpenSpec.ofChange fnExactDescentsOfSpec)

/-- ITS FALSE NEIGHBOUR: 'it returns false'. Refute it at one input. -/
def fnExactDescentsOfWrong : ChangeSpec := { name := "fnExactDescentsOf", fn := fun _ => fun
  | [d] => { results := [.lit (.bool false)], args := [d] }
  | _ => none }
def FnExactDescentsOfWrongFalsely : Prop := fnExactDescentsOfRow.holds Try.pinned (OpenSpec.ofChange fnExactDescentsOfWrong)

/-- 'laws.FnExactInverseOf': WHATEVER THE INPUT: true; the input reads as it did. -/
def fnExactInverseOfSpec : ChangeSpec := { name := "fnExactInverseOf", fn := fun _ => fun
  | [d] => { results := [.lit (.bool true)], args := [d] }
  | _ => none }
def fnExactInverseOfRow : OpenClaim := { program := "ytkhpfeeohjhpiaa", sum := "c08a2ffc450d221acb6bacce2fc5c90dec6bee54057c931c53590b58b7ac1787", func := "loop.example/g03401/laws.FnExactInverseOf", spec := "fnExactInverseOf", apart := false }
def FnExactInverseOfSaid : Prop := fnExactInverseOfRow.holds Try.pinned (OpenSpec.ofChange fnExactInverseOfSpec)

/-- ITS FALSE NEIGHBOUR: 'it returns false'. Refute it at one input. -/
def fnExactInverseOfWrong : ChangeSpec := { name := "fnExactInverseOf", fn := fun _ => fun
  | [d] => { results := [.lit (.bool false)], args := [d] }
  | _ => none }
def FnExactInverseOfWrongFalsely : Prop := fnExactInverseOfRow.holds Try.pinned (OpenSpec.ofChange fnExactInverseOfWrong)

/-- 'laws.FnExactContains321': WHATEVER THE INPUT: true; the input reads as it did. -/
def fnExactContains321Spec : ChangeSpec := { name := "fnExactContains321", fn := fun _ => fun
  | [d] => { results := [.lit (.bool true)], args := [d] }
  | _ => none }
def fnExactContains321Row : OpenClaim := { program := "ytkhpfeeohjhpiaa", sum := "c08a2ffc450d221acb6bacce2fc5c90dec6bee54057c931c53590b58b7ac1787", func := "loop.example/g03401/laws.FnExactContains321", spec := "fnExactContains321", unfollowed := true, recurses := true, apart := false }
def FnExactContains321Said : Prop := fnExactContains321Row.holds Try.pinned (OpenSpec.ofChange fnExactContains321Spec)

/-- ITS FALSE NEIGHBOUR: 'it returns false'. Refute it at one input. -/
def fnExactContains321Wrong : ChangeSpec := { name := "fnExactContains321", fn := fun _ => fun
  | [d] => { results := [.lit (.bool false)], args := [d] }
  | _ => none }
def FnExactContains321WrongFalsely : Prop := fnExactContains321Row.holds Try.pinned (OpenSpec.ofChange fnExactContains321Wrong)

/-- 'laws.FnExactAvoiders': WHATEVER THE INPUT: true; the input reads as it did. -/
def fnExactAvoidersSpec : ChangeSpec := { name := "fnExactAvoiders", fn := fun _ => fun
  | [d1, d2] => { results := [.lit (.bool true)], args := [d1, d2] }
  | _ => none }
def fnExactAvoidersRow : OpenClaim := { program := "ytkhpfeeohjhpiaa", sum := "c08a2ffc450d221acb6bacce2fc5c90dec6bee54057c931c53590b58b7ac1787", func := "loop.example/g03401/laws.FnExactAvoiders", spec := "fnExactAvoiders", unfollowed := true, recurses := true, apart := false }
def FnExactAvoidersSaid : Prop := fnExactAvoidersRow.holds Try.pinned (OpenSpec.ofChange fnExactAvoidersSpec)

/-- ITS FALSE NEIGHBOUR: 'it returns false'. Refute it at one input. -/
def fnExactAvoidersWrong : ChangeSpec := { name := "fnExactAvoiders", fn := fun _ => fun
  | [d1, d2] => { results := [.lit (.bool false)], args := [d1, d2] }
  | _ => none }
def FnExactAvoidersWrongFalsely : Prop := fnExactAvoidersRow.holds Try.pinned (OpenSpec.ofChange fnExactAvoidersWrong)

/- THE SECOND FORM. 'bulk': how many values and letters a reading holds, each counted each time it is reached (what is shared counts as often as it is met; a slice's spare places count too). A statement '..UptoSaid' is the law's where the arguments, and the package variables that the reading takes, are together of bulk at most 1048576: NARROWER than '..Said'. Prove '..Said' where nothing that the law and all that it calls make is longer than what came in: it says more and counts as full. Else prove '..UptoSaid'. A law counts once. -/
mutual
def uptoBulk {H : Type} : DataW H → Nat
  | .lit (.string bytes) => bytes.length + 1
  | .lit _ => 1
  | .nil => 1
  | .ptr d => uptoBulk d + 1
  | .slice elems spare => uptoBulkAll elems + uptoBulkAll spare + 1
  | .agg parts => uptoBulkAll parts + 1
  | .iface _ d => uptoBulk d + 1
  | .map entries => uptoBulkEntries entries + 1
  | .held _ => 1
def uptoBulkAll {H : Type} : List (DataW H) → Nat
  | [] => 0
  | d :: r => uptoBulk d + uptoBulkAll r
def uptoBulkEntries {H : Type} : List (Lit × DataW H) → Nat
  | [] => 0
  | x :: r => uptoBulkEntry x + uptoBulkEntries r
def uptoBulkEntry {H : Type} : Lit × DataW H → Nat
  | (.string bytes, d) => bytes.length + uptoBulk d + 1
  | (_, d) => uptoBulk d + 1
 end
def uptoSmall : (H : Type) → List (DataW H) → Bool := fun _ ds => decide (uptoBulkAll ds ≤ 1048576)
def OpenSpec.upto (s : _root_.Go.ChangeSpec) : _root_.Go.OpenSpec := { _root_.Go.OpenSpec.ofChange s with cond := some uptoSmall }

/-- 'laws.FnPermutations', WHERE WHAT IT READS IS OF BULK AT MOST 1048576: true; the input reads as it did. -/
def fnPermutationsUptoRow : OpenClaim := { program := "ytkhpfeeohjhpiaa", sum := "c08a2ffc450d221acb6bacce2fc5c90dec6bee54057c931c53590b58b7ac1787", func := "loop.example/g03401/laws.FnPermutations", spec := "fnPermutations", inPlace := ["internal/abi.NoEscape"], unfollowed := true, recurses := true, apart := false, narrowed := true }
def FnPermutationsUptoSaid : Prop := fnPermutationsUptoRow.holds Try.pinned (OpenSpec.upto fnPermutationsSpec)

/-- 'laws.FnExactIsPermutation', WHERE WHAT IT READS IS OF BULK AT MOST 1048576: true; the input reads as it did. -/
def fnExactIsPermutationUptoRow : OpenClaim := { program := "ytkhpfeeohjhpiaa", sum := "c08a2ffc450d221acb6bacce2fc5c90dec6bee54057c931c53590b58b7ac1787", func := "loop.example/g03401/laws.FnExactIsPermutation", spec := "fnExactIsPermutation", apart := false, narrowed := true }
def FnExactIsPermutationUptoSaid : Prop := fnExactIsPermutationUptoRow.holds Try.pinned (OpenSpec.upto fnExactIsPermutationSpec)

/-- 'laws.FnExactContains231', WHERE WHAT IT READS IS OF BULK AT MOST 1048576: true; the input reads as it did. -/
def fnExactContains231UptoRow : OpenClaim := { program := "ytkhpfeeohjhpiaa", sum := "c08a2ffc450d221acb6bacce2fc5c90dec6bee54057c931c53590b58b7ac1787", func := "loop.example/g03401/laws.FnExactContains231", spec := "fnExactContains231", unfollowed := true, recurses := true, apart := false, narrowed := true }
def FnExactContains231UptoSaid : Prop := fnExactContains231UptoRow.holds Try.pinned (OpenSpec.upto fnExactContains231Spec)

/-- 'laws.FnExactPermutationOf', WHERE WHAT IT READS IS OF BULK AT MOST 1048576: true; the input reads as it did. -/
def fnExactPermutationOfUptoRow : OpenClaim := { program := "ytkhpfeeohjhpiaa", sum := "c08a2ffc450d221acb6bacce2fc5c90dec6bee54057c931c53590b58b7ac1787", func := "loop.example/g03401/laws.FnExactPermutationOf", spec := "fnExactPermutationOf", apart := false, narrowed := true }
def FnExactPermutationOfUptoSaid : Prop := fnExactPermutationOfUptoRow.holds Try.pinned (OpenSpec.upto fnExactPermutationOfSpec)

/-- 'laws.FnExactPathOfPermutation', WHERE WHAT IT READS IS OF BULK AT MOST 1048576: true; the input reads as it did. -/
def fnExactPathOfPermutationUptoRow : OpenClaim := { program := "ytkhpfeeohjhpiaa", sum := "c08a2ffc450d221acb6bacce2fc5c90dec6bee54057c931c53590b58b7ac1787", func := "loop.example/g03401/laws.FnExactPathOfPermutation", spec := "fnExactPathOfPermutation", inPlace := ["internal/abi.NoEscape"], unfollowed := true, recurses := true, apart := false, narrowed := true }
def FnExactPathOfPermutationUptoSaid : Prop := fnExactPathOfPermutationUptoRow.holds Try.pinned (OpenSpec.upto fnExactPathOfPermutationSpec)

/-- 'laws.FnExactInversionsOf', WHERE WHAT IT READS IS OF BULK AT MOST 1048576: true; the input reads as it did. -/
def fnExactInversionsOfUptoRow : OpenClaim := { program := "ytkhpfeeohjhpiaa", sum := "c08a2ffc450d221acb6bacce2fc5c90dec6bee54057c931c53590b58b7ac1787", func := "loop.example/g03401/laws.FnExactInversionsOf", spec := "fnExactInversionsOf", apart := false, narrowed := true }
def FnExactInversionsOfUptoSaid : Prop := fnExactInversionsOfUptoRow.holds Try.pinned (OpenSpec.upto fnExactInversionsOfSpec)

/-- 'laws.FnExactDescentsOf', WHERE WHAT IT READS IS OF BULK AT MOST 1048576: true; the input reads as it did. -/
def fnExactDescentsOfUptoRow : OpenClaim := { program := "ytkhpfeeohjhpiaa", sum := "c08a2ffc450d221acb6bacce2fc5c90dec6bee54057c931c53590b58b7ac1787", func := "loop.example/g03401/laws.FnExactDescentsOf", spec := "fnExactDescentsOf", apart := false, narrowed := true }
def FnExactDescentsOfUptoSaid : Prop := fnExactDescentsOfUptoRow.holds Try.pinned (OpenSpec.upto fnExactDescentsOfSpec)

/-- 'laws.FnExactInverseOf', WHERE WHAT IT READS IS OF BULK AT MOST 1048576: true; the input reads as it did. -/
def fnExactInverseOfUptoRow : OpenClaim := { program := "ytkhpfeeohjhpiaa", sum := "c08a2ffc450d221acb6bacce2fc5c90dec6bee54057c931c53590b58b7ac1787", func := "loop.example/g03401/laws.FnExactInverseOf", spec := "fnExactInverseOf", apart := false, narrowed := true }
def FnExactInverseOfUptoSaid : Prop := fnExactInverseOfUptoRow.holds Try.pinned (OpenSpec.upto fnExactInverseOfSpec)

/-- 'laws.FnExactContains321', WHERE WHAT IT READS IS OF BULK AT MOST 1048576: true; the input reads as it did. -/
def fnExactContains321UptoRow : OpenClaim := { program := "ytkhpfeeohjhpiaa", sum := "c08a2ffc450d221acb6bacce2fc5c90dec6bee54057c931c53590b58b7ac1787", func := "loop.example/g03401/laws.FnExactContains321", spec := "fnExactContains321", unfollowed := true, recurses := true, apart := false, narrowed := true }
def FnExactContains321UptoSaid : Prop := fnExactContains321UptoRow.holds Try.pinned (OpenSpec.upto fnExactContains321Spec)

/-- 'laws.FnExactAvoiders', WHERE WHAT IT READS IS OF BULK AT MOST 1048576: true; the input reads as it did. -/
def fnExactAvoidersUptoRow : OpenClaim := { program := "ytkhpfeeohjhpiaa", sum := "c08a2ffc450d221acb6bacce2fc5c90dec6bee54057c931c53590b58b7ac1787", func := "loop.example/g03401/laws.FnExactAvoiders", spec := "fnExactAvoiders", unfollowed := true, recurses := true, apart := false, narrowed := true }
def FnExactAvoidersUptoSaid : Prop := fnExactAvoidersUptoRow.holds Try.pinned (OpenSpec.upto fnExactAvoidersSpec)

end Rows
end Go.Proofs.Ytkhpfeeohjhpiaa
