/-
  No cell of these rows narrows 'for every input' (looked for: loops, veiled, ifaces, maps, wideKeys, modest, calm, conditions, laid).
  DERIVED. THE GIVEN ROWS OF THIS SEAT. 4 by the template 'for every input the law returns true; each argument reads behind the call as it read before'; 0 by the template 'total and deterministic' (their statements: YtpcpfhcioeaifaaTotals.lean).
  GIVEN WITH THE SEED: the statements are not yours to turn. If you find one false, say at which input.
  Laid BY PROGRAM, IN A SANDBOX (cutbox-rows.mjs): the forced cells as the released guide's own fill.sh prints them over the translation 849d2374262bc7d7… (all of the seat's roots in one cut). By AI agents, Wed Nov 11 2026. No macro, syntax, notation, axiom, sorry.
-/
import Derived.Test.YtpcpfhcioeaifaaChecked
import GoSem.Claim
import GoSem.ClaimJoined
import GoSem.ClaimMapViews
import Derived.JoinedTies
import Derived.KernelRfl
namespace Go.Proofs.Ytpcpfhcioeaifaa
/- THE CELL 'sum', in the pinned program and in every row, IS THE sha256 OF THE DUMP (.gsa) THAT YtpcpfhcioeaifaaProg.lean LOADS. Nothing in Lean hashes anything: it is a label: what it is worth is what the hold of that sum in a sandbox is worth. -/
noncomputable def Try.pinned : Pinned := { name := "ytpcpfhcioeaifaa", sum := "849d2374262bc7d7bbe4ca568d5612eea0ce7d90879681325beccdabed237724", checked := Try.checked }
namespace Rows
def none {H : Type} : Left H := { results := [], args := [] }

/-- 'laws.FnExactCyclotomicPolynomial': WHATEVER THE INPUT: true; the input reads as it did. -/
def fnExactCyclotomicPolynomialSpec : ChangeSpec := { name := "fnExactCyclotomicPolynomial", fn := fun _ => fun
  | [d] => { results := [.lit (.bool true)], args := [d] }
  | _ => none }
def fnExactCyclotomicPolynomialRow : OpenClaim := { program := "ytpcpfhcioeaifaa", sum := "849d2374262bc7d7bbe4ca568d5612eea0ce7d90879681325beccdabed237724", func := "loop.example/g03401/laws.FnExactCyclotomicPolynomial", spec := "fnExactCyclotomicPolynomial", unfollowed := true, recurses := true, apart := false }
def FnExactCyclotomicPolynomialSaid : Prop := fnExactCyclotomicPolynomialRow.holds Try.pinned (OpenSpec.ofChange fnExactCyclotomicPolynomialSpec)

/-- ITS FALSE NEIGHBOUR: 'it returns false'. Refute it at one input. -/
def fnExactCyclotomicPolynomialWrong : ChangeSpec := { name := "fnExactCyclotomicPolynomial", fn := fun _ => fun
  | [d] => { results := [.lit (.bool false)], args := [d] }
  | _ => none }
def FnExactCyclotomicPolynomialWrongFalsely : Prop := fnExactCyclotomicPolynomialRow.holds Try.pinned (OpenSpec.ofChange fnExactCyclotomicPolynomialWrong)

/-- 'laws.FnExactValueAtRoot': WHATEVER THE INPUT: true; the input reads as it did. -/
def fnExactValueAtRootSpec : ChangeSpec := { name := "fnExactValueAtRoot", fn := fun _ => fun
  | [d1, d2] => { results := [.lit (.bool true)], args := [d1, d2] }
  | _ => none }
def fnExactValueAtRootRow : OpenClaim := { program := "ytpcpfhcioeaifaa", sum := "849d2374262bc7d7bbe4ca568d5612eea0ce7d90879681325beccdabed237724", func := "loop.example/g03401/laws.FnExactValueAtRoot", spec := "fnExactValueAtRoot", unfollowed := true, recurses := true, apart := false }
def FnExactValueAtRootSaid : Prop := fnExactValueAtRootRow.holds Try.pinned (OpenSpec.ofChange fnExactValueAtRootSpec)

/-- ITS FALSE NEIGHBOUR: 'it returns false'. Refute it at one input. -/
def fnExactValueAtRootWrong : ChangeSpec := { name := "fnExactValueAtRoot", fn := fun _ => fun
  | [d1, d2] => { results := [.lit (.bool false)], args := [d1, d2] }
  | _ => none }
def FnExactValueAtRootWrongFalsely : Prop := fnExactValueAtRootRow.holds Try.pinned (OpenSpec.ofChange fnExactValueAtRootWrong)

/-- 'laws.FnExactOrderOfTurn': WHATEVER THE INPUT: true; the input reads as it did. -/
def fnExactOrderOfTurnSpec : ChangeSpec := { name := "fnExactOrderOfTurn", fn := fun _ => fun
  | [d1, d2] => { results := [.lit (.bool true)], args := [d1, d2] }
  | _ => none }
def fnExactOrderOfTurnRow : OpenClaim := { program := "ytpcpfhcioeaifaa", sum := "849d2374262bc7d7bbe4ca568d5612eea0ce7d90879681325beccdabed237724", func := "loop.example/g03401/laws.FnExactOrderOfTurn", spec := "fnExactOrderOfTurn", apart := false }
def FnExactOrderOfTurnSaid : Prop := fnExactOrderOfTurnRow.holds Try.pinned (OpenSpec.ofChange fnExactOrderOfTurnSpec)

/-- ITS FALSE NEIGHBOUR: 'it returns false'. Refute it at one input. -/
def fnExactOrderOfTurnWrong : ChangeSpec := { name := "fnExactOrderOfTurn", fn := fun _ => fun
  | [d1, d2] => { results := [.lit (.bool false)], args := [d1, d2] }
  | _ => none }
def FnExactOrderOfTurnWrongFalsely : Prop := fnExactOrderOfTurnRow.holds Try.pinned (OpenSpec.ofChange fnExactOrderOfTurnWrong)

/-- 'laws.FnExactFamilyNames': WHATEVER THE INPUT: true; the input reads as it did. -/
def fnExactFamilyNamesSpec : ChangeSpec := { name := "fnExactFamilyNames", fn := fun _ => fun
  | [] => { results := [.lit (.bool true)], args := [] }
  | _ => none }
def fnExactFamilyNamesRow : OpenClaim := { program := "ytpcpfhcioeaifaa", sum := "849d2374262bc7d7bbe4ca568d5612eea0ce7d90879681325beccdabed237724", func := "loop.example/g03401/laws.FnExactFamilyNames", spec := "fnExactFamilyNames", apart := false }
def FnExactFamilyNamesSaid : Prop := fnExactFamilyNamesRow.holds Try.pinned (OpenSpec.ofChange fnExactFamilyNamesSpec)

/-- ITS FALSE NEIGHBOUR: 'it returns false'. Refute it at one input. -/
def fnExactFamilyNamesWrong : ChangeSpec := { name := "fnExactFamilyNames", fn := fun _ => fun
  | [] => { results := [.lit (.bool false)], args := [] }
  | _ => none }
def FnExactFamilyNamesWrongFalsely : Prop := fnExactFamilyNamesRow.holds Try.pinned (OpenSpec.ofChange fnExactFamilyNamesWrong)

/- THE SECOND FORM. 'bulk': how many values and letters a reading holds, each counted each time it is reached (what is shared counts as often as it is met; a slice's spare places count too). A statement '..UptoSaid' is the law's where the arguments, and the package variables that the reading takes, are together of bulk at most 1048576: NARROWER than '..Said'. Prove '..Said' where nothing that the law and all that it calls make is longer than what came in: it says more and counts as full. Else prove '..UptoSaid'. A law counts once. -/
mutual
def uptoBulk {H : Type} : DataW H → Nat
  | .lit (.string bytes) => bytes.length + 1
  | .lit _ => 1
  | .nil => 1
  | .ptr d => uptoBulk d + 1
  | .slice elems spare => uptoBulkAll elems + uptoBulkAll spare + 1
  | .agg parts => uptoBulkAll parts + 1
  | .iface _ d => uptoBulk d + 1
  | .map entries => uptoBulkEntries entries + 1
  | .held _ => 1
def uptoBulkAll {H : Type} : List (DataW H) → Nat
  | [] => 0
  | d :: r => uptoBulk d + uptoBulkAll r
def uptoBulkEntries {H : Type} : List (Lit × DataW H) → Nat
  | [] => 0
  | x :: r => uptoBulkEntry x + uptoBulkEntries r
def uptoBulkEntry {H : Type} : Lit × DataW H → Nat
  | (.string bytes, d) => bytes.length + uptoBulk d + 1
  | (_, d) => uptoBulk d + 1
 end
def uptoSmall : (H : Type) → List (DataW H) → Bool := fun _ ds => decide (uptoBulkAll ds ≤ 1048576)
def OpenSpec.upto (s : _root_.Go.ChangeSpec) : _root_.Go.OpenSpec := { _root_.Go.OpenSpec.ofChange s with cond := some uptoSmall }

/-- 'laws.FnExactCyclotomicPolynomial', WHERE WHAT IT READS IS OF BULK AT MOST 1048576: true; the input reads as it did. -/
def fnExactCyclotomicPolynomialUptoRow : OpenClaim := { program := "ytpcpfhcioeaifaa", sum := "849d2374262bc7d7bbe4ca568d5612eea0ce7d90879681325beccdabed237724", func := "loop.example/g03401/laws.FnExactCyclotomicPolynomial", spec := "fnExactCyclotomicPolynomial", unfollowed := true, recurses := true, apart := false, narrowed := true }
def FnExactCyclotomicPolynomialUptoSaid : Prop := fnExactCyclotomicPolynomialUptoRow.holds Try.pinned (OpenSpec.upto fnExactCyclotomicPolynomialSpec)

/-- 'laws.FnExactValueAtRoot', WHERE WHAT IT READS IS OF BULK AT MOST 1048576: true; the input reads as it did. -/
def fnExactValueAtRootUptoRow : OpenClaim := { program := "ytpcpfhcioeaifaa", sum := "849d2374262bc7d7bbe4ca568d5612eea0ce7d90879681325beccdabed237724", func := "loop.example/g03401/laws.FnExactValueAtRoot", spec := "fnExactValueAtRoot", unfollowed := true, recurses := true, apart := false, narrowed := true }
def FnExactValueAtRootUptoSaid : Prop := fnExactValueAtRootUptoRow.holds Try.pinned (OpenSpec.upto fnExactValueAtRootSpec)

/-- 'laws.FnExactOrderOfTurn', WHERE WHAT IT READS IS OF BULK AT MOST 1048576: true; the input reads as it did. -/
def fnExactOrderOfTurnUptoRow : OpenClaim := { program := "ytpcpfhcioeaifaa", sum := "849d2374262bc7d7bbe4ca568d5612eea0ce7d90879681325beccdabed237724", func := "loop.example/g03401/laws.FnExactOrderOfTurn", spec := "fnExactOrderOfTurn", apart := false, narrowed := true }
def FnExactOrderOfTurnUptoSaid : Prop := fnExactOrderOfTurnUptoRow.holds Try.pinned (OpenSpec.upto fnExactOrderOfTurnSpec)

/-- 'laws.FnExactFamilyNames', WHERE WHAT IT READS IS OF BULK AT MOST 1048576: true; the input reads as it did. -/
def fnExactFamilyNamesUptoRow : OpenClaim := { program := "ytpcpfhcioeaifaa", sum := "849d2374262bc7d7bbe4ca568d5612eea0ce7d90879681325beccdabed237724", func := "loop.example/g03401/laws.FnExactFamilyNames", spec := "fnExactFamilyNames", apart := false, narrowed := true }
def FnExactFamilyNamesUptoSaid : Prop := fnExactFamilyNamesUptoRow.holds Try.pinned (OpenSpec.upto fnExactFamilyNamesSpec)

end Rows
end Go.Proofs.Ytpcpfhcioeaifaa
