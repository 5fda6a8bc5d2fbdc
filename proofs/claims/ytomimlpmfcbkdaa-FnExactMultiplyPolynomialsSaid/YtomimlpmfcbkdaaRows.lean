/-
  No cell of these rows narrows 'for every input' (looked for: loops, veiled, ifaces, maps, wideKeys, modest, calm, conditions, laid).
  DERIVED. THE GIVEN ROWS OF THIS SEAT. 7 by the template 'for every input the law returns true; each argument reads behind the call as it read before'; 0 by the template 'total and deterministic' (their statements: YtomimlpmfcbkdaaTotals.lean).
  GIVEN WITH THE SEED: the statements are not yours to turn. If you find one false, say at which input.
  Laid BY PROGRAM, IN A SANDBOX (cutbox-rows.mjs): the forced cells as the released guide's own fill.sh prints them over the translation 6aa35c856a0cb952… (all of the seat's roots in one cut). By AI agents, Wed Nov 11 2026. No macro, syntax, notation, axiom, sorry.
-/
import Derived.Test.YtomimlpmfcbkdaaChecked
import GoSem.Claim
import GoSem.ClaimJoined
import GoSem.ClaimMapViews
import Derived.JoinedTies
import Derived.KernelRfl
namespace Go.Proofs.Ytomimlpmfcbkdaa
/- THE CELL 'sum', in the pinned program and in every row, IS THE sha256 OF THE DUMP (.gsa) THAT YtomimlpmfcbkdaaProg.lean LOADS. Nothing in Lean hashes anything: it is a label: what it is worth is what the hold of that sum in a sandbox is worth. -/
noncomputable def Try.pinned : Pinned := { name := "ytomimlpmfcbkdaa", sum := "6aa35c856a0cb95299d4fa77e6fc9a36741953936e15f866dc1373ce38aaf8f4", checked := Try.checked }
namespace Rows
def none {H : Type} : Left H := { results := [], args := [] }

/-- 'laws.FnExactAddPolynomials': WHATEVER THE INPUT: true; the input reads as it did. -/
def fnExactAddPolynomialsSpec : ChangeSpec := { name := "fnExactAddPolynomials", fn := fun _ => fun
  | [d1, d2] => { results := [.lit (.bool true)], args := [d1, d2] }
  | _ => none }
def fnExactAddPolynomialsRow : OpenClaim := { program := "ytomimlpmfcbkdaa", sum := "6aa35c856a0cb95299d4fa77e6fc9a36741953936e15f866dc1373ce38aaf8f4", func := "loop.example/g03401/laws.FnExactAddPolynomials", spec := "fnExactAddPolynomials", unfollowed := true, recurses := true, apart := false }
def FnExactAddPolynomialsSaid : Prop := fnExactAddPolynomialsRow.holds Try.pinned (OpenSpec.ofChange fnExactAddPolynomialsSpec)

/-- ITS FALSE NEIGHBOUR: 'it returns false'. Refute it at one input. -/
def fnExactAddPolynomialsWrong : ChangeSpec := { name := "fnExactAddPolynomials", fn := fun _ => fun
  | [d1, d2] => { results := [.lit (.bool false)], args := [d1, d2] }
  | _ => none }
def FnExactAddPolynomialsWrongFalsely : Prop := fnExactAddPolynomialsRow.holds Try.pinned (OpenSpec.ofChange fnExactAddPolynomialsWrong)

/-- 'laws.FnExactMultiplyPolynomials': WHATEVER THE INPUT: true; the input reads as it did. -/
def fnExactMultiplyPolynomialsSpec : ChangeSpec := { name := "fnExactMultiplyPolynomials", fn := fun _ => fun
  | [d1, d2] => { results := [.lit (.bool true)], args := [d1, d2] }
  | _ => none }
def fnExactMultiplyPolynomialsRow : OpenClaim := { program := "ytomimlpmfcbkdaa", sum := "6aa35c856a0cb95299d4fa77e6fc9a36741953936e15f866dc1373ce38aaf8f4", func := "loop.example/g03401/laws.FnExactMultiplyPolynomials", spec := "fnExactMultiplyPolynomials", unfollowed := true, recurses := true, apart := false }
def FnExactMultiplyPolynomialsSaid : Prop := fnExactMultiplyPolynomialsRow.holds Try.pinned (OpenSpec.ofChange fnExactMultiplyPolynomialsSpec)

/-- ITS FALSE NEIGHBOUR: 'it returns false'. Refute it at one input. -/
def fnExactMultiplyPolynomialsWrong : ChangeSpec := { name := "fnExactMultiplyPolynomials", fn := fun _ => fun
  | [d1, d2] => { results := [.lit (.bool false)], args := [d1, d2] }
  | _ => none }
def FnExactMultiplyPolynomialsWrongFalsely : Prop := fnExactMultiplyPolynomialsRow.holds Try.pinned (OpenSpec.ofChange fnExactMultiplyPolynomialsWrong)

/-- 'laws.FnExactDividePolynomials': WHATEVER THE INPUT: true; the input reads as it did. -/
def fnExactDividePolynomialsSpec : ChangeSpec := { name := "fnExactDividePolynomials", fn := fun _ => fun
  | [d1, d2] => { results := [.lit (.bool true)], args := [d1, d2] }
  | _ => none }
def fnExactDividePolynomialsRow : OpenClaim := { program := "ytomimlpmfcbkdaa", sum := "6aa35c856a0cb95299d4fa77e6fc9a36741953936e15f866dc1373ce38aaf8f4", func := "loop.example/g03401/laws.FnExactDividePolynomials", spec := "fnExactDividePolynomials", unfollowed := true, recurses := true, apart := false }
def FnExactDividePolynomialsSaid : Prop := fnExactDividePolynomialsRow.holds Try.pinned (OpenSpec.ofChange fnExactDividePolynomialsSpec)

/-- ITS FALSE NEIGHBOUR: 'it returns false'. Refute it at one input. -/
def fnExactDividePolynomialsWrong : ChangeSpec := { name := "fnExactDividePolynomials", fn := fun _ => fun
  | [d1, d2] => { results := [.lit (.bool false)], args := [d1, d2] }
  | _ => none }
def FnExactDividePolynomialsWrongFalsely : Prop := fnExactDividePolynomialsRow.holds Try.pinned (OpenSpec.ofChange fnExactDividePolynomialsWrong)

/-- 'laws.FnExactValueAt': WHATEVER THE INPUT: true; the input reads as it did. -/
def fnExactValueAtSpec : ChangeSpec := { name := "fnExactValueAt", fn := fun _ => fun
  | [d1, d2] => { results := [.lit (.bool true)], args := [d1, d2] }
  | _ => none }
def fnExactValueAtRow : OpenClaim := { program := "ytomimlpmfcbkdaa", sum := "6aa35c856a0cb95299d4fa77e6fc9a36741953936e15f866dc1373ce38aaf8f4", func := "loop.example/g03401/laws.FnExactValueAt", spec := "fnExactValueAt", unfollowed := true, recurses := true, apart := false }
def FnExactValueAtSaid : Prop := fnExactValueAtRow.holds Try.pinned (OpenSpec.ofChange fnExactValueAtSpec)

/-- ITS FALSE NEIGHBOUR: 'it returns false'. Refute it at one input. -/
def fnExactValueAtWrong : ChangeSpec := { name := "fnExactValueAt", fn := fun _ => fun
  | [d1, d2] => { results := [.lit (.bool false)], args := [d1, d2] }
  | _ => none }
def FnExactValueAtWrongFalsely : Prop := fnExactValueAtRow.holds Try.pinned (OpenSpec.ofChange fnExactValueAtWrong)

/-- 'laws.FnExactNumberPolynomial': WHATEVER THE INPUT: true; the input reads as it did. -/
def fnExactNumberPolynomialSpec : ChangeSpec := { name := "fnExactNumberPolynomial", fn := fun _ => fun
  | [d] => { results := [.lit (.bool true)], args := [d] }
  | _ => none }
def fnExactNumberPolynomialRow : OpenClaim := { program := "ytomimlpmfcbkdaa", sum := "6aa35c856a0cb95299d4fa77e6fc9a36741953936e15f866dc1373ce38aaf8f4", func := "loop.example/g03401/laws.FnExactNumberPolynomial", spec := "fnExactNumberPolynomial", apart := false }
def FnExactNumberPolynomialSaid : Prop := fnExactNumberPolynomialRow.holds Try.pinned (OpenSpec.ofChange fnExactNumberPolynomialSpec)

/-- ITS FALSE NEIGHBOUR: 'it returns false'. Refute it at one input. -/
def fnExactNumberPolynomialWrong : ChangeSpec := { name := "fnExactNumberPolynomial", fn := fun _ => fun
  | [d] => { results := [.lit (.bool false)], args := [d] }
  | _ => none }
def FnExactNumberPolynomialWrongFalsely : Prop := fnExactNumberPolynomialRow.holds Try.pinned (OpenSpec.ofChange fnExactNumberPolynomialWrong)

/-- 'laws.FnExactBinomialPolynomial': WHATEVER THE INPUT: true; the input reads as it did. -/
def fnExactBinomialPolynomialSpec : ChangeSpec := { name := "fnExactBinomialPolynomial", fn := fun _ => fun
  | [d1, d2] => { results := [.lit (.bool true)], args := [d1, d2] }
  | _ => none }
def fnExactBinomialPolynomialRow : OpenClaim := { program := "ytomimlpmfcbkdaa", sum := "6aa35c856a0cb95299d4fa77e6fc9a36741953936e15f866dc1373ce38aaf8f4", func := "loop.example/g03401/laws.FnExactBinomialPolynomial", spec := "fnExactBinomialPolynomial", unfollowed := true, recurses := true, apart := false }
def FnExactBinomialPolynomialSaid : Prop := fnExactBinomialPolynomialRow.holds Try.pinned (OpenSpec.ofChange fnExactBinomialPolynomialSpec)

/-- ITS FALSE NEIGHBOUR: 'it returns false'. Refute it at one input. -/
def fnExactBinomialPolynomialWrong : ChangeSpec := { name := "fnExactBinomialPolynomial", fn := fun _ => fun
  | [d1, d2] => { results := [.lit (.bool false)], args := [d1, d2] }
  | _ => none }
def FnExactBinomialPolynomialWrongFalsely : Prop := fnExactBinomialPolynomialRow.holds Try.pinned (OpenSpec.ofChange fnExactBinomialPolynomialWrong)

/-- 'laws.FnExactCatalanPolynomial': WHATEVER THE INPUT: true; the input reads as it did. -/
def fnExactCatalanPolynomialSpec : ChangeSpec := { name := "fnExactCatalanPolynomial", fn := fun _ => fun
  | [d] => { results := [.lit (.bool true)], args := [d] }
  | _ => none }
def fnExactCatalanPolynomialRow : OpenClaim := { program := "ytomimlpmfcbkdaa", sum := "6aa35c856a0cb95299d4fa77e6fc9a36741953936e15f866dc1373ce38aaf8f4", func := "loop.example/g03401/laws.FnExactCatalanPolynomial", spec := "fnExactCatalanPolynomial", unfollowed := true, recurses := true, apart := false }
def FnExactCatalanPolynomialSaid : Prop := fnExactCatalanPolynomialRow.holds Try.pinned (OpenSpec.ofChange fnExactCatalanPolynomialSpec)

/-- ITS FALSE NEIGHBOUR: 'it returns false'. Refute it at one input. -/
def fnExactCatalanPolynomialWrong : ChangeSpec := { name := "fnExactCatalanPolynomial", fn := fun _ => fun
  | [d] => { results := [.lit (.bool false)], args := [d] }
  | _ => none }
def FnExactCatalanPolynomialWrongFalsely : Prop := fnExactCatalanPolynomialRow.holds Try.pinned (OpenSpec.ofChange fnExactCatalanPolynomialWrong)

/- THE SECOND FORM. 'bulk': how many values and letters a reading holds, each counted each time it is reached (what is shared counts as often as it is met; a slice's spare places count too). A statement '..UptoSaid' is the law's where the arguments, and the package variables that the reading takes, are together of bulk at most 1048576: NARROWER than '..Said'. Prove '..Said' where nothing that the law and all that it calls make is longer than what came in: it says more and counts as full. Else prove '..UptoSaid'. A law counts once. -/
mutual
def uptoBulk {H : Type} : DataW H → Nat
  | .lit (.string bytes) => bytes.length + 1
  | .lit _ => 1
  | .nil => 1
  | .ptr d => uptoBulk d + 1
  | .slice elems spare => uptoBulkAll elems + uptoBulkAll spare + 1
  | .agg parts => uptoBulkAll parts + 1
  | .iface _ d => uptoBulk d + 1
  | .map entries => uptoBulkEntries entries + 1
  | .held _ => 1
def uptoBulkAll {H : Type} : List (DataW H) → Nat
  | [] => 0
  | d :: r => uptoBulk d + uptoBulkAll r
def uptoBulkEntries {H : Type} : List (Lit × DataW H) → Nat
  | [] => 0
  | x :: r => uptoBulkEntry x + uptoBulkEntries r
def uptoBulkEntry {H : Type} : Lit × DataW H → Nat
  | (.string bytes, d) => bytes.length + uptoBulk d + 1
  | (_, d) => uptoBulk d + 1
 end
def uptoSmall : (H : Type) → List (DataW H) → Bool := fun _ ds => decide (uptoBulkAll ds ≤ 1048576)
def OpenSpec.upto (s : _root_.Go.ChangeSpec) : _root_.Go.OpenSpec := { _root_.Go.OpenSpec.ofChange s with cond := some uptoSmall }

/-- 'laws.FnExactAddPolynomials', WHERE WHAT IT READS IS OF BULK AT MOST 1048576: true; the input reads as it did. -/
def fnExactAddPolynomialsUptoRow : OpenClaim := { program := "ytomimlpmfcbkdaa", sum := "6aa35c856a0cb95299d4fa77e6fc9a36741953936e15f866dc1373ce38aaf8f4", func := "loop.example/g03401/laws.FnExactAddPolynomials", spec := "fnExactAddPolynomials", unfollowed := true, recurses := true, apart := false, narrowed := true }
def FnExactAddPolynomialsUptoSaid : Prop := fnExactAddPolynomialsUptoRow.holds Try.pinned (OpenSpec.upto fnExactAddPolynomialsSpec)

/-- 'laws.FnExactMultiplyPolynomials', WHERE WHAT IT READS IS OF BULK AT MOST 1048576: true; the input reads as it did. -/
def fnExactMultiplyPolynomialsUptoRow : OpenClaim := { program := "ytomimlpmfcbkdaa", sum := "6aa35c856a0cb95299d4fa77e6fc9a36741953936e15f866dc1373ce38aaf8f4", func := "loop.example/g03401/laws.FnExactMultiplyPolynomials", spec := "fnExactMultiplyPolynomials", unfollowed := true, recurses := true, apart := false, narrowed := true }
def FnExactMultiplyPolynomialsUptoSaid : Prop := fnExactMultiplyPolynomialsUptoRow.holds Try.pinned (OpenSpec.upto fnExactMultiplyPolynomialsSpec)

/-- 'laws.FnExactDividePolynomials', WHERE WHAT IT READS IS OF BULK AT MOST 1048576: true; the input reads as it did. -/
def fnExactDividePolynomialsUptoRow : OpenClaim := { program := "ytomimlpmfcbkdaa", sum := "6aa35c856a0cb95299d4fa77e6fc9a36741953936e15f866dc1373ce38aaf8f4", func := "loop.example/g03401/laws.FnExactDividePolynomials", spec := "fnExactDividePolynomials", unfollowed := true, recurses := true, apart := false, narrowed := true }
def FnExactDividePolynomialsUptoSaid : Prop := fnExactDividePolynomialsUptoRow.holds Try.pinned (OpenSpec.upto fnExactDividePolynomialsSpec)

/-- 'laws.FnExactValueAt', WHERE WHAT IT READS IS OF BULK AT MOST 1048576: true; the input reads as it did. -/
def fnExactValueAtUptoRow : OpenClaim := { program := "ytomimlpmfcbkdaa", sum := "6aa35c856a0cb95299d4fa77e6fc9a36741953936e15f866dc1373ce38aaf8f4", func := "loop.example/g03401/laws.FnExactValueAt", spec := "fnExactValueAt", unfollowed := true, recurses := true, apart := false, narrowed := true }
def FnExactValueAtUptoSaid : Prop := fnExactValueAtUptoRow.holds Try.pinned (OpenSpec.upto fnExactValueAtSpec)

/-- 'laws.FnExactNumberPolynomial', WHERE WHAT IT READS IS OF BULK AT MOST 1048576: true; the input reads as it did. -/
def fnExactNumberPolynomialUptoRow : OpenClaim := { program := "ytomimlpmfcbkdaa", sum := "6aa35c856a0cb95299d4fa77e6fc9a36741953936e15f866dc1373ce38aaf8f4", func := "loop.example/g03401/laws.FnExactNumberPolynomial", spec := "fnExactNumberPolynomial", apart := false, narrowed := true }
def FnExactNumberPolynomialUptoSaid : Prop := fnExactNumberPolynomialUptoRow.holds Try.pinned (OpenSpec.upto fnExactNumberPolynomialSpec)

/-- 'laws.FnExactBinomialPolynomial', WHERE WHAT IT READS IS OF BULK AT MOST 1048576: true; the input reads as it did. -/
def fnExactBinomialPolynomialUptoRow : OpenClaim := { program := "ytomimlpmfcbkdaa", sum := "6aa35c856a0cb95299d4fa77e6fc9a36741953936e15f866dc1373ce38aaf8f4", func := "loop.example/g03401/laws.FnExactBinomialPolynomial", spec := "fnExactBinomialPolynomial", unfollowed := true, recurses := true, apart := false, narrowed := true }
def FnExactBinomialPolynomialUptoSaid : Prop := fnExactBinomialPolynomialUptoRow.holds Try.pinned (OpenSpec.upto fnExactBinomialPolynomialSpec)

/-- 'laws.FnExactCatalanPolynomial', WHERE WHAT IT READS IS OF BULK AT MOST 1048576: true; the input reads as it did. -/
def fnExactCatalanPolynomialUptoRow : OpenClaim := { program := "ytomimlpmfcbkdaa", sum := "6aa35c856a0cb95299d4fa77e6fc9a36741953936e15f866dc1373ce38aaf8f4", func := "loop.example/g03401/laws.FnExactCatalanPolynomial", spec := "fnExactCatalanPolynomial", unfollowed := true, recurses := true, apart := false, narrowed := true }
def FnExactCatalanPolynomialUptoSaid : Prop := fnExactCatalanPolynomialUptoRow.holds Try.pinned (OpenSpec.upto fnExactCatalanPolynomialSpec)

end Rows
end Go.Proofs.Ytomimlpmfcbkdaa
