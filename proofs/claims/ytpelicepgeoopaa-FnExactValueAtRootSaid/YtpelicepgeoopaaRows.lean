/-
  No cell of these rows narrows 'for every input' (looked for: loops, veiled, ifaces, maps, wideKeys, modest, calm, conditions, laid).
  DERIVED. THE GIVEN ROWS OF THIS SEAT. 5 by the template 'for every input the law returns true; each argument reads behind the call as it read before'; 0 by the template 'total and deterministic' (their statements: YtpelicepgeoopaaTotals.lean).
  GIVEN WITH THE SEED: the statements are not yours to turn. If you find one false, say at which input.
  Laid BY PROGRAM, IN A SANDBOX (cutbox-rows.mjs): the forced cells as the released guide's own fill.sh prints them over the translation d1f80644c74ec2f0… (all of the seat's roots in one cut). By AI agents, Wed Nov 11 2026. No macro, syntax, notation, axiom, sorry.
-/
import Derived.Test.YtpelicepgeoopaaChecked
import GoSem.Claim
import GoSem.ClaimJoined
import GoSem.ClaimMapViews
import Derived.JoinedTies
import Derived.KernelRfl
namespace Go.Proofs.Ytpelicepgeoopaa
/- THE CELL 'sum', in the pinned program and in every row, IS THE sha256 OF THE DUMP (.gsa) THAT YtpelicepgeoopaaProg.lean LOADS. Nothing in Lean hashes anything: it is a label: what it is worth is what the hold of that sum in a sandbox is worth. -/
noncomputable def Try.pinned : Pinned := { name := "ytpelicepgeoopaa", sum := "d1f80644c74ec2f0a08441a2da9269cf1f50b223281249119017caffed22ead4", checked := Try.checked }
namespace Rows
def none {H : Type} : Left H := { results := [], args := [] }

/-- 'laws.FnExactBinomialPolynomial': WHATEVER THE INPUT: true; the input reads as it did. -/
def fnExactBinomialPolynomialSpec : ChangeSpec := { name := "fnExactBinomialPolynomial", fn := fun _ => fun
  | [d1, d2] => { results := [.lit (.bool true)], args := [d1, d2] }
  | _ => none }
def fnExactBinomialPolynomialRow : OpenClaim := { program := "ytpelicepgeoopaa", sum := "d1f80644c74ec2f0a08441a2da9269cf1f50b223281249119017caffed22ead4", func := "loop.example/g03401/laws.FnExactBinomialPolynomial", spec := "fnExactBinomialPolynomial", unfollowed := true, recurses := true, apart := false }
def FnExactBinomialPolynomialSaid : Prop := fnExactBinomialPolynomialRow.holds Try.pinned (OpenSpec.ofChange fnExactBinomialPolynomialSpec)

/-- ITS FALSE NEIGHBOUR: 'it returns false'. Refute it at one input. -/
def fnExactBinomialPolynomialWrong : ChangeSpec := { name := "fnExactBinomialPolynomial", fn := fun _ => fun
  | [d1, d2] => { results := [.lit (.bool false)], args := [d1, d2] }
  | _ => none }
def FnExactBinomialPolynomialWrongFalsely : Prop := fnExactBinomialPolynomialRow.holds Try.pinned (OpenSpec.ofChange fnExactBinomialPolynomialWrong)

/-- 'laws.FnExactCatalanPolynomial': WHATEVER THE INPUT: true; the input reads as it did. -/
def fnExactCatalanPolynomialSpec : ChangeSpec := { name := "fnExactCatalanPolynomial", fn := fun _ => fun
  | [d] => { results := [.lit (.bool true)], args := [d] }
  | _ => none }
def fnExactCatalanPolynomialRow : OpenClaim := { program := "ytpelicepgeoopaa", sum := "d1f80644c74ec2f0a08441a2da9269cf1f50b223281249119017caffed22ead4", func := "loop.example/g03401/laws.FnExactCatalanPolynomial", spec := "fnExactCatalanPolynomial", unfollowed := true, recurses := true, apart := false }
def FnExactCatalanPolynomialSaid : Prop := fnExactCatalanPolynomialRow.holds Try.pinned (OpenSpec.ofChange fnExactCatalanPolynomialSpec)

/-- ITS FALSE NEIGHBOUR: 'it returns false'. Refute it at one input. -/
def fnExactCatalanPolynomialWrong : ChangeSpec := { name := "fnExactCatalanPolynomial", fn := fun _ => fun
  | [d] => { results := [.lit (.bool false)], args := [d] }
  | _ => none }
def FnExactCatalanPolynomialWrongFalsely : Prop := fnExactCatalanPolynomialRow.holds Try.pinned (OpenSpec.ofChange fnExactCatalanPolynomialWrong)

/-- 'laws.FnExactAreaPolynomial': WHATEVER THE INPUT: true; the input reads as it did. -/
def fnExactAreaPolynomialSpec : ChangeSpec := { name := "fnExactAreaPolynomial", fn := fun _ => fun
  | [d] => { results := [.lit (.bool true)], args := [d] }
  | _ => none }
def fnExactAreaPolynomialRow : OpenClaim := { program := "ytpelicepgeoopaa", sum := "d1f80644c74ec2f0a08441a2da9269cf1f50b223281249119017caffed22ead4", func := "loop.example/g03401/laws.FnExactAreaPolynomial", spec := "fnExactAreaPolynomial", inPlace := ["internal/abi.NoEscape", "internal/bytealg.MakeNoZero"], unfollowed := true, recurses := true, apart := false }
def FnExactAreaPolynomialSaid : Prop := fnExactAreaPolynomialRow.holds Try.pinned (OpenSpec.ofChange fnExactAreaPolynomialSpec)

/-- ITS FALSE NEIGHBOUR: 'it returns false'. Refute it at one input. -/
def fnExactAreaPolynomialWrong : ChangeSpec := { name := "fnExactAreaPolynomial", fn := fun _ => fun
  | [d] => { results := [.lit (.bool false)], args := [d] }
  | _ => none }
def FnExactAreaPolynomialWrongFalsely : Prop := fnExactAreaPolynomialRow.holds Try.pinned (OpenSpec.ofChange fnExactAreaPolynomialWrong)

/-- 'laws.FnExactCyclotomicPolynomial': WHATEVER THE INPUT: true; the input reads as it did. -/
def fnExactCyclotomicPolynomialSpec : ChangeSpec := { name := "fnExactCyclotomicPolynomial", fn := fun _ => fun
  | [d] => { results := [.lit (.bool true)], args := [d] }
  | _ => none }
def fnExactCyclotomicPolynomialRow : OpenClaim := { program := "ytpelicepgeoopaa", sum := "d1f80644c74ec2f0a08441a2da9269cf1f50b223281249119017caffed22ead4", func := "loop.example/g03401/laws.FnExactCyclotomicPolynomial", spec := "fnExactCyclotomicPolynomial", unfollowed := true, recurses := true, apart := false }
def FnExactCyclotomicPolynomialSaid : Prop := fnExactCyclotomicPolynomialRow.holds Try.pinned (OpenSpec.ofChange fnExactCyclotomicPolynomialSpec)

/-- ITS FALSE NEIGHBOUR: 'it returns false'. Refute it at one input. -/
def fnExactCyclotomicPolynomialWrong : ChangeSpec := { name := "fnExactCyclotomicPolynomial", fn := fun _ => fun
  | [d] => { results := [.lit (.bool false)], args := [d] }
  | _ => none }
def FnExactCyclotomicPolynomialWrongFalsely : Prop := fnExactCyclotomicPolynomialRow.holds Try.pinned (OpenSpec.ofChange fnExactCyclotomicPolynomialWrong)

/-- 'laws.FnExactValueAtRoot': WHATEVER THE INPUT: true; the input reads as it did. -/
def fnExactValueAtRootSpec : ChangeSpec := { name := "fnExactValueAtRoot", fn := fun _ => fun
  | [d1, d2] => { results := [.lit (.bool true)], args := [d1, d2] }
  | _ => none }
def fnExactValueAtRootRow : OpenClaim := { program := "ytpelicepgeoopaa", sum := "d1f80644c74ec2f0a08441a2da9269cf1f50b223281249119017caffed22ead4", func := "loop.example/g03401/laws.FnExactValueAtRoot", spec := "fnExactValueAtRoot", unfollowed := true, recurses := true, apart := false }
def FnExactValueAtRootSaid : Prop := fnExactValueAtRootRow.holds Try.pinned (OpenSpec.ofChange fnExactValueAtRootSpec)

/-- ITS FALSE NEIGHBOUR: 'it returns false'. Refute it at one input. -/
def fnExactValueAtRootWrong : ChangeSpec := { name := "fnExactValueAtRoot", fn := fun _ => fun
  | [d1, d2] => { results := [.lit (.bool false)], args := [d1, d2] }
  | _ => none }
def FnExactValueAtRootWrongFalsely : Prop := fnExactValueAtRootRow.holds Try.pinned (OpenSpec.ofChange fnExactValueAtRootWrong)

/- THE SECOND FORM. 'bulk': how many values and letters a reading holds, each counted each time it is reached (what is shared counts as often as it is met; a slice's spare places count too). A statement '..UptoSaid' is the law's where the arguments, and the package variables that the reading takes, are together of bulk at most 1048576: NARROWER than '..Said'. Prove '..Said' where nothing that the law and all that it calls make is longer than what came in: it says more and counts as full. Else prove '..UptoSaid'. A law counts once. -/
mutual
def uptoBulk {H : Type} : DataW H → Nat
  | .lit (.string bytes) => bytes.length + 1
  | .lit _ => 1
  | .nil => 1
  | .ptr d => uptoBulk d + 1
  | .slice elems spare => uptoBulkAll elems + uptoBulkAll spare + 1
  | .agg parts => uptoBulkAll parts + 1
  | .iface _ d => uptoBulk d + 1
  | .map entries => uptoBulkEntries entries + 1
  | .held _ => 1
def uptoBulkAll {H : Type} : List (DataW H) → Nat
  | [] => 0
  | d :: r => uptoBulk d + uptoBulkAll r
def uptoBulkEntries {H : Type} : List (Lit × DataW H) → Nat
  | [] => 0
  | x :: r => uptoBulkEntry x + uptoBulkEntries r
def uptoBulkEntry {H : Type} : Lit × DataW H → Nat
  | (.string bytes, d) => bytes.length + uptoBulk d + 1
  | (_, d) => uptoBulk d + 1
 end
def uptoSmall : (H : Type) → List (DataW H) → Bool := fun _ ds => decide (uptoBulkAll ds ≤ 1048576)
def OpenSpec.upto (s : _root_.Go.ChangeSpec) : _root_.Go.OpenSpec := { _root_.Go.OpenSpec.ofChange s with cond := some uptoSmall }

/-- 'laws.FnExactBinomialPolynomial', WHERE WHAT IT READS IS OF BULK AT MOST 1048576: true; the input reads as it did. -/
def fnExactBinomialPolynomialUptoRow : OpenClaim := { program := "ytpelicepgeoopaa", sum := "d1f80644c74ec2f0a08441a2da9269cf1f50b223281249119017caffed22ead4", func := "loop.example/g03401/laws.FnExactBinomialPolynomial", spec := "fnExactBinomialPolynomial", unfollowed := true, recurses := true, apart := false, narrowed := true }
def FnExactBinomialPolynomialUptoSaid : Prop := fnExactBinomialPolynomialUptoRow.holds Try.pinned (OpenSpec.upto fnExactBinomialPolynomialSpec)

/-- 'laws.FnExactCatalanPolynomial', WHERE WHAT IT READS IS OF BULK AT MOST 1048576: true; the input reads as it did. -/
def fnExactCatalanPolynomialUptoRow : OpenClaim := { program := "ytpelicepgeoopaa", sum := "d1f80644c74ec2f0a08441a2da9269cf1f50b223281249119017caffed22ead4", func := "loop.example/g03401/laws.FnExactCatalanPolynomial", spec := "fnExactCatalanPolynomial", unfollowed := true, recurses := true, apart := false, narrowed := true }
def FnExactCatalanPolynomialUptoSaid : Prop := fnExactCatalanPolynomialUptoRow.holds Try.pinned (OpenSpec.upto fnExactCatalanPolynomialSpec)

/-- 'laws.FnExactAreaPolynomial', WHERE WHAT IT READS IS OF BULK AT MOST 1048576: true; the input reads as it did. -/
def fnExactAreaPolynomialUptoRow : OpenClaim := { program := "ytpelicepgeoopaa", sum := "d1f80644c74ec2f0a08441a2da9269cf1f50b223281249119017caffed22ead4", func := "loop.example/g03401/laws.FnExactAreaPolynomial", spec := "fnExactAreaPolynomial", inPlace := ["internal/abi.NoEscape", "internal/bytealg.MakeNoZero"], unfollowed := true, recurses := true, apart := false, narrowed := true }
def FnExactAreaPolynomialUptoSaid : Prop := fnExactAreaPolynomialUptoRow.holds Try.pinned (OpenSpec.upto fnExactAreaPolynomialSpec)

/-- 'laws.FnExactCyclotomicPolynomial', WHERE WHAT IT READS IS OF BULK AT MOST 1048576: true; the input reads as it did. -/
def fnExactCyclotomicPolynomialUptoRow : OpenClaim := { program := "ytpelicepgeoopaa", sum := "d1f80644c74ec2f0a08441a2da9269cf1f50b223281249119017caffed22ead4", func := "loop.example/g03401/laws.FnExactCyclotomicPolynomial", spec := "fnExactCyclotomicPolynomial", unfollowed := true, recurses := true, apart := false, narrowed := true }
def FnExactCyclotomicPolynomialUptoSaid : Prop := fnExactCyclotomicPolynomialUptoRow.holds Try.pinned (OpenSpec.upto fnExactCyclotomicPolynomialSpec)

/-- 'laws.FnExactValueAtRoot', WHERE WHAT IT READS IS OF BULK AT MOST 1048576: true; the input reads as it did. -/
def fnExactValueAtRootUptoRow : OpenClaim := { program := "ytpelicepgeoopaa", sum := "d1f80644c74ec2f0a08441a2da9269cf1f50b223281249119017caffed22ead4", func := "loop.example/g03401/laws.FnExactValueAtRoot", spec := "fnExactValueAtRoot", unfollowed := true, recurses := true, apart := false, narrowed := true }
def FnExactValueAtRootUptoSaid : Prop := fnExactValueAtRootUptoRow.holds Try.pinned (OpenSpec.upto fnExactValueAtRootSpec)

end Rows
end Go.Proofs.Ytpelicepgeoopaa
