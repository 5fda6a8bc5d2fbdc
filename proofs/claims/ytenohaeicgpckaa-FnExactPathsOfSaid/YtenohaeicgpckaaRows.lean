/-
  No cell of these rows narrows 'for every input' (looked for: loops, veiled, ifaces, maps, wideKeys, modest, calm, conditions, laid).
  DERIVED. THE GIVEN ROWS OF THIS SEAT. 7 by the template 'for every input the law returns true; each argument reads behind the call as it read before'; 0 by the template 'total and deterministic' (their statements: YtenohaeicgpckaaTotals.lean).
  GIVEN WITH THE SEED: the statements are not yours to turn. If you find one false, say at which input.
  Laid BY PROGRAM, IN A SANDBOX (cutbox-rows.mjs): the forced cells as the released guide's own fill.sh prints them over the translation 1999a2a2cd789b13… (all of the seat's roots in one cut). By AI agents, Wed Nov 11 2026. No macro, syntax, notation, axiom, sorry.
-/
import Derived.Test.YtenohaeicgpckaaChecked
import GoSem.Claim
import GoSem.ClaimJoined
import GoSem.ClaimMapViews
import Derived.JoinedTies
import Derived.KernelRfl
namespace Go.Proofs.Ytenohaeicgpckaa
/- THE CELL 'sum', in the pinned program and in every row, IS THE sha256 OF THE DUMP (.gsa) THAT YtenohaeicgpckaaProg.lean LOADS. Nothing in Lean hashes anything: it is a label: what it is worth is what the hold of that sum in a sandbox is worth. -/
noncomputable def Try.pinned : Pinned := { name := "ytenohaeicgpckaa", sum := "1999a2a2cd789b132fd04386d57d82c13ef3c07ff8499906d37e32214ddeccf9", checked := Try.checked }
namespace Rows
def none {H : Type} : Left H := { results := [], args := [] }

/-- 'laws.FnExactCatalanNumber': WHATEVER THE INPUT: true; the input reads as it did. -/
def fnExactCatalanNumberSpec : ChangeSpec := { name := "fnExactCatalanNumber", fn := fun _ => fun
  | [d] => { results := [.lit (.bool true)], args := [d] }
  | _ => none }
def fnExactCatalanNumberRow : OpenClaim := { program := "ytenohaeicgpckaa", sum := "1999a2a2cd789b132fd04386d57d82c13ef3c07ff8499906d37e32214ddeccf9", func := "loop.example/g03401/laws.FnExactCatalanNumber", spec := "fnExactCatalanNumber", apart := false }
def FnExactCatalanNumberSaid : Prop := fnExactCatalanNumberRow.holds Try.pinned (OpenSpec.ofChange fnExactCatalanNumberSpec)

/-- ITS FALSE NEIGHBOUR: 'it returns false'. Refute it at one input. -/
def fnExactCatalanNumberWrong : ChangeSpec := { name := "fnExactCatalanNumber", fn := fun _ => fun
  | [d] => { results := [.lit (.bool false)], args := [d] }
  | _ => none }
def FnExactCatalanNumberWrongFalsely : Prop := fnExactCatalanNumberRow.holds Try.pinned (OpenSpec.ofChange fnExactCatalanNumberWrong)

/-- 'laws.FnExactBallotNumber': WHATEVER THE INPUT: true; the input reads as it did. -/
def fnExactBallotNumberSpec : ChangeSpec := { name := "fnExactBallotNumber", fn := fun _ => fun
  | [d1, d2] => { results := [.lit (.bool true)], args := [d1, d2] }
  | _ => none }
def fnExactBallotNumberRow : OpenClaim := { program := "ytenohaeicgpckaa", sum := "1999a2a2cd789b132fd04386d57d82c13ef3c07ff8499906d37e32214ddeccf9", func := "loop.example/g03401/laws.FnExactBallotNumber", spec := "fnExactBallotNumber", apart := false }
def FnExactBallotNumberSaid : Prop := fnExactBallotNumberRow.holds Try.pinned (OpenSpec.ofChange fnExactBallotNumberSpec)

/-- ITS FALSE NEIGHBOUR: 'it returns false'. Refute it at one input. -/
def fnExactBallotNumberWrong : ChangeSpec := { name := "fnExactBallotNumber", fn := fun _ => fun
  | [d1, d2] => { results := [.lit (.bool false)], args := [d1, d2] }
  | _ => none }
def FnExactBallotNumberWrongFalsely : Prop := fnExactBallotNumberRow.holds Try.pinned (OpenSpec.ofChange fnExactBallotNumberWrong)

/-- 'laws.FnExactPathsOf': WHATEVER THE INPUT: true; the input reads as it did. -/
def fnExactPathsOfSpec : ChangeSpec := { name := "fnExactPathsOf", fn := fun _ => fun
  | [d] => { results := [.lit (.bool true)], args := [d] }
  | _ => none }
def fnExactPathsOfRow : OpenClaim := { program := "ytenohaeicgpckaa", sum := "1999a2a2cd789b132fd04386d57d82c13ef3c07ff8499906d37e32214ddeccf9", func := "loop.example/g03401/laws.FnExactPathsOf", spec := "fnExactPathsOf", inPlace := ["internal/abi.NoEscape", "internal/bytealg.MakeNoZero"], recurses := true, apart := false }
def FnExactPathsOfSaid : Prop := fnExactPathsOfRow.holds Try.pinned (OpenSpec.ofChange fnExactPathsOfSpec)

/-- ITS FALSE NEIGHBOUR: 'it returns false'. Refute it at one input. -/
def fnExactPathsOfWrong : ChangeSpec := { name := "fnExactPathsOf", fn := fun _ => fun
  | [d] => { results := [.lit (.bool false)], args := [d] }
  | _ => none }
def FnExactPathsOfWrongFalsely : Prop := fnExactPathsOfRow.holds Try.pinned (OpenSpec.ofChange fnExactPathsOfWrong)

/-- 'laws.FnExactRankPath': WHATEVER THE INPUT: true; the input reads as it did. -/
def fnExactRankPathSpec : ChangeSpec := { name := "fnExactRankPath", fn := fun _ => fun
  | [d] => { results := [.lit (.bool true)], args := [d] }
  | _ => none }
def fnExactRankPathRow : OpenClaim := { program := "ytenohaeicgpckaa", sum := "1999a2a2cd789b132fd04386d57d82c13ef3c07ff8499906d37e32214ddeccf9", func := "loop.example/g03401/laws.FnExactRankPath", spec := "fnExactRankPath", apart := false }
def FnExactRankPathSaid : Prop := fnExactRankPathRow.holds Try.pinned (OpenSpec.ofChange fnExactRankPathSpec)

/-- ITS FALSE NEIGHBOUR: 'it returns false'. Refute it at one input. -/
def fnExactRankPathWrong : ChangeSpec := { name := "fnExactRankPath", fn := fun _ => fun
  | [d] => { results := [.lit (.bool false)], args := [d] }
  | _ => none }
def FnExactRankPathWrongFalsely : Prop := fnExactRankPathRow.holds Try.pinned (OpenSpec.ofChange fnExactRankPathWrong)

/-- 'laws.FnExactUnrankPath': WHATEVER THE INPUT: true; the input reads as it did. -/
def fnExactUnrankPathSpec : ChangeSpec := { name := "fnExactUnrankPath", fn := fun _ => fun
  | [d1, d2] => { results := [.lit (.bool true)], args := [d1, d2] }
  | _ => none }
def fnExactUnrankPathRow : OpenClaim := { program := "ytenohaeicgpckaa", sum := "1999a2a2cd789b132fd04386d57d82c13ef3c07ff8499906d37e32214ddeccf9", func := "loop.example/g03401/laws.FnExactUnrankPath", spec := "fnExactUnrankPath", inPlace := ["internal/abi.NoEscape"], apart := false }
def FnExactUnrankPathSaid : Prop := fnExactUnrankPathRow.holds Try.pinned (OpenSpec.ofChange fnExactUnrankPathSpec)

/-- ITS FALSE NEIGHBOUR: 'it returns false'. Refute it at one input. -/
def fnExactUnrankPathWrong : ChangeSpec := { name := "fnExactUnrankPath", fn := fun _ => fun
  | [d1, d2] => { results := [.lit (.bool false)], args := [d1, d2] }
  | _ => none }
def FnExactUnrankPathWrongFalsely : Prop := fnExactUnrankPathRow.holds Try.pinned (OpenSpec.ofChange fnExactUnrankPathWrong)

/-- 'laws.FnExactNextPath': WHATEVER THE INPUT: true; the input reads as it did. -/
def fnExactNextPathSpec : ChangeSpec := { name := "fnExactNextPath", fn := fun _ => fun
  | [d] => { results := [.lit (.bool true)], args := [d] }
  | _ => none }
def fnExactNextPathRow : OpenClaim := { program := "ytenohaeicgpckaa", sum := "1999a2a2cd789b132fd04386d57d82c13ef3c07ff8499906d37e32214ddeccf9", func := "loop.example/g03401/laws.FnExactNextPath", spec := "fnExactNextPath", inPlace := ["internal/abi.NoEscape", "internal/bytealg.MakeNoZero"], apart := false }
def FnExactNextPathSaid : Prop := fnExactNextPathRow.holds Try.pinned (OpenSpec.ofChange fnExactNextPathSpec)

/-- ITS FALSE NEIGHBOUR: 'it returns false'. Refute it at one input. -/
def fnExactNextPathWrong : ChangeSpec := { name := "fnExactNextPath", fn := fun _ => fun
  | [d] => { results := [.lit (.bool false)], args := [d] }
  | _ => none }
def FnExactNextPathWrongFalsely : Prop := fnExactNextPathRow.holds Try.pinned (OpenSpec.ofChange fnExactNextPathWrong)

/-- 'laws.FnExactNarayanaNumber': WHATEVER THE INPUT: true; the input reads as it did. -/
def fnExactNarayanaNumberSpec : ChangeSpec := { name := "fnExactNarayanaNumber", fn := fun _ => fun
  | [d1, d2] => { results := [.lit (.bool true)], args := [d1, d2] }
  | _ => none }
def fnExactNarayanaNumberRow : OpenClaim := { program := "ytenohaeicgpckaa", sum := "1999a2a2cd789b132fd04386d57d82c13ef3c07ff8499906d37e32214ddeccf9", func := "loop.example/g03401/laws.FnExactNarayanaNumber", spec := "fnExactNarayanaNumber", apart := false }
def FnExactNarayanaNumberSaid : Prop := fnExactNarayanaNumberRow.holds Try.pinned (OpenSpec.ofChange fnExactNarayanaNumberSpec)

/-- ITS FALSE NEIGHBOUR: 'it returns false'. Refute it at one input. -/
def fnExactNarayanaNumberWrong : ChangeSpec := { name := "fnExactNarayanaNumber", fn := fun _ => fun
  | [d1, d2] => { results := [.lit (.bool false)], args := [d1, d2] }
  | _ => none }
def FnExactNarayanaNumberWrongFalsely : Prop := fnExactNarayanaNumberRow.holds Try.pinned (OpenSpec.ofChange fnExactNarayanaNumberWrong)

/- THE SECOND FORM. 'bulk': how many values and letters a reading holds, each counted each time it is reached (what is shared counts as often as it is met; a slice's spare places count too). A statement '..UptoSaid' is the law's where the arguments, and the package variables that the reading takes, are together of bulk at most 1048576: NARROWER than '..Said'. Prove '..Said' where nothing that the law and all that it calls make is longer than what came in: it says more and counts as full. Else prove '..UptoSaid'. A law counts once. -/
mutual
def uptoBulk {H : Type} : DataW H → Nat
  | .lit (.string bytes) => bytes.length + 1
  | .lit _ => 1
  | .nil => 1
  | .ptr d => uptoBulk d + 1
  | .slice elems spare => uptoBulkAll elems + uptoBulkAll spare + 1
  | .agg parts => uptoBulkAll parts + 1
  | .iface _ d => uptoBulk d + 1
  | .map entries => uptoBulkEntries entries + 1
  | .held _ => 1
def uptoBulkAll {H : Type} : List (DataW H) → Nat
  | [] => 0
  | d :: r => uptoBulk d + uptoBulkAll r
def uptoBulkEntries {H : Type} : List (Lit × DataW H) → Nat
  | [] => 0
  | x :: r => uptoBulkEntry x + uptoBulkEntries r
def uptoBulkEntry {H : Type} : Lit × DataW H → Nat
  | (.string bytes, d) => bytes.length + uptoBulk d + 1
  | (_, d) => uptoBulk d + 1
 end
def uptoSmall : (H : Type) → List (DataW H) → Bool := fun _ ds => decide (uptoBulkAll ds ≤ 1048576)
def OpenSpec.upto (s : _root_.Go.ChangeSpec) : _root_.Go.OpenSpec := { _root_.Go.OpenSpec.ofChange s with cond := some uptoSmall }

/-- 'laws.FnExactCatalanNumber', WHERE WHAT IT READS IS OF BULK AT MOST 1048576: true; the input reads as it did. -/
def fnExactCatalanNumberUptoRow : OpenClaim := { program := "ytenohaeicgpckaa", sum := "1999a2a2cd789b132fd04386d57d82c13ef3c07ff8499906d37e32214ddeccf9", func := "loop.example/g03401/laws.FnExactCatalanNumber", spec := "fnExactCatalanNumber", apart := false, narrowed := true }
def FnExactCatalanNumberUptoSaid : Prop := fnExactCatalanNumberUptoRow.holds Try.pinned (OpenSpec.upto fnExactCatalanNumberSpec)

/-- 'laws.FnExactBallotNumber', WHERE WHAT IT READS IS OF BULK AT MOST 1048576: true; the input reads as it did. -/
def fnExactBallotNumberUptoRow : OpenClaim := { program := "ytenohaeicgpckaa", sum := "1999a2a2cd789b132fd04386d57d82c13ef3c07ff8499906d37e32214ddeccf9", func := "loop.example/g03401/laws.FnExactBallotNumber", spec := "fnExactBallotNumber", apart := false, narrowed := true }
def FnExactBallotNumberUptoSaid : Prop := fnExactBallotNumberUptoRow.holds Try.pinned (OpenSpec.upto fnExactBallotNumberSpec)

/-- 'laws.FnExactPathsOf', WHERE WHAT IT READS IS OF BULK AT MOST 1048576: true; the input reads as it did. -/
def fnExactPathsOfUptoRow : OpenClaim := { program := "ytenohaeicgpckaa", sum := "1999a2a2cd789b132fd04386d57d82c13ef3c07ff8499906d37e32214ddeccf9", func := "loop.example/g03401/laws.FnExactPathsOf", spec := "fnExactPathsOf", inPlace := ["internal/abi.NoEscape", "internal/bytealg.MakeNoZero"], recurses := true, apart := false, narrowed := true }
def FnExactPathsOfUptoSaid : Prop := fnExactPathsOfUptoRow.holds Try.pinned (OpenSpec.upto fnExactPathsOfSpec)

/-- 'laws.FnExactRankPath', WHERE WHAT IT READS IS OF BULK AT MOST 1048576: true; the input reads as it did. -/
def fnExactRankPathUptoRow : OpenClaim := { program := "ytenohaeicgpckaa", sum := "1999a2a2cd789b132fd04386d57d82c13ef3c07ff8499906d37e32214ddeccf9", func := "loop.example/g03401/laws.FnExactRankPath", spec := "fnExactRankPath", apart := false, narrowed := true }
def FnExactRankPathUptoSaid : Prop := fnExactRankPathUptoRow.holds Try.pinned (OpenSpec.upto fnExactRankPathSpec)

/-- 'laws.FnExactUnrankPath', WHERE WHAT IT READS IS OF BULK AT MOST 1048576: true; the input reads as it did. -/
def fnExactUnrankPathUptoRow : OpenClaim := { program := "ytenohaeicgpckaa", sum := "1999a2a2cd789b132fd04386d57d82c13ef3c07ff8499906d37e32214ddeccf9", func := "loop.example/g03401/laws.FnExactUnrankPath", spec := "fnExactUnrankPath", inPlace := ["internal/abi.NoEscape"], apart := false, narrowed := true }
def FnExactUnrankPathUptoSaid : Prop := fnExactUnrankPathUptoRow.holds Try.pinned (OpenSpec.upto fnExactUnrankPathSpec)

/-- 'laws.FnExactNextPath', WHERE WHAT IT READS IS OF BULK AT MOST 1048576: true; the input reads as it did. -/
def fnExactNextPathUptoRow : OpenClaim := { program := "ytenohaeicgpckaa", sum := "1999a2a2cd789b132fd04386d57d82c13ef3c07ff8499906d37e32214ddeccf9", func := "loop.example/g03401/laws.FnExactNextPath", spec := "fnExactNextPath", inPlace := ["internal/abi.NoEscape", "internal/bytealg.MakeNoZero"], apart := false, narrowed := true }
def FnExactNextPathUptoSaid : Prop := fnExactNextPathUptoRow.holds Try.pinned (OpenSpec.upto fnExactNextPathSpec)

/-- 'laws.FnExactNarayanaNumber', WHERE WHAT IT READS IS OF BULK AT MOST 1048576: true; the input reads as it did. -/
def fnExactNarayanaNumberUptoRow : OpenClaim := { program := "ytenohaeicgpckaa", sum := "1999a2a2cd789b132fd04386d57d82c13ef3c07ff8499906d37e32214ddeccf9", func := "loop.example/g03401/laws.FnExactNarayanaNumber", spec := "fnExactNarayanaNumber", apart := false, narrowed := true }
def FnExactNarayanaNumberUptoSaid : Prop := fnExactNarayanaNumberUptoRow.holds Try.pinned (OpenSpec.upto fnExactNarayanaNumberSpec)

end Rows
end Go.Proofs.Ytenohaeicgpckaa
