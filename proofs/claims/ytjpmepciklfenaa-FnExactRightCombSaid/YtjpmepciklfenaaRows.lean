/-
  No cell of these rows narrows 'for every input' (looked for: loops, veiled, ifaces, maps, wideKeys, modest, calm, conditions, laid).
  DERIVED. THE GIVEN ROWS OF THIS SEAT. 9 by the template 'for every input the law returns true; each argument reads behind the call as it read before'; 0 by the template 'total and deterministic' (their statements: YtjpmepciklfenaaTotals.lean).
  GIVEN WITH THE SEED: the statements are not yours to turn. If you find one false, say at which input.
  Laid BY PROGRAM, IN A SANDBOX (cutbox-rows.mjs): the forced cells as the released guide's own fill.sh prints them over the translation 7d34f3a4f1c289f6… (all of the seat's roots in one cut). By AI agents, Wed Nov 11 2026. No macro, syntax, notation, axiom, sorry.
-/
import Derived.Test.YtjpmepciklfenaaChecked
import GoSem.Claim
import GoSem.ClaimJoined
import GoSem.ClaimMapViews
import Derived.JoinedTies
import Derived.KernelRfl
namespace Go.Proofs.Ytjpmepciklfenaa
/- THE CELL 'sum', in the pinned program and in every row, IS THE sha256 OF THE DUMP (.gsa) THAT YtjpmepciklfenaaProg.lean LOADS. Nothing in Lean hashes anything: it is a label: what it is worth is what the hold of that sum in a sandbox is worth. -/
noncomputable def Try.pinned : Pinned := { name := "ytjpmepciklfenaa", sum := "7d34f3a4f1c289f6b66d3fe1882a62a2f54a8c9c4b5548f06b1b25402b824f4f", checked := Try.checked }
namespace Rows
def none {H : Type} : Left H := { results := [], args := [] }

/-- 'laws.FnExactRotateRight': WHATEVER THE INPUT: true; the input reads as it did. -/
def fnExactRotateRightSpec : ChangeSpec := { name := "fnExactRotateRight", fn := fun _ => fun
  | [d1, d2] => { results := [.lit (.bool true)], args := [d1, d2] }
  | _ => none }
def fnExactRotateRightRow : OpenClaim := { program := "ytjpmepciklfenaa", sum := "7d34f3a4f1c289f6b66d3fe1882a62a2f54a8c9c4b5548f06b1b25402b824f4f", func := "loop.example/g03401/laws.FnExactRotateRight", spec := "fnExactRotateRight", unfollowed := true, recurses := true, apart := false }
def FnExactRotateRightSaid : Prop := fnExactRotateRightRow.holds Try.pinned (OpenSpec.ofChange fnExactRotateRightSpec)

/-- ITS FALSE NEIGHBOUR: 'it returns false'. Refute it at one input. -/
def fnExactRotateRightWrong : ChangeSpec := { name := "fnExactRotateRight", fn := fun _ => fun
  | [d1, d2] => { results := [.lit (.bool false)], args := [d1, d2] }
  | _ => none }
def FnExactRotateRightWrongFalsely : Prop := fnExactRotateRightRow.holds Try.pinned (OpenSpec.ofChange fnExactRotateRightWrong)

/-- 'laws.FnExactRotateLeft': WHATEVER THE INPUT: true; the input reads as it did. -/
def fnExactRotateLeftSpec : ChangeSpec := { name := "fnExactRotateLeft", fn := fun _ => fun
  | [d1, d2] => { results := [.lit (.bool true)], args := [d1, d2] }
  | _ => none }
def fnExactRotateLeftRow : OpenClaim := { program := "ytjpmepciklfenaa", sum := "7d34f3a4f1c289f6b66d3fe1882a62a2f54a8c9c4b5548f06b1b25402b824f4f", func := "loop.example/g03401/laws.FnExactRotateLeft", spec := "fnExactRotateLeft", unfollowed := true, recurses := true, apart := false }
def FnExactRotateLeftSaid : Prop := fnExactRotateLeftRow.holds Try.pinned (OpenSpec.ofChange fnExactRotateLeftSpec)

/-- ITS FALSE NEIGHBOUR: 'it returns false'. Refute it at one input. -/
def fnExactRotateLeftWrong : ChangeSpec := { name := "fnExactRotateLeft", fn := fun _ => fun
  | [d1, d2] => { results := [.lit (.bool false)], args := [d1, d2] }
  | _ => none }
def FnExactRotateLeftWrongFalsely : Prop := fnExactRotateLeftRow.holds Try.pinned (OpenSpec.ofChange fnExactRotateLeftWrong)

/-- 'laws.FnExactNodeAt': WHATEVER THE INPUT: true; the input reads as it did. -/
def fnExactNodeAtSpec : ChangeSpec := { name := "fnExactNodeAt", fn := fun _ => fun
  | [d1, d2] => { results := [.lit (.bool true)], args := [d1, d2] }
  | _ => none }
def fnExactNodeAtRow : OpenClaim := { program := "ytjpmepciklfenaa", sum := "7d34f3a4f1c289f6b66d3fe1882a62a2f54a8c9c4b5548f06b1b25402b824f4f", func := "loop.example/g03401/laws.FnExactNodeAt", spec := "fnExactNodeAt", unfollowed := true, recurses := true, apart := false }
def FnExactNodeAtSaid : Prop := fnExactNodeAtRow.holds Try.pinned (OpenSpec.ofChange fnExactNodeAtSpec)

/-- ITS FALSE NEIGHBOUR: 'it returns false'. Refute it at one input. -/
def fnExactNodeAtWrong : ChangeSpec := { name := "fnExactNodeAt", fn := fun _ => fun
  | [d1, d2] => { results := [.lit (.bool false)], args := [d1, d2] }
  | _ => none }
def FnExactNodeAtWrongFalsely : Prop := fnExactNodeAtRow.holds Try.pinned (OpenSpec.ofChange fnExactNodeAtWrong)

/-- 'laws.FnExactCountRight': WHATEVER THE INPUT: true; the input reads as it did. -/
def fnExactCountRightSpec : ChangeSpec := { name := "fnExactCountRight", fn := fun _ => fun
  | [d] => { results := [.lit (.bool true)], args := [d] }
  | _ => none }
def fnExactCountRightRow : OpenClaim := { program := "ytjpmepciklfenaa", sum := "7d34f3a4f1c289f6b66d3fe1882a62a2f54a8c9c4b5548f06b1b25402b824f4f", func := "loop.example/g03401/laws.FnExactCountRight", spec := "fnExactCountRight", inPlace := ["internal/bytealg.CountString", "internal/bytealg.IndexByteString", "internal/bytealg.IndexString"], unfollowed := true, recurses := true, named := ["internal/bytealg.MaxLen"], apart := false }
def FnExactCountRightSaid : Prop := fnExactCountRightRow.holds Try.pinned (OpenSpec.ofChange fnExactCountRightSpec)

/-- ITS FALSE NEIGHBOUR: 'it returns false'. Refute it at one input. -/
def fnExactCountRightWrong : ChangeSpec := { name := "fnExactCountRight", fn := fun _ => fun
  | [d] => { results := [.lit (.bool false)], args := [d] }
  | _ => none }
def FnExactCountRightWrongFalsely : Prop := fnExactCountRightRow.holds Try.pinned (OpenSpec.ofChange fnExactCountRightWrong)

/-- 'laws.FnExactNeighboursOf': WHATEVER THE INPUT: true; the input reads as it did. -/
def fnExactNeighboursOfSpec : ChangeSpec := { name := "fnExactNeighboursOf", fn := fun _ => fun
  | [d] => { results := [.lit (.bool true)], args := [d] }
  | _ => none }
def fnExactNeighboursOfRow : OpenClaim := { program := "ytjpmepciklfenaa", sum := "7d34f3a4f1c289f6b66d3fe1882a62a2f54a8c9c4b5548f06b1b25402b824f4f", func := "loop.example/g03401/laws.FnExactNeighboursOf", spec := "fnExactNeighboursOf", inPlace := ["internal/bytealg.CountString", "internal/bytealg.IndexByteString", "internal/bytealg.IndexString"], unfollowed := true, recurses := true, named := ["internal/bytealg.MaxLen"], apart := false }
def FnExactNeighboursOfSaid : Prop := fnExactNeighboursOfRow.holds Try.pinned (OpenSpec.ofChange fnExactNeighboursOfSpec)

/-- ITS FALSE NEIGHBOUR: 'it returns false'. Refute it at one input. -/
def fnExactNeighboursOfWrong : ChangeSpec := { name := "fnExactNeighboursOf", fn := fun _ => fun
  | [d] => { results := [.lit (.bool false)], args := [d] }
  | _ => none }
def FnExactNeighboursOfWrongFalsely : Prop := fnExactNeighboursOfRow.holds Try.pinned (OpenSpec.ofChange fnExactNeighboursOfWrong)

/-- 'laws.FnExactRightComb': WHATEVER THE INPUT: true; the input reads as it did. -/
def fnExactRightCombSpec : ChangeSpec := { name := "fnExactRightComb", fn := fun _ => fun
  | [d] => { results := [.lit (.bool true)], args := [d] }
  | _ => none }
def fnExactRightCombRow : OpenClaim := { program := "ytjpmepciklfenaa", sum := "7d34f3a4f1c289f6b66d3fe1882a62a2f54a8c9c4b5548f06b1b25402b824f4f", func := "loop.example/g03401/laws.FnExactRightComb", spec := "fnExactRightComb", inPlace := ["internal/abi.NoEscape", "internal/bytealg.MakeNoZero"], apart := false }
def FnExactRightCombSaid : Prop := fnExactRightCombRow.holds Try.pinned (OpenSpec.ofChange fnExactRightCombSpec)

/-- ITS FALSE NEIGHBOUR: 'it returns false'. Refute it at one input. -/
def fnExactRightCombWrong : ChangeSpec := { name := "fnExactRightComb", fn := fun _ => fun
  | [d] => { results := [.lit (.bool false)], args := [d] }
  | _ => none }
def FnExactRightCombWrongFalsely : Prop := fnExactRightCombRow.holds Try.pinned (OpenSpec.ofChange fnExactRightCombWrong)

/-- 'laws.FnExactLeftComb': WHATEVER THE INPUT: true; the input reads as it did. -/
def fnExactLeftCombSpec : ChangeSpec := { name := "fnExactLeftComb", fn := fun _ => fun
  | [d] => { results := [.lit (.bool true)], args := [d] }
  | _ => none }
def fnExactLeftCombRow : OpenClaim := { program := "ytjpmepciklfenaa", sum := "7d34f3a4f1c289f6b66d3fe1882a62a2f54a8c9c4b5548f06b1b25402b824f4f", func := "loop.example/g03401/laws.FnExactLeftComb", spec := "fnExactLeftComb", inPlace := ["internal/abi.NoEscape", "internal/bytealg.MakeNoZero"], unfollowed := true, recurses := true, apart := false }
def FnExactLeftCombSaid : Prop := fnExactLeftCombRow.holds Try.pinned (OpenSpec.ofChange fnExactLeftCombSpec)

/-- ITS FALSE NEIGHBOUR: 'it returns false'. Refute it at one input. -/
def fnExactLeftCombWrong : ChangeSpec := { name := "fnExactLeftComb", fn := fun _ => fun
  | [d] => { results := [.lit (.bool false)], args := [d] }
  | _ => none }
def FnExactLeftCombWrongFalsely : Prop := fnExactLeftCombRow.holds Try.pinned (OpenSpec.ofChange fnExactLeftCombWrong)

/-- 'laws.FnExactWeightsOf': WHATEVER THE INPUT: true; the input reads as it did. -/
def fnExactWeightsOfSpec : ChangeSpec := { name := "fnExactWeightsOf", fn := fun _ => fun
  | [d] => { results := [.lit (.bool true)], args := [d] }
  | _ => none }
def fnExactWeightsOfRow : OpenClaim := { program := "ytjpmepciklfenaa", sum := "7d34f3a4f1c289f6b66d3fe1882a62a2f54a8c9c4b5548f06b1b25402b824f4f", func := "loop.example/g03401/laws.FnExactWeightsOf", spec := "fnExactWeightsOf", recurses := true, apart := false }
def FnExactWeightsOfSaid : Prop := fnExactWeightsOfRow.holds Try.pinned (OpenSpec.ofChange fnExactWeightsOfSpec)

/-- ITS FALSE NEIGHBOUR: 'it returns false'. Refute it at one input. -/
def fnExactWeightsOfWrong : ChangeSpec := { name := "fnExactWeightsOf", fn := fun _ => fun
  | [d] => { results := [.lit (.bool false)], args := [d] }
  | _ => none }
def FnExactWeightsOfWrongFalsely : Prop := fnExactWeightsOfRow.holds Try.pinned (OpenSpec.ofChange fnExactWeightsOfWrong)

/-- 'laws.FnExactBinaryOfWeights': WHATEVER THE INPUT: true; the input reads as it did. -/
def fnExactBinaryOfWeightsSpec : ChangeSpec := { name := "fnExactBinaryOfWeights", fn := fun _ => fun
  | [d] => { results := [.lit (.bool true)], args := [d] }
  | _ => none }
def fnExactBinaryOfWeightsRow : OpenClaim := { program := "ytjpmepciklfenaa", sum := "7d34f3a4f1c289f6b66d3fe1882a62a2f54a8c9c4b5548f06b1b25402b824f4f", func := "loop.example/g03401/laws.FnExactBinaryOfWeights", spec := "fnExactBinaryOfWeights", unfollowed := true, recurses := true, apart := false }
def FnExactBinaryOfWeightsSaid : Prop := fnExactBinaryOfWeightsRow.holds Try.pinned (OpenSpec.ofChange fnExactBinaryOfWeightsSpec)

/-- ITS FALSE NEIGHBOUR: 'it returns false'. Refute it at one input. -/
def fnExactBinaryOfWeightsWrong : ChangeSpec := { name := "fnExactBinaryOfWeights", fn := fun _ => fun
  | [d] => { results := [.lit (.bool false)], args := [d] }
  | _ => none }
def FnExactBinaryOfWeightsWrongFalsely : Prop := fnExactBinaryOfWeightsRow.holds Try.pinned (OpenSpec.ofChange fnExactBinaryOfWeightsWrong)

/- THE SECOND FORM. 'bulk': how many values and letters a reading holds, each counted each time it is reached (what is shared counts as often as it is met; a slice's spare places count too). A statement '..UptoSaid' is the law's where the arguments, and the package variables that the reading takes, are together of bulk at most 1048576: NARROWER than '..Said'. Prove '..Said' where nothing that the law and all that it calls make is longer than what came in: it says more and counts as full. Else prove '..UptoSaid'. A law counts once. -/
mutual
def uptoBulk {H : Type} : DataW H → Nat
  | .lit (.string bytes) => bytes.length + 1
  | .lit _ => 1
  | .nil => 1
  | .ptr d => uptoBulk d + 1
  | .slice elems spare => uptoBulkAll elems + uptoBulkAll spare + 1
  | .agg parts => uptoBulkAll parts + 1
  | .iface _ d => uptoBulk d + 1
  | .map entries => uptoBulkEntries entries + 1
  | .held _ => 1
def uptoBulkAll {H : Type} : List (DataW H) → Nat
  | [] => 0
  | d :: r => uptoBulk d + uptoBulkAll r
def uptoBulkEntries {H : Type} : List (Lit × DataW H) → Nat
  | [] => 0
  | x :: r => uptoBulkEntry x + uptoBulkEntries r
def uptoBulkEntry {H : Type} : Lit × DataW H → Nat
  | (.string bytes, d) => bytes.length + uptoBulk d + 1
  | (_, d) => uptoBulk d + 1
 end
def uptoSmall : (H : Type) → List (DataW H) → Bool := fun _ ds => decide (uptoBulkAll ds ≤ 1048576)
def OpenSpec.upto (s : _root_.Go.ChangeSpec) : _root_.Go.OpenSpec := { _root_.Go.OpenSpec.ofChange s with cond := some uptoSmall }

/-- 'laws.FnExactRotateRight', WHERE WHAT IT READS IS OF BULK AT MOST 1048576: true; the input reads as it did. -/
def fnExactRotateRightUptoRow : OpenClaim := { program := "ytjpmepciklfenaa", sum := "7d34f3a4f1c289f6b66d3fe1882a62a2f54a8c9c4b5548f06b1b25402b824f4f", func := "loop.example/g03401/laws.FnExactRotateRight", spec := "fnExactRotateRight", unfollowed := true, recurses := true, apart := false, narrowed := true }
def FnExactRotateRightUptoSaid : Prop := fnExactRotateRightUptoRow.holds Try.pinned (OpenSpec.upto fnExactRotateRightSpec)

/-- 'laws.FnExactRotateLeft', WHERE WHAT IT READS IS OF BULK AT MOST 1048576: true; the input reads as it did. -/
def fnExactRotateLeftUptoRow : OpenClaim := { program := "ytjpmepciklfenaa", sum := "7d34f3a4f1c289f6b66d3fe1882a62a2f54a8c9c4b5548f06b1b25402b824f4f", func := "loop.example/g03401/laws.FnExactRotateLeft", spec := "fnExactRotateLeft", unfollowed := true, recurses := true, apart := false, narrowed := true }
def FnExactRotateLeftUptoSaid : Prop := fnExactRotateLeftUptoRow.holds Try.pinned (OpenSpec.upto fnExactRotateLeftSpec)

/-- 'laws.FnExactNodeAt', WHERE WHAT IT READS IS OF BULK AT MOST 1048576: true; the input reads as it did. -/
def fnExactNodeAtUptoRow : OpenClaim := { program := "ytjpmepciklfenaa", sum := "7d34f3a4f1c289f6b66d3fe1882a62a2f54a8c9c4b5548f06b1b25402b824f4f", func := "loop.example/g03401/laws.FnExactNodeAt", spec := "fnExactNodeAt", unfollowed := true, recurses := true, apart := false, narrowed := true }
def FnExactNodeAtUptoSaid : Prop := fnExactNodeAtUptoRow.holds Try.pinned (OpenSpec.upto fnExactNodeAtSpec)

/-- 'laws.FnExactCountRight', WHERE WHAT IT READS IS OF BULK AT MOST 1048576: true; the input reads as it did. -/
def fnExactCountRightUptoRow : OpenClaim := { program := "ytjpmepciklfenaa", sum := "7d34f3a4f1c289f6b66d3fe1882a62a2f54a8c9c4b5548f06b1b25402b824f4f", func := "loop.example/g03401/laws.FnExactCountRight", spec := "fnExactCountRight", inPlace := ["internal/bytealg.CountString", "internal/bytealg.IndexByteString", "internal/bytealg.IndexString"], unfollowed := true, recurses := true, named := ["internal/bytealg.MaxLen"], apart := false, narrowed := true }
def FnExactCountRightUptoSaid : Prop := fnExactCountRightUptoRow.holds Try.pinned (OpenSpec.upto fnExactCountRightSpec)

/-- 'laws.FnExactNeighboursOf', WHERE WHAT IT READS IS OF BULK AT MOST 1048576: true; the input reads as it did. -/
def fnExactNeighboursOfUptoRow : OpenClaim := { program := "ytjpmepciklfenaa", sum := "7d34f3a4f1c289f6b66d3fe1882a62a2f54a8c9c4b5548f06b1b25402b824f4f", func := "loop.example/g03401/laws.FnExactNeighboursOf", spec := "fnExactNeighboursOf", inPlace := ["internal/bytealg.CountString", "internal/bytealg.IndexByteString", "internal/bytealg.IndexString"], unfollowed := true, recurses := true, named := ["internal/bytealg.MaxLen"], apart := false, narrowed := true }
def FnExactNeighboursOfUptoSaid : Prop := fnExactNeighboursOfUptoRow.holds Try.pinned (OpenSpec.upto fnExactNeighboursOfSpec)

/-- 'laws.FnExactRightComb', WHERE WHAT IT READS IS OF BULK AT MOST 1048576: true; the input reads as it did. -/
def fnExactRightCombUptoRow : OpenClaim := { program := "ytjpmepciklfenaa", sum := "7d34f3a4f1c289f6b66d3fe1882a62a2f54a8c9c4b5548f06b1b25402b824f4f", func := "loop.example/g03401/laws.FnExactRightComb", spec := "fnExactRightComb", inPlace := ["internal/abi.NoEscape", "internal/bytealg.MakeNoZero"], apart := false, narrowed := true }
def FnExactRightCombUptoSaid : Prop := fnExactRightCombUptoRow.holds Try.pinned (OpenSpec.upto fnExactRightCombSpec)

/-- 'laws.FnExactLeftComb', WHERE WHAT IT READS IS OF BULK AT MOST 1048576: true; the input reads as it did. -/
def fnExactLeftCombUptoRow : OpenClaim := { program := "ytjpmepciklfenaa", sum := "7d34f3a4f1c289f6b66d3fe1882a62a2f54a8c9c4b5548f06b1b25402b824f4f", func := "loop.example/g03401/laws.FnExactLeftComb", spec := "fnExactLeftComb", inPlace := ["internal/abi.NoEscape", "internal/bytealg.MakeNoZero"], unfollowed := true, recurses := true, apart := false, narrowed := true }
def FnExactLeftCombUptoSaid : Prop := fnExactLeftCombUptoRow.holds Try.pinned (OpenSpec.upto fnExactLeftCombSpec)

/-- 'laws.FnExactWeightsOf', WHERE WHAT IT READS IS OF BULK AT MOST 1048576: true; the input reads as it did. -/
def fnExactWeightsOfUptoRow : OpenClaim := { program := "ytjpmepciklfenaa", sum := "7d34f3a4f1c289f6b66d3fe1882a62a2f54a8c9c4b5548f06b1b25402b824f4f", func := "loop.example/g03401/laws.FnExactWeightsOf", spec := "fnExactWeightsOf", recurses := true, apart := false, narrowed := true }
def FnExactWeightsOfUptoSaid : Prop := fnExactWeightsOfUptoRow.holds Try.pinned (OpenSpec.upto fnExactWeightsOfSpec)

/-- 'laws.FnExactBinaryOfWeights', WHERE WHAT IT READS IS OF BULK AT MOST 1048576: true; the input reads as it did. -/
def fnExactBinaryOfWeightsUptoRow : OpenClaim := { program := "ytjpmepciklfenaa", sum := "7d34f3a4f1c289f6b66d3fe1882a62a2f54a8c9c4b5548f06b1b25402b824f4f", func := "loop.example/g03401/laws.FnExactBinaryOfWeights", spec := "fnExactBinaryOfWeights", unfollowed := true, recurses := true, apart := false, narrowed := true }
def FnExactBinaryOfWeightsUptoSaid : Prop := fnExactBinaryOfWeightsUptoRow.holds Try.pinned (OpenSpec.upto fnExactBinaryOfWeightsSpec)

end Rows
end Go.Proofs.Ytjpmepciklfenaa
