/-
  No cell of these rows narrows 'for every input' (looked for: loops, veiled, ifaces, maps, wideKeys, modest, calm, conditions, laid).
  DERIVED. THE GIVEN ROWS OF THIS SEAT. 9 by the template 'for every input the law returns true; each argument reads behind the call as it read before'; 0 by the template 'total and deterministic' (their statements: YtbbbnnkkjgikbaaTotals.lean).
  GIVEN WITH THE SEED: the statements are not yours to turn. If you find one false, say at which input.
  Laid BY PROGRAM, IN A SANDBOX (cutbox-rows.mjs): the forced cells as the released guide's own fill.sh prints them over the translation 2f4c168ce4e21b6c… (all of the seat's roots in one cut). By AI agents, Wed Nov 11 2026. No macro, syntax, notation, axiom, sorry.
-/
import Derived.Test.YtbbbnnkkjgikbaaChecked
import GoSem.Claim
import GoSem.ClaimJoined
import GoSem.ClaimMapViews
import Derived.JoinedTies
import Derived.KernelRfl
namespace Go.Proofs.Ytbbbnnkkjgikbaa
/- THE CELL 'sum', in the pinned program and in every row, IS THE sha256 OF THE DUMP (.gsa) THAT YtbbbnnkkjgikbaaProg.lean LOADS. Nothing in Lean hashes anything: it is a label: what it is worth is what the hold of that sum in a sandbox is worth. -/
noncomputable def Try.pinned : Pinned := { name := "ytbbbnnkkjgikbaa", sum := "2f4c168ce4e21b6cbe9964a58bfc81cbb2c5df65a50e97dac814206e606f279b", checked := Try.checked }
namespace Rows
def none {H : Type} : Left H := { results := [], args := [] }

/-- 'laws.FnRotations': WHATEVER THE INPUT: true; the input reads as it did. -/
def fnRotationsSpec : ChangeSpec := { name := "fnRotations", fn := fun _ => fun
  | [d] => { results := [.lit (.bool true)], args := [d] }
  | _ => none }
def fnRotationsRow : OpenClaim := { program := "ytbbbnnkkjgikbaa", sum := "2f4c168ce4e21b6cbe9964a58bfc81cbb2c5df65a50e97dac814206e606f279b", func := "loop.example/g03401/laws.FnRotations", spec := "fnRotations", inPlace := ["internal/bytealg.CountString", "internal/bytealg.IndexByteString", "internal/bytealg.IndexString", "internal/abi.NoEscape", "internal/bytealg.MakeNoZero"], unfollowed := true, recurses := true, named := ["internal/bytealg.MaxLen"], leaving := true, apart := false }
def FnRotationsSaid : Prop := fnRotationsRow.holds Try.pinned (OpenSpec.ofChange fnRotationsSpec)

/-- ITS FALSE NEIGHBOUR: 'it returns false'. Refute it at one input. -/
def fnRotationsWrong : ChangeSpec := { name := "fnRotations", fn := fun _ => fun
  | [d] => { results := [.lit (.bool false)], args := [d] }
  | _ => none }
def FnRotationsWrongFalsely : Prop := fnRotationsRow.holds Try.pinned (OpenSpec.ofChange fnRotationsWrong)

/-- 'laws.FnExactIsTamariLess': WHATEVER THE INPUT: true; the input reads as it did. -/
def fnExactIsTamariLessSpec : ChangeSpec := { name := "fnExactIsTamariLess", fn := fun _ => fun
  | [d1, d2] => { results := [.lit (.bool true)], args := [d1, d2] }
  | _ => none }
def fnExactIsTamariLessRow : OpenClaim := { program := "ytbbbnnkkjgikbaa", sum := "2f4c168ce4e21b6cbe9964a58bfc81cbb2c5df65a50e97dac814206e606f279b", func := "loop.example/g03401/laws.FnExactIsTamariLess", spec := "fnExactIsTamariLess", inPlace := ["internal/bytealg.CountString", "internal/bytealg.IndexByteString", "internal/bytealg.IndexString"], recurses := true, named := ["internal/bytealg.MaxLen"], apart := false }
def FnExactIsTamariLessSaid : Prop := fnExactIsTamariLessRow.holds Try.pinned (OpenSpec.ofChange fnExactIsTamariLessSpec)

/-- ITS FALSE NEIGHBOUR: 'it returns false'. Refute it at one input. -/
def fnExactIsTamariLessWrong : ChangeSpec := { name := "fnExactIsTamariLess", fn := fun _ => fun
  | [d1, d2] => { results := [.lit (.bool false)], args := [d1, d2] }
  | _ => none }
def FnExactIsTamariLessWrongFalsely : Prop := fnExactIsTamariLessRow.holds Try.pinned (OpenSpec.ofChange fnExactIsTamariLessWrong)

/-- 'laws.FnExactTamariMeet': WHATEVER THE INPUT: true; the input reads as it did. -/
def fnExactTamariMeetSpec : ChangeSpec := { name := "fnExactTamariMeet", fn := fun _ => fun
  | [d1, d2] => { results := [.lit (.bool true)], args := [d1, d2] }
  | _ => none }
def fnExactTamariMeetRow : OpenClaim := { program := "ytbbbnnkkjgikbaa", sum := "2f4c168ce4e21b6cbe9964a58bfc81cbb2c5df65a50e97dac814206e606f279b", func := "loop.example/g03401/laws.FnExactTamariMeet", spec := "fnExactTamariMeet", inPlace := ["internal/bytealg.CountString", "internal/bytealg.IndexByteString", "internal/bytealg.IndexString"], unfollowed := true, recurses := true, named := ["internal/bytealg.MaxLen"], leaving := true, apart := false }
def FnExactTamariMeetSaid : Prop := fnExactTamariMeetRow.holds Try.pinned (OpenSpec.ofChange fnExactTamariMeetSpec)

/-- ITS FALSE NEIGHBOUR: 'it returns false'. Refute it at one input. -/
def fnExactTamariMeetWrong : ChangeSpec := { name := "fnExactTamariMeet", fn := fun _ => fun
  | [d1, d2] => { results := [.lit (.bool false)], args := [d1, d2] }
  | _ => none }
def FnExactTamariMeetWrongFalsely : Prop := fnExactTamariMeetRow.holds Try.pinned (OpenSpec.ofChange fnExactTamariMeetWrong)

/-- 'laws.FnExactTamariJoin': WHATEVER THE INPUT: true; the input reads as it did. -/
def fnExactTamariJoinSpec : ChangeSpec := { name := "fnExactTamariJoin", fn := fun _ => fun
  | [d1, d2] => { results := [.lit (.bool true)], args := [d1, d2] }
  | _ => none }
def fnExactTamariJoinRow : OpenClaim := { program := "ytbbbnnkkjgikbaa", sum := "2f4c168ce4e21b6cbe9964a58bfc81cbb2c5df65a50e97dac814206e606f279b", func := "loop.example/g03401/laws.FnExactTamariJoin", spec := "fnExactTamariJoin", inPlace := ["internal/bytealg.CountString", "internal/bytealg.IndexByteString", "internal/bytealg.IndexString"], unfollowed := true, recurses := true, named := ["internal/bytealg.MaxLen"], leaving := true, apart := false }
def FnExactTamariJoinSaid : Prop := fnExactTamariJoinRow.holds Try.pinned (OpenSpec.ofChange fnExactTamariJoinSpec)

/-- ITS FALSE NEIGHBOUR: 'it returns false'. Refute it at one input. -/
def fnExactTamariJoinWrong : ChangeSpec := { name := "fnExactTamariJoin", fn := fun _ => fun
  | [d1, d2] => { results := [.lit (.bool false)], args := [d1, d2] }
  | _ => none }
def FnExactTamariJoinWrongFalsely : Prop := fnExactTamariJoinRow.holds Try.pinned (OpenSpec.ofChange fnExactTamariJoinWrong)

/-- 'laws.FnExactCountIntervals': WHATEVER THE INPUT: true; the input reads as it did. -/
def fnExactCountIntervalsSpec : ChangeSpec := { name := "fnExactCountIntervals", fn := fun _ => fun
  | [d] => { results := [.lit (.bool true)], args := [d] }
  | _ => none }
def fnExactCountIntervalsRow : OpenClaim := { program := "ytbbbnnkkjgikbaa", sum := "2f4c168ce4e21b6cbe9964a58bfc81cbb2c5df65a50e97dac814206e606f279b", func := "loop.example/g03401/laws.FnExactCountIntervals", spec := "fnExactCountIntervals", inPlace := ["internal/abi.NoEscape", "internal/bytealg.MakeNoZero", "internal/bytealg.CountString", "internal/bytealg.IndexByteString", "internal/bytealg.IndexString"], unfollowed := true, recurses := true, named := ["internal/bytealg.MaxLen"], leaving := true, apart := false }
def FnExactCountIntervalsSaid : Prop := fnExactCountIntervalsRow.holds Try.pinned (OpenSpec.ofChange fnExactCountIntervalsSpec)

/-- ITS FALSE NEIGHBOUR: 'it returns false'. Refute it at one input. -/
def fnExactCountIntervalsWrong : ChangeSpec := { name := "fnExactCountIntervals", fn := fun _ => fun
  | [d] => { results := [.lit (.bool false)], args := [d] }
  | _ => none }
def FnExactCountIntervalsWrongFalsely : Prop := fnExactCountIntervalsRow.holds Try.pinned (OpenSpec.ofChange fnExactCountIntervalsWrong)

/-- 'laws.FnExactIntervalFormula': WHATEVER THE INPUT: true; the input reads as it did. -/
def fnExactIntervalFormulaSpec : ChangeSpec := { name := "fnExactIntervalFormula", fn := fun _ => fun
  | [d] => { results := [.lit (.bool true)], args := [d] }
  | _ => none }
def fnExactIntervalFormulaRow : OpenClaim := { program := "ytbbbnnkkjgikbaa", sum := "2f4c168ce4e21b6cbe9964a58bfc81cbb2c5df65a50e97dac814206e606f279b", func := "loop.example/g03401/laws.FnExactIntervalFormula", spec := "fnExactIntervalFormula", apart := false }
def FnExactIntervalFormulaSaid : Prop := fnExactIntervalFormulaRow.holds Try.pinned (OpenSpec.ofChange fnExactIntervalFormulaSpec)

/-- ITS FALSE NEIGHBOUR: 'it returns false'. Refute it at one input. -/
def fnExactIntervalFormulaWrong : ChangeSpec := { name := "fnExactIntervalFormula", fn := fun _ => fun
  | [d] => { results := [.lit (.bool false)], args := [d] }
  | _ => none }
def FnExactIntervalFormulaWrongFalsely : Prop := fnExactIntervalFormulaRow.holds Try.pinned (OpenSpec.ofChange fnExactIntervalFormulaWrong)

/-- 'laws.FnExactIntervalSize': WHATEVER THE INPUT: true; the input reads as it did. -/
def fnExactIntervalSizeSpec : ChangeSpec := { name := "fnExactIntervalSize", fn := fun _ => fun
  | [d1, d2] => { results := [.lit (.bool true)], args := [d1, d2] }
  | _ => none }
def fnExactIntervalSizeRow : OpenClaim := { program := "ytbbbnnkkjgikbaa", sum := "2f4c168ce4e21b6cbe9964a58bfc81cbb2c5df65a50e97dac814206e606f279b", func := "loop.example/g03401/laws.FnExactIntervalSize", spec := "fnExactIntervalSize", inPlace := ["internal/bytealg.CountString", "internal/bytealg.IndexByteString", "internal/bytealg.IndexString", "internal/abi.NoEscape", "internal/bytealg.MakeNoZero"], unfollowed := true, recurses := true, named := ["internal/bytealg.MaxLen"], leaving := true, apart := false }
def FnExactIntervalSizeSaid : Prop := fnExactIntervalSizeRow.holds Try.pinned (OpenSpec.ofChange fnExactIntervalSizeSpec)

/-- ITS FALSE NEIGHBOUR: 'it returns false'. Refute it at one input. -/
def fnExactIntervalSizeWrong : ChangeSpec := { name := "fnExactIntervalSize", fn := fun _ => fun
  | [d1, d2] => { results := [.lit (.bool false)], args := [d1, d2] }
  | _ => none }
def FnExactIntervalSizeWrongFalsely : Prop := fnExactIntervalSizeRow.holds Try.pinned (OpenSpec.ofChange fnExactIntervalSizeWrong)

/-- 'laws.FnExactLongestChain': WHATEVER THE INPUT: true; the input reads as it did. -/
def fnExactLongestChainSpec : ChangeSpec := { name := "fnExactLongestChain", fn := fun _ => fun
  | [d1, d2] => { results := [.lit (.bool true)], args := [d1, d2] }
  | _ => none }
def fnExactLongestChainRow : OpenClaim := { program := "ytbbbnnkkjgikbaa", sum := "2f4c168ce4e21b6cbe9964a58bfc81cbb2c5df65a50e97dac814206e606f279b", func := "loop.example/g03401/laws.FnExactLongestChain", spec := "fnExactLongestChain", inPlace := ["internal/bytealg.CountString", "internal/bytealg.IndexByteString", "internal/bytealg.IndexString"], unfollowed := true, recurses := true, named := ["internal/bytealg.MaxLen"], leaving := true, apart := false }
def FnExactLongestChainSaid : Prop := fnExactLongestChainRow.holds Try.pinned (OpenSpec.ofChange fnExactLongestChainSpec)

/-- ITS FALSE NEIGHBOUR: 'it returns false'. Refute it at one input. -/
def fnExactLongestChainWrong : ChangeSpec := { name := "fnExactLongestChain", fn := fun _ => fun
  | [d1, d2] => { results := [.lit (.bool false)], args := [d1, d2] }
  | _ => none }
def FnExactLongestChainWrongFalsely : Prop := fnExactLongestChainRow.holds Try.pinned (OpenSpec.ofChange fnExactLongestChainWrong)

/-- 'laws.FnExactShortestChain': WHATEVER THE INPUT: true; the input reads as it did. -/
def fnExactShortestChainSpec : ChangeSpec := { name := "fnExactShortestChain", fn := fun _ => fun
  | [d1, d2] => { results := [.lit (.bool true)], args := [d1, d2] }
  | _ => none }
def fnExactShortestChainRow : OpenClaim := { program := "ytbbbnnkkjgikbaa", sum := "2f4c168ce4e21b6cbe9964a58bfc81cbb2c5df65a50e97dac814206e606f279b", func := "loop.example/g03401/laws.FnExactShortestChain", spec := "fnExactShortestChain", inPlace := ["internal/bytealg.CountString", "internal/bytealg.IndexByteString", "internal/bytealg.IndexString"], unfollowed := true, recurses := true, named := ["internal/bytealg.MaxLen"], leaving := true, apart := false }
def FnExactShortestChainSaid : Prop := fnExactShortestChainRow.holds Try.pinned (OpenSpec.ofChange fnExactShortestChainSpec)

/-- ITS FALSE NEIGHBOUR: 'it returns false'. Refute it at one input. -/
def fnExactShortestChainWrong : ChangeSpec := { name := "fnExactShortestChain", fn := fun _ => fun
  | [d1, d2] => { results := [.lit (.bool false)], args := [d1, d2] }
  | _ => none }
def FnExactShortestChainWrongFalsely : Prop := fnExactShortestChainRow.holds Try.pinned (OpenSpec.ofChange fnExactShortestChainWrong)

/- THE SECOND FORM. 'bulk': how many values and letters a reading holds, each counted each time it is reached (what is shared counts as often as it is met; a slice's spare places count too). A statement '..UptoSaid' is the law's where the arguments, and the package variables that the reading takes, are together of bulk at most 1048576: NARROWER than '..Said'. Prove '..Said' where nothing that the law and all that it calls make is longer than what came in: it says more and counts as full. Else prove '..UptoSaid'. A law counts once. -/
mutual
def uptoBulk {H : Type} : DataW H → Nat
  | .lit (.string bytes) => bytes.length + 1
  | .lit _ => 1
  | .nil => 1
  | .ptr d => uptoBulk d + 1
  | .slice elems spare => uptoBulkAll elems + uptoBulkAll spare + 1
  | .agg parts => uptoBulkAll parts + 1
  | .iface _ d => uptoBulk d + 1
  | .map entries => uptoBulkEntries entries + 1
  | .held _ => 1
def uptoBulkAll {H : Type} : List (DataW H) → Nat
  | [] => 0
  | d :: r => uptoBulk d + uptoBulkAll r
def uptoBulkEntries {H : Type} : List (Lit × DataW H) → Nat
  | [] => 0
  | x :: r => uptoBulkEntry x + uptoBulkEntries r
def uptoBulkEntry {H : Type} : Lit × DataW H → Nat
  | (.string bytes, d) => bytes.length + uptoBulk d + 1
  | (_, d) => uptoBulk d + 1
 end
def uptoSmall : (H : Type) → List (DataW H) → Bool := fun _ ds => decide (uptoBulkAll ds ≤ 1048576)
def OpenSpec.upto (s : _root_.Go.ChangeSpec) : _root_.Go.OpenSpec := { _root_.Go.OpenSpec.ofChange s with cond := some uptoSmall }

/-- 'laws.FnRotations', WHERE WHAT IT READS IS OF BULK AT MOST 1048576: true; the input reads as it did. -/
def fnRotationsUptoRow : OpenClaim := { program := "ytbbbnnkkjgikbaa", sum := "2f4c168ce4e21b6cbe9964a58bfc81cbb2c5df65a50e97dac814206e606f279b", func := "loop.example/g03401/laws.FnRotations", spec := "fnRotations", inPlace := ["internal/bytealg.CountString", "internal/bytealg.IndexByteString", "internal/bytealg.IndexString", "internal/abi.NoEscape", "internal/bytealg.MakeNoZero"], unfollowed := true, recurses := true, named := ["internal/bytealg.MaxLen"], leaving := true, apart := false, narrowed := true }
def FnRotationsUptoSaid : Prop := fnRotationsUptoRow.holds Try.pinned (OpenSpec.upto fnRotationsSpec)

/-- 'laws.FnExactIsTamariLess', WHERE WHAT IT READS IS OF BULK AT MOST 1048576: true; the input reads as it did. -/
def fnExactIsTamariLessUptoRow : OpenClaim := { program := "ytbbbnnkkjgikbaa", sum := "2f4c168ce4e21b6cbe9964a58bfc81cbb2c5df65a50e97dac814206e606f279b", func := "loop.example/g03401/laws.FnExactIsTamariLess", spec := "fnExactIsTamariLess", inPlace := ["internal/bytealg.CountString", "internal/bytealg.IndexByteString", "internal/bytealg.IndexString"], recurses := true, named := ["internal/bytealg.MaxLen"], apart := false, narrowed := true }
def FnExactIsTamariLessUptoSaid : Prop := fnExactIsTamariLessUptoRow.holds Try.pinned (OpenSpec.upto fnExactIsTamariLessSpec)

/-- 'laws.FnExactTamariMeet', WHERE WHAT IT READS IS OF BULK AT MOST 1048576: true; the input reads as it did. -/
def fnExactTamariMeetUptoRow : OpenClaim := { program := "ytbbbnnkkjgikbaa", sum := "2f4c168ce4e21b6cbe9964a58bfc81cbb2c5df65a50e97dac814206e606f279b", func := "loop.example/g03401/laws.FnExactTamariMeet", spec := "fnExactTamariMeet", inPlace := ["internal/bytealg.CountString", "internal/bytealg.IndexByteString", "internal/bytealg.IndexString"], unfollowed := true, recurses := true, named := ["internal/bytealg.MaxLen"], leaving := true, apart := false, narrowed := true }
def FnExactTamariMeetUptoSaid : Prop := fnExactTamariMeetUptoRow.holds Try.pinned (OpenSpec.upto fnExactTamariMeetSpec)

/-- 'laws.FnExactTamariJoin', WHERE WHAT IT READS IS OF BULK AT MOST 1048576: true; the input reads as it did. -/
def fnExactTamariJoinUptoRow : OpenClaim := { program := "ytbbbnnkkjgikbaa", sum := "2f4c168ce4e21b6cbe9964a58bfc81cbb2c5df65a50e97dac814206e606f279b", func := "loop.example/g03401/laws.FnExactTamariJoin", spec := "fnExactTamariJoin", inPlace := ["internal/bytealg.CountString", "internal/bytealg.IndexByteString", "internal/bytealg.IndexString"], unfollowed := true, recurses := true, named := ["internal/bytealg.MaxLen"], leaving := true, apart := false, narrowed := true }
def FnExactTamariJoinUptoSaid : Prop := fnExactTamariJoinUptoRow.holds Try.pinned (OpenSpec.upto fnExactTamariJoinSpec)

/-- 'laws.FnExactCountIntervals', WHERE WHAT IT READS IS OF BULK AT MOST 1048576: true; the input reads as it did. -/
def fnExactCountIntervalsUptoRow : OpenClaim := { program := "ytbbbnnkkjgikbaa", sum := "2f4c168ce4e21b6cbe9964a58bfc81cbb2c5df65a50e97dac814206e606f279b", func := "loop.example/g03401/laws.FnExactCountIntervals", spec := "fnExactCountIntervals", inPlace := ["internal/abi.NoEscape", "internal/bytealg.MakeNoZero", "internal/bytealg.CountString", "internal/bytealg.IndexByteString", "internal/bytealg.IndexString"], unfollowed := true, recurses := true, named := ["internal/bytealg.MaxLen"], leaving := true, apart := false, narrowed := true }
def FnExactCountIntervalsUptoSaid : Prop := fnExactCountIntervalsUptoRow.holds Try.pinned (OpenSpec.upto fnExactCountIntervalsSpec)

/-- 'laws.FnExactIntervalFormula', WHERE WHAT IT READS IS OF BULK AT MOST 1048576: true; the input reads as it did. -/
def fnExactIntervalFormulaUptoRow : OpenClaim := { program := "ytbbbnnkkjgikbaa", sum := "2f4c168ce4e21b6cbe9964a58bfc81cbb2c5df65a50e97dac814206e606f279b", func := "loop.example/g03401/laws.FnExactIntervalFormula", spec := "fnExactIntervalFormula", apart := false, narrowed := true }
def FnExactIntervalFormulaUptoSaid : Prop := fnExactIntervalFormulaUptoRow.holds Try.pinned (OpenSpec.upto fnExactIntervalFormulaSpec)

/-- 'laws.FnExactIntervalSize', WHERE WHAT IT READS IS OF BULK AT MOST 1048576: true; the input reads as it did. -/
def fnExactIntervalSizeUptoRow : OpenClaim := { program := "ytbbbnnkkjgikbaa", sum := "2f4c168ce4e21b6cbe9964a58bfc81cbb2c5df65a50e97dac814206e606f279b", func := "loop.example/g03401/laws.FnExactIntervalSize", spec := "fnExactIntervalSize", inPlace := ["internal/bytealg.CountString", "internal/bytealg.IndexByteString", "internal/bytealg.IndexString", "internal/abi.NoEscape", "internal/bytealg.MakeNoZero"], unfollowed := true, recurses := true, named := ["internal/bytealg.MaxLen"], leaving := true, apart := false, narrowed := true }
def FnExactIntervalSizeUptoSaid : Prop := fnExactIntervalSizeUptoRow.holds Try.pinned (OpenSpec.upto fnExactIntervalSizeSpec)

/-- 'laws.FnExactLongestChain', WHERE WHAT IT READS IS OF BULK AT MOST 1048576: true; the input reads as it did. -/
def fnExactLongestChainUptoRow : OpenClaim := { program := "ytbbbnnkkjgikbaa", sum := "2f4c168ce4e21b6cbe9964a58bfc81cbb2c5df65a50e97dac814206e606f279b", func := "loop.example/g03401/laws.FnExactLongestChain", spec := "fnExactLongestChain", inPlace := ["internal/bytealg.CountString", "internal/bytealg.IndexByteString", "internal/bytealg.IndexString"], unfollowed := true, recurses := true, named := ["internal/bytealg.MaxLen"], leaving := true, apart := false, narrowed := true }
def FnExactLongestChainUptoSaid : Prop := fnExactLongestChainUptoRow.holds Try.pinned (OpenSpec.upto fnExactLongestChainSpec)

/-- 'laws.FnExactShortestChain', WHERE WHAT IT READS IS OF BULK AT MOST 1048576: true; the input reads as it did. -/
def fnExactShortestChainUptoRow : OpenClaim := { program := "ytbbbnnkkjgikbaa", sum := "2f4c168ce4e21b6cbe9964a58bfc81cbb2c5df65a50e97dac814206e606f279b", func := "loop.example/g03401/laws.FnExactShortestChain", spec := "fnExactShortestChain", inPlace := ["internal/bytealg.CountString", "internal/bytealg.IndexByteString", "internal/bytealg.IndexString"], unfollowed := true, recurses := true, named := ["internal/bytealg.MaxLen"], leaving := true, apart := false, narrowed := true }
def FnExactShortestChainUptoSaid : Prop := fnExactShortestChainUptoRow.holds Try.pinned (OpenSpec.upto fnExactShortestChainSpec)

end Rows
end Go.Proofs.Ytbbbnnkkjgikbaa
