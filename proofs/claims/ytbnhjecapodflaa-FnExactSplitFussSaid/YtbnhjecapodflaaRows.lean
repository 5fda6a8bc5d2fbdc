/-
  No cell of these rows narrows 'for every input' (looked for: loops, veiled, ifaces, maps, wideKeys, modest, calm, conditions, laid).
  DERIVED. THE GIVEN ROWS OF THIS SEAT. 6 by the template 'for every input the law returns true; each argument reads behind the call as it read before'; 0 by the template 'total and deterministic' (their statements: YtbnhjecapodflaaTotals.lean).
  GIVEN WITH THE SEED: the statements are not yours to turn. If you find one false, say at which input.
  Laid BY PROGRAM, IN A SANDBOX (cutbox-rows.mjs): the forced cells as the released guide's own fill.sh prints them over the translation 27629c5a186d6540… (all of the seat's roots in one cut). By AI agents, Wed Nov 11 2026. No macro, syntax, notation, axiom, sorry.
-/
import Derived.Test.YtbnhjecapodflaaChecked
import GoSem.Claim
import GoSem.ClaimJoined
import GoSem.ClaimMapViews
import Derived.JoinedTies
import Derived.KernelRfl
namespace Go.Proofs.Ytbnhjecapodflaa
/- THE CELL 'sum', in the pinned program and in every row, IS THE sha256 OF THE DUMP (.gsa) THAT YtbnhjecapodflaaProg.lean LOADS. Nothing in Lean hashes anything: it is a label: what it is worth is what the hold of that sum in a sandbox is worth. -/
noncomputable def Try.pinned : Pinned := { name := "ytbnhjecapodflaa", sum := "27629c5a186d6540ccac22fee927fa794829c96a67a78563ffc0dd7032e31a4b", checked := Try.checked }
namespace Rows
def none {H : Type} : Left H := { results := [], args := [] }

/-- 'laws.FnExactFussNumber': WHATEVER THE INPUT: true; the input reads as it did. -/
def fnExactFussNumberSpec : ChangeSpec := { name := "fnExactFussNumber", fn := fun _ => fun
  | [d1, d2] => { results := [.lit (.bool true)], args := [d1, d2] }
  | _ => none }
def fnExactFussNumberRow : OpenClaim := { program := "ytbnhjecapodflaa", sum := "27629c5a186d6540ccac22fee927fa794829c96a67a78563ffc0dd7032e31a4b", func := "loop.example/g03401/laws.FnExactFussNumber", spec := "fnExactFussNumber", apart := false }
def FnExactFussNumberSaid : Prop := fnExactFussNumberRow.holds Try.pinned (OpenSpec.ofChange fnExactFussNumberSpec)

/-- ITS FALSE NEIGHBOUR: 'it returns false'. Refute it at one input. -/
def fnExactFussNumberWrong : ChangeSpec := { name := "fnExactFussNumber", fn := fun _ => fun
  | [d1, d2] => { results := [.lit (.bool false)], args := [d1, d2] }
  | _ => none }
def FnExactFussNumberWrongFalsely : Prop := fnExactFussNumberRow.holds Try.pinned (OpenSpec.ofChange fnExactFussNumberWrong)

/-- 'laws.FnExactIsFuss': WHATEVER THE INPUT: true; the input reads as it did. -/
def fnExactIsFussSpec : ChangeSpec := { name := "fnExactIsFuss", fn := fun _ => fun
  | [d1, d2] => { results := [.lit (.bool true)], args := [d1, d2] }
  | _ => none }
def fnExactIsFussRow : OpenClaim := { program := "ytbnhjecapodflaa", sum := "27629c5a186d6540ccac22fee927fa794829c96a67a78563ffc0dd7032e31a4b", func := "loop.example/g03401/laws.FnExactIsFuss", spec := "fnExactIsFuss", unfollowed := true, recurses := true, apart := false }
def FnExactIsFussSaid : Prop := fnExactIsFussRow.holds Try.pinned (OpenSpec.ofChange fnExactIsFussSpec)

/-- ITS FALSE NEIGHBOUR: 'it returns false'. Refute it at one input. -/
def fnExactIsFussWrong : ChangeSpec := { name := "fnExactIsFuss", fn := fun _ => fun
  | [d1, d2] => { results := [.lit (.bool false)], args := [d1, d2] }
  | _ => none }
def FnExactIsFussWrongFalsely : Prop := fnExactIsFussRow.holds Try.pinned (OpenSpec.ofChange fnExactIsFussWrong)

/-- 'laws.FnExactFussPaths': WHATEVER THE INPUT: true; the input reads as it did. -/
def fnExactFussPathsSpec : ChangeSpec := { name := "fnExactFussPaths", fn := fun _ => fun
  | [d1, d2] => { results := [.lit (.bool true)], args := [d1, d2] }
  | _ => none }
def fnExactFussPathsRow : OpenClaim := { program := "ytbnhjecapodflaa", sum := "27629c5a186d6540ccac22fee927fa794829c96a67a78563ffc0dd7032e31a4b", func := "loop.example/g03401/laws.FnExactFussPaths", spec := "fnExactFussPaths", recurses := true, apart := false }
def FnExactFussPathsSaid : Prop := fnExactFussPathsRow.holds Try.pinned (OpenSpec.ofChange fnExactFussPathsSpec)

/-- ITS FALSE NEIGHBOUR: 'it returns false'. Refute it at one input. -/
def fnExactFussPathsWrong : ChangeSpec := { name := "fnExactFussPaths", fn := fun _ => fun
  | [d1, d2] => { results := [.lit (.bool false)], args := [d1, d2] }
  | _ => none }
def FnExactFussPathsWrongFalsely : Prop := fnExactFussPathsRow.holds Try.pinned (OpenSpec.ofChange fnExactFussPathsWrong)

/-- 'laws.FnExactSplitFuss': WHATEVER THE INPUT: true; the input reads as it did. -/
def fnExactSplitFussSpec : ChangeSpec := { name := "fnExactSplitFuss", fn := fun _ => fun
  | [d1, d2] => { results := [.lit (.bool true)], args := [d1, d2] }
  | _ => none }
def fnExactSplitFussRow : OpenClaim := { program := "ytbnhjecapodflaa", sum := "27629c5a186d6540ccac22fee927fa794829c96a67a78563ffc0dd7032e31a4b", func := "loop.example/g03401/laws.FnExactSplitFuss", spec := "fnExactSplitFuss", unfollowed := true, recurses := true, apart := false }
def FnExactSplitFussSaid : Prop := fnExactSplitFussRow.holds Try.pinned (OpenSpec.ofChange fnExactSplitFussSpec)

/-- ITS FALSE NEIGHBOUR: 'it returns false'. Refute it at one input. -/
def fnExactSplitFussWrong : ChangeSpec := { name := "fnExactSplitFuss", fn := fun _ => fun
  | [d1, d2] => { results := [.lit (.bool false)], args := [d1, d2] }
  | _ => none }
def FnExactSplitFussWrongFalsely : Prop := fnExactSplitFussRow.holds Try.pinned (OpenSpec.ofChange fnExactSplitFussWrong)

/-- 'laws.FnExactJoinFuss': WHATEVER THE INPUT: true; the input reads as it did. -/
def fnExactJoinFussSpec : ChangeSpec := { name := "fnExactJoinFuss", fn := fun _ => fun
  | [d1, d2] => { results := [.lit (.bool true)], args := [d1, d2] }
  | _ => none }
def fnExactJoinFussRow : OpenClaim := { program := "ytbnhjecapodflaa", sum := "27629c5a186d6540ccac22fee927fa794829c96a67a78563ffc0dd7032e31a4b", func := "loop.example/g03401/laws.FnExactJoinFuss", spec := "fnExactJoinFuss", inPlace := ["internal/bytealg.MakeNoZero"], unfollowed := true, recurses := true, apart := false }
def FnExactJoinFussSaid : Prop := fnExactJoinFussRow.holds Try.pinned (OpenSpec.ofChange fnExactJoinFussSpec)

/-- ITS FALSE NEIGHBOUR: 'it returns false'. Refute it at one input. -/
def fnExactJoinFussWrong : ChangeSpec := { name := "fnExactJoinFuss", fn := fun _ => fun
  | [d1, d2] => { results := [.lit (.bool false)], args := [d1, d2] }
  | _ => none }
def FnExactJoinFussWrongFalsely : Prop := fnExactJoinFussRow.holds Try.pinned (OpenSpec.ofChange fnExactJoinFussWrong)

/-- 'laws.FnExactFussRank': WHATEVER THE INPUT: true; the input reads as it did. -/
def fnExactFussRankSpec : ChangeSpec := { name := "fnExactFussRank", fn := fun _ => fun
  | [d1, d2] => { results := [.lit (.bool true)], args := [d1, d2] }
  | _ => none }
def fnExactFussRankRow : OpenClaim := { program := "ytbnhjecapodflaa", sum := "27629c5a186d6540ccac22fee927fa794829c96a67a78563ffc0dd7032e31a4b", func := "loop.example/g03401/laws.FnExactFussRank", spec := "fnExactFussRank", inPlace := ["internal/bytealg.CountString", "internal/bytealg.IndexByteString", "internal/bytealg.IndexString"], recurses := true, named := ["internal/bytealg.MaxLen"], apart := false }
def FnExactFussRankSaid : Prop := fnExactFussRankRow.holds Try.pinned (OpenSpec.ofChange fnExactFussRankSpec)

/-- ITS FALSE NEIGHBOUR: 'it returns false'. Refute it at one input. -/
def fnExactFussRankWrong : ChangeSpec := { name := "fnExactFussRank", fn := fun _ => fun
  | [d1, d2] => { results := [.lit (.bool false)], args := [d1, d2] }
  | _ => none }
def FnExactFussRankWrongFalsely : Prop := fnExactFussRankRow.holds Try.pinned (OpenSpec.ofChange fnExactFussRankWrong)

/- THE SECOND FORM. 'bulk': how many values and letters a reading holds, each counted each time it is reached (what is shared counts as often as it is met; a slice's spare places count too). A statement '..UptoSaid' is the law's where the arguments, and the package variables that the reading takes, are together of bulk at most 1048576: NARROWER than '..Said'. Prove '..Said' where nothing that the law and all that it calls make is longer than what came in: it says more and counts as full. Else prove '..UptoSaid'. A law counts once. -/
mutual
def uptoBulk {H : Type} : DataW H → Nat
  | .lit (.string bytes) => bytes.length + 1
  | .lit _ => 1
  | .nil => 1
  | .ptr d => uptoBulk d + 1
  | .slice elems spare => uptoBulkAll elems + uptoBulkAll spare + 1
  | .agg parts => uptoBulkAll parts + 1
  | .iface _ d => uptoBulk d + 1
  | .map entries => uptoBulkEntries entries + 1
  | .held _ => 1
def uptoBulkAll {H : Type} : List (DataW H) → Nat
  | [] => 0
  | d :: r => uptoBulk d + uptoBulkAll r
def uptoBulkEntries {H : Type} : List (Lit × DataW H) → Nat
  | [] => 0
  | x :: r => uptoBulkEntry x + uptoBulkEntries r
def uptoBulkEntry {H : Type} : Lit × DataW H → Nat
  | (.string bytes, d) => bytes.length + uptoBulk d + 1
  | (_, d) => uptoBulk d + 1
 end
def uptoSmall : (H : Type) → List (DataW H) → Bool := fun _ ds => decide (uptoBulkAll ds ≤ 1048576)
def OpenSpec.upto (s : _root_.Go.ChangeSpec) : _root_.Go.OpenSpec := { _root_.Go.OpenSpec.ofChange s with cond := some uptoSmall }

/-- 'laws.FnExactFussNumber', WHERE WHAT IT READS IS OF BULK AT MOST 1048576: true; the input reads as it did. -/
def fnExactFussNumberUptoRow : OpenClaim := { program := "ytbnhjecapodflaa", sum := "27629c5a186d6540ccac22fee927fa794829c96a67a78563ffc0dd7032e31a4b", func := "loop.example/g03401/laws.FnExactFussNumber", spec := "fnExactFussNumber", apart := false, narrowed := true }
def FnExactFussNumberUptoSaid : Prop := fnExactFussNumberUptoRow.holds Try.pinned (OpenSpec.upto fnExactFussNumberSpec)

/-- 'laws.FnExactIsFuss', WHERE WHAT IT READS IS OF BULK AT MOST 1048576: true; the input reads as it did. -/
def fnExactIsFussUptoRow : OpenClaim := { program := "ytbnhjecapodflaa", sum := "27629c5a186d6540ccac22fee927fa794829c96a67a78563ffc0dd7032e31a4b", func := "loop.example/g03401/laws.FnExactIsFuss", spec := "fnExactIsFuss", unfollowed := true, recurses := true, apart := false, narrowed := true }
def FnExactIsFussUptoSaid : Prop := fnExactIsFussUptoRow.holds Try.pinned (OpenSpec.upto fnExactIsFussSpec)

/-- 'laws.FnExactFussPaths', WHERE WHAT IT READS IS OF BULK AT MOST 1048576: true; the input reads as it did. -/
def fnExactFussPathsUptoRow : OpenClaim := { program := "ytbnhjecapodflaa", sum := "27629c5a186d6540ccac22fee927fa794829c96a67a78563ffc0dd7032e31a4b", func := "loop.example/g03401/laws.FnExactFussPaths", spec := "fnExactFussPaths", recurses := true, apart := false, narrowed := true }
def FnExactFussPathsUptoSaid : Prop := fnExactFussPathsUptoRow.holds Try.pinned (OpenSpec.upto fnExactFussPathsSpec)

/-- 'laws.FnExactSplitFuss', WHERE WHAT IT READS IS OF BULK AT MOST 1048576: true; the input reads as it did. -/
def fnExactSplitFussUptoRow : OpenClaim := { program := "ytbnhjecapodflaa", sum := "27629c5a186d6540ccac22fee927fa794829c96a67a78563ffc0dd7032e31a4b", func := "loop.example/g03401/laws.FnExactSplitFuss", spec := "fnExactSplitFuss", unfollowed := true, recurses := true, apart := false, narrowed := true }
def FnExactSplitFussUptoSaid : Prop := fnExactSplitFussUptoRow.holds Try.pinned (OpenSpec.upto fnExactSplitFussSpec)

/-- 'laws.FnExactJoinFuss', WHERE WHAT IT READS IS OF BULK AT MOST 1048576: true; the input reads as it did. -/
def fnExactJoinFussUptoRow : OpenClaim := { program := "ytbnhjecapodflaa", sum := "27629c5a186d6540ccac22fee927fa794829c96a67a78563ffc0dd7032e31a4b", func := "loop.example/g03401/laws.FnExactJoinFuss", spec := "fnExactJoinFuss", inPlace := ["internal/bytealg.MakeNoZero"], unfollowed := true, recurses := true, apart := false, narrowed := true }
def FnExactJoinFussUptoSaid : Prop := fnExactJoinFussUptoRow.holds Try.pinned (OpenSpec.upto fnExactJoinFussSpec)

/-- 'laws.FnExactFussRank', WHERE WHAT IT READS IS OF BULK AT MOST 1048576: true; the input reads as it did. -/
def fnExactFussRankUptoRow : OpenClaim := { program := "ytbnhjecapodflaa", sum := "27629c5a186d6540ccac22fee927fa794829c96a67a78563ffc0dd7032e31a4b", func := "loop.example/g03401/laws.FnExactFussRank", spec := "fnExactFussRank", inPlace := ["internal/bytealg.CountString", "internal/bytealg.IndexByteString", "internal/bytealg.IndexString"], recurses := true, named := ["internal/bytealg.MaxLen"], apart := false, narrowed := true }
def FnExactFussRankUptoSaid : Prop := fnExactFussRankUptoRow.holds Try.pinned (OpenSpec.upto fnExactFussRankSpec)

end Rows
end Go.Proofs.Ytbnhjecapodflaa
