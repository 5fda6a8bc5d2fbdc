/-
  No cell of these rows narrows 'for every input' (looked for: loops, veiled, ifaces, maps, wideKeys, modest, calm, conditions, laid).
  DERIVED. THE GIVEN ROWS OF THIS SEAT. 6 by the template 'for every input the law returns true; each argument reads behind the call as it read before'; 0 by the template 'total and deterministic' (their statements: YtedniiomkejmoaaTotals.lean).
  GIVEN WITH THE SEED: the statements are not yours to turn. If you find one false, say at which input.
  Laid BY PROGRAM, IN A SANDBOX (cutbox-rows.mjs): the forced cells as the released guide's own fill.sh prints them over the translation e4ca5a2b0778438e… (all of the seat's roots in one cut). By AI agents, Wed Nov 11 2026. No macro, syntax, notation, axiom, sorry.
-/
import Derived.Test.YtedniiomkejmoaaChecked
import GoSem.Claim
import GoSem.ClaimJoined
import GoSem.ClaimMapViews
import Derived.JoinedTies
import Derived.KernelRfl
namespace Go.Proofs.Ytedniiomkejmoaa
/- THE CELL 'sum', in the pinned program and in every row, IS THE sha256 OF THE DUMP (.gsa) THAT YtedniiomkejmoaaProg.lean LOADS. Nothing in Lean hashes anything: it is a label: what it is worth is what the hold of that sum in a sandbox is worth. -/
noncomputable def Try.pinned : Pinned := { name := "ytedniiomkejmoaa", sum := "e4ca5a2b0778438e0ba26bc777a5599390f81651c798fa85e03f3ebfaf7554b8", checked := Try.checked }
namespace Rows
def none {H : Type} : Left H := { results := [], args := [] }

/-- 'laws.FnExactIsSchroeder': WHATEVER THE INPUT: true; the input reads as it did. -/
def fnExactIsSchroederSpec : ChangeSpec := { name := "fnExactIsSchroeder", fn := fun _ => fun
  | [d] => { results := [.lit (.bool true)], args := [d] }
  | _ => none }
def fnExactIsSchroederRow : OpenClaim := { program := "ytedniiomkejmoaa", sum := "e4ca5a2b0778438e0ba26bc777a5599390f81651c798fa85e03f3ebfaf7554b8", func := "loop.example/g03401/laws.FnExactIsSchroeder", spec := "fnExactIsSchroeder", unfollowed := true, recurses := true, apart := false }
def FnExactIsSchroederSaid : Prop := fnExactIsSchroederRow.holds Try.pinned (OpenSpec.ofChange fnExactIsSchroederSpec)

/-- ITS FALSE NEIGHBOUR: 'it returns false'. Refute it at one input. -/
def fnExactIsSchroederWrong : ChangeSpec := { name := "fnExactIsSchroeder", fn := fun _ => fun
  | [d] => { results := [.lit (.bool false)], args := [d] }
  | _ => none }
def FnExactIsSchroederWrongFalsely : Prop := fnExactIsSchroederRow.holds Try.pinned (OpenSpec.ofChange fnExactIsSchroederWrong)

/-- 'laws.FnExactSchroederNumber': WHATEVER THE INPUT: true; the input reads as it did. -/
def fnExactSchroederNumberSpec : ChangeSpec := { name := "fnExactSchroederNumber", fn := fun _ => fun
  | [d] => { results := [.lit (.bool true)], args := [d] }
  | _ => none }
def fnExactSchroederNumberRow : OpenClaim := { program := "ytedniiomkejmoaa", sum := "e4ca5a2b0778438e0ba26bc777a5599390f81651c798fa85e03f3ebfaf7554b8", func := "loop.example/g03401/laws.FnExactSchroederNumber", spec := "fnExactSchroederNumber", apart := false }
def FnExactSchroederNumberSaid : Prop := fnExactSchroederNumberRow.holds Try.pinned (OpenSpec.ofChange fnExactSchroederNumberSpec)

/-- ITS FALSE NEIGHBOUR: 'it returns false'. Refute it at one input. -/
def fnExactSchroederNumberWrong : ChangeSpec := { name := "fnExactSchroederNumber", fn := fun _ => fun
  | [d] => { results := [.lit (.bool false)], args := [d] }
  | _ => none }
def FnExactSchroederNumberWrongFalsely : Prop := fnExactSchroederNumberRow.holds Try.pinned (OpenSpec.ofChange fnExactSchroederNumberWrong)

/-- 'laws.FnExactLittleSchroeder': WHATEVER THE INPUT: true; the input reads as it did. -/
def fnExactLittleSchroederSpec : ChangeSpec := { name := "fnExactLittleSchroeder", fn := fun _ => fun
  | [d] => { results := [.lit (.bool true)], args := [d] }
  | _ => none }
def fnExactLittleSchroederRow : OpenClaim := { program := "ytedniiomkejmoaa", sum := "e4ca5a2b0778438e0ba26bc777a5599390f81651c798fa85e03f3ebfaf7554b8", func := "loop.example/g03401/laws.FnExactLittleSchroeder", spec := "fnExactLittleSchroeder", apart := false }
def FnExactLittleSchroederSaid : Prop := fnExactLittleSchroederRow.holds Try.pinned (OpenSpec.ofChange fnExactLittleSchroederSpec)

/-- ITS FALSE NEIGHBOUR: 'it returns false'. Refute it at one input. -/
def fnExactLittleSchroederWrong : ChangeSpec := { name := "fnExactLittleSchroeder", fn := fun _ => fun
  | [d] => { results := [.lit (.bool false)], args := [d] }
  | _ => none }
def FnExactLittleSchroederWrongFalsely : Prop := fnExactLittleSchroederRow.holds Try.pinned (OpenSpec.ofChange fnExactLittleSchroederWrong)

/-- 'laws.FnExactSchroederPaths': WHATEVER THE INPUT: true; the input reads as it did. -/
def fnExactSchroederPathsSpec : ChangeSpec := { name := "fnExactSchroederPaths", fn := fun _ => fun
  | [d] => { results := [.lit (.bool true)], args := [d] }
  | _ => none }
def fnExactSchroederPathsRow : OpenClaim := { program := "ytedniiomkejmoaa", sum := "e4ca5a2b0778438e0ba26bc777a5599390f81651c798fa85e03f3ebfaf7554b8", func := "loop.example/g03401/laws.FnExactSchroederPaths", spec := "fnExactSchroederPaths", recurses := true, apart := false }
def FnExactSchroederPathsSaid : Prop := fnExactSchroederPathsRow.holds Try.pinned (OpenSpec.ofChange fnExactSchroederPathsSpec)

/-- ITS FALSE NEIGHBOUR: 'it returns false'. Refute it at one input. -/
def fnExactSchroederPathsWrong : ChangeSpec := { name := "fnExactSchroederPaths", fn := fun _ => fun
  | [d] => { results := [.lit (.bool false)], args := [d] }
  | _ => none }
def FnExactSchroederPathsWrongFalsely : Prop := fnExactSchroederPathsRow.holds Try.pinned (OpenSpec.ofChange fnExactSchroederPathsWrong)

/-- 'laws.FnExactFlattenPeaks': WHATEVER THE INPUT: true; the input reads as it did. -/
def fnExactFlattenPeaksSpec : ChangeSpec := { name := "fnExactFlattenPeaks", fn := fun _ => fun
  | [d1, d2] => { results := [.lit (.bool true)], args := [d1, d2] }
  | _ => none }
def fnExactFlattenPeaksRow : OpenClaim := { program := "ytedniiomkejmoaa", sum := "e4ca5a2b0778438e0ba26bc777a5599390f81651c798fa85e03f3ebfaf7554b8", func := "loop.example/g03401/laws.FnExactFlattenPeaks", spec := "fnExactFlattenPeaks", inPlace := ["internal/bytealg.CountString", "internal/bytealg.IndexByteString", "internal/bytealg.IndexString", "internal/abi.NoEscape", "internal/bytealg.MakeNoZero"], named := ["internal/bytealg.MaxLen"], apart := false }
def FnExactFlattenPeaksSaid : Prop := fnExactFlattenPeaksRow.holds Try.pinned (OpenSpec.ofChange fnExactFlattenPeaksSpec)

/-- ITS FALSE NEIGHBOUR: 'it returns false'. Refute it at one input. -/
def fnExactFlattenPeaksWrong : ChangeSpec := { name := "fnExactFlattenPeaks", fn := fun _ => fun
  | [d1, d2] => { results := [.lit (.bool false)], args := [d1, d2] }
  | _ => none }
def FnExactFlattenPeaksWrongFalsely : Prop := fnExactFlattenPeaksRow.holds Try.pinned (OpenSpec.ofChange fnExactFlattenPeaksWrong)

/-- 'laws.FnExactLiftLevels': WHATEVER THE INPUT: true; the input reads as it did. -/
def fnExactLiftLevelsSpec : ChangeSpec := { name := "fnExactLiftLevels", fn := fun _ => fun
  | [d] => { results := [.lit (.bool true)], args := [d] }
  | _ => none }
def fnExactLiftLevelsRow : OpenClaim := { program := "ytedniiomkejmoaa", sum := "e4ca5a2b0778438e0ba26bc777a5599390f81651c798fa85e03f3ebfaf7554b8", func := "loop.example/g03401/laws.FnExactLiftLevels", spec := "fnExactLiftLevels", inPlace := ["internal/abi.NoEscape", "internal/bytealg.MakeNoZero"], unfollowed := true, recurses := true, apart := false }
def FnExactLiftLevelsSaid : Prop := fnExactLiftLevelsRow.holds Try.pinned (OpenSpec.ofChange fnExactLiftLevelsSpec)

/-- ITS FALSE NEIGHBOUR: 'it returns false'. Refute it at one input. -/
def fnExactLiftLevelsWrong : ChangeSpec := { name := "fnExactLiftLevels", fn := fun _ => fun
  | [d] => { results := [.lit (.bool false)], args := [d] }
  | _ => none }
def FnExactLiftLevelsWrongFalsely : Prop := fnExactLiftLevelsRow.holds Try.pinned (OpenSpec.ofChange fnExactLiftLevelsWrong)

/- THE SECOND FORM. 'bulk': how many values and letters a reading holds, each counted each time it is reached (what is shared counts as often as it is met; a slice's spare places count too). A statement '..UptoSaid' is the law's where the arguments, and the package variables that the reading takes, are together of bulk at most 1048576: NARROWER than '..Said'. Prove '..Said' where nothing that the law and all that it calls make is longer than what came in: it says more and counts as full. Else prove '..UptoSaid'. A law counts once. -/
mutual
def uptoBulk {H : Type} : DataW H → Nat
  | .lit (.string bytes) => bytes.length + 1
  | .lit _ => 1
  | .nil => 1
  | .ptr d => uptoBulk d + 1
  | .slice elems spare => uptoBulkAll elems + uptoBulkAll spare + 1
  | .agg parts => uptoBulkAll parts + 1
  | .iface _ d => uptoBulk d + 1
  | .map entries => uptoBulkEntries entries + 1
  | .held _ => 1
def uptoBulkAll {H : Type} : List (DataW H) → Nat
  | [] => 0
  | d :: r => uptoBulk d + uptoBulkAll r
def uptoBulkEntries {H : Type} : List (Lit × DataW H) → Nat
  | [] => 0
  | x :: r => uptoBulkEntry x + uptoBulkEntries r
def uptoBulkEntry {H : Type} : Lit × DataW H → Nat
  | (.string bytes, d) => bytes.length + uptoBulk d + 1
  | (_, d) => uptoBulk d + 1
 end
def uptoSmall : (H : Type) → List (DataW H) → Bool := fun _ ds => decide (uptoBulkAll ds ≤ 1048576)
def OpenSpec.upto (s : _root_.Go.ChangeSpec) : _root_.Go.OpenSpec := { _root_.Go.OpenSpec.ofChange s with cond := some uptoSmall }

/-- 'laws.FnExactIsSchroeder', WHERE WHAT IT READS IS OF BULK AT MOST 1048576: true; the input reads as it did. -/
def fnExactIsSchroederUptoRow : OpenClaim := { program := "ytedniiomkejmoaa", sum := "e4ca5a2b0778438e0ba26bc777a5599390f81651c798fa85e03f3ebfaf7554b8", func := "loop.example/g03401/laws.FnExactIsSchroeder", spec := "fnExactIsSchroeder", unfollowed := true, recurses := true, apart := false, narrowed := true }
def FnExactIsSchroederUptoSaid : Prop := fnExactIsSchroederUptoRow.holds Try.pinned (OpenSpec.upto fnExactIsSchroederSpec)

/-- 'laws.FnExactSchroederNumber', WHERE WHAT IT READS IS OF BULK AT MOST 1048576: true; the input reads as it did. -/
def fnExactSchroederNumberUptoRow : OpenClaim := { program := "ytedniiomkejmoaa", sum := "e4ca5a2b0778438e0ba26bc777a5599390f81651c798fa85e03f3ebfaf7554b8", func := "loop.example/g03401/laws.FnExactSchroederNumber", spec := "fnExactSchroederNumber", apart := false, narrowed := true }
def FnExactSchroederNumberUptoSaid : Prop := fnExactSchroederNumberUptoRow.holds Try.pinned (OpenSpec.upto fnExactSchroederNumberSpec)

/-- 'laws.FnExactLittleSchroeder', WHERE WHAT IT READS IS OF BULK AT MOST 1048576: true; the input reads as it did. -/
def fnExactLittleSchroederUptoRow : OpenClaim := { program := "ytedniiomkejmoaa", sum := "e4ca5a2b0778438e0ba26bc777a5599390f81651c798fa85e03f3ebfaf7554b8", func := "loop.example/g03401/laws.FnExactLittleSchroeder", spec := "fnExactLittleSchroeder", apart := false, narrowed := true }
def FnExactLittleSchroederUptoSaid : Prop := fnExactLittleSchroederUptoRow.holds Try.pinned (OpenSpec.upto fnExactLittleSchroederSpec)

/-- 'laws.FnExactSchroederPaths', WHERE WHAT IT READS IS OF BULK AT MOST 1048576: true; the input reads as it did. -/
def fnExactSchroederPathsUptoRow : OpenClaim := { program := "ytedniiomkejmoaa", sum := "e4ca5a2b0778438e0ba26bc777a5599390f81651c798fa85e03f3ebfaf7554b8", func := "loop.example/g03401/laws.FnExactSchroederPaths", spec := "fnExactSchroederPaths", recurses := true, apart := false, narrowed := true }
def FnExactSchroederPathsUptoSaid : Prop := fnExactSchroederPathsUptoRow.holds Try.pinned (OpenSpec.upto fnExactSchroederPathsSpec)

/-- 'laws.FnExactFlattenPeaks', WHERE WHAT IT READS IS OF BULK AT MOST 1048576: true; the input reads as it did. -/
def fnExactFlattenPeaksUptoRow : OpenClaim := { program := "ytedniiomkejmoaa", sum := "e4ca5a2b0778438e0ba26bc777a5599390f81651c798fa85e03f3ebfaf7554b8", func := "loop.example/g03401/laws.FnExactFlattenPeaks", spec := "fnExactFlattenPeaks", inPlace := ["internal/bytealg.CountString", "internal/bytealg.IndexByteString", "internal/bytealg.IndexString", "internal/abi.NoEscape", "internal/bytealg.MakeNoZero"], named := ["internal/bytealg.MaxLen"], apart := false, narrowed := true }
def FnExactFlattenPeaksUptoSaid : Prop := fnExactFlattenPeaksUptoRow.holds Try.pinned (OpenSpec.upto fnExactFlattenPeaksSpec)

/-- 'laws.FnExactLiftLevels', WHERE WHAT IT READS IS OF BULK AT MOST 1048576: true; the input reads as it did. -/
def fnExactLiftLevelsUptoRow : OpenClaim := { program := "ytedniiomkejmoaa", sum := "e4ca5a2b0778438e0ba26bc777a5599390f81651c798fa85e03f3ebfaf7554b8", func := "loop.example/g03401/laws.FnExactLiftLevels", spec := "fnExactLiftLevels", inPlace := ["internal/abi.NoEscape", "internal/bytealg.MakeNoZero"], unfollowed := true, recurses := true, apart := false, narrowed := true }
def FnExactLiftLevelsUptoSaid : Prop := fnExactLiftLevelsUptoRow.holds Try.pinned (OpenSpec.upto fnExactLiftLevelsSpec)

end Rows
end Go.Proofs.Ytedniiomkejmoaa
