/-
  No cell of these rows narrows 'for every input' (looked for: loops, veiled, ifaces, maps, wideKeys, modest, calm, conditions, laid).
  DERIVED. THE GIVEN ROWS OF THIS SEAT. 12 by the template 'for every input the law returns true; each argument reads behind the call as it read before'; 0 by the template 'total and deterministic' (their statements: YtcckpodpgenapaaTotals.lean).
  GIVEN WITH THE SEED: the statements are not yours to turn. If you find one false, say at which input.
  Laid BY PROGRAM, IN A SANDBOX (cutbox-rows.mjs): the forced cells as the released guide's own fill.sh prints them over the translation 31e222e0848e36ce… (all of the seat's roots in one cut). By AI agents, Wed Nov 11 2026. No macro, syntax, notation, axiom, sorry.
-/
import Derived.Test.YtcckpodpgenapaaChecked
import GoSem.Claim
import GoSem.ClaimJoined
import GoSem.ClaimMapViews
import Derived.JoinedTies
import Derived.KernelRfl
namespace Go.Proofs.Ytcckpodpgenapaa
/- THE CELL 'sum', in the pinned program and in every row, IS THE sha256 OF THE DUMP (.gsa) THAT YtcckpodpgenapaaProg.lean LOADS. Nothing in Lean hashes anything: it is a label: what it is worth is what the hold of that sum in a sandbox is worth. -/
noncomputable def Try.pinned : Pinned := { name := "ytcckpodpgenapaa", sum := "31e222e0848e36ceb5d386e3e63224f44cf6529641d596d74bffe7b8b4afd5d8", checked := Try.checked }
namespace Rows
def none {H : Type} : Left H := { results := [], args := [] }

/-- 'laws.FnExactIsDiagram': WHATEVER THE INPUT: true; the input reads as it did. -/
def fnExactIsDiagramSpec : ChangeSpec := { name := "fnExactIsDiagram", fn := fun _ => fun
  | [d] => { results := [.lit (.bool true)], args := [d] }
  | _ => none }
def fnExactIsDiagramRow : OpenClaim := { program := "ytcckpodpgenapaa", sum := "31e222e0848e36ceb5d386e3e63224f44cf6529641d596d74bffe7b8b4afd5d8", func := "loop.example/g03401/laws.FnExactIsDiagram", spec := "fnExactIsDiagram", unfollowed := true, recurses := true, apart := false }
def FnExactIsDiagramSaid : Prop := fnExactIsDiagramRow.holds Try.pinned (OpenSpec.ofChange fnExactIsDiagramSpec)

/-- ITS FALSE NEIGHBOUR: 'it returns false'. Refute it at one input. -/
def fnExactIsDiagramWrong : ChangeSpec := { name := "fnExactIsDiagram", fn := fun _ => fun
  | [d] => { results := [.lit (.bool false)], args := [d] }
  | _ => none }
def FnExactIsDiagramWrongFalsely : Prop := fnExactIsDiagramRow.holds Try.pinned (OpenSpec.ofChange fnExactIsDiagramWrong)

/-- 'laws.FnExactIdentityDiagram': WHATEVER THE INPUT: true; the input reads as it did. -/
def fnExactIdentityDiagramSpec : ChangeSpec := { name := "fnExactIdentityDiagram", fn := fun _ => fun
  | [d] => { results := [.lit (.bool true)], args := [d] }
  | _ => none }
def fnExactIdentityDiagramRow : OpenClaim := { program := "ytcckpodpgenapaa", sum := "31e222e0848e36ceb5d386e3e63224f44cf6529641d596d74bffe7b8b4afd5d8", func := "loop.example/g03401/laws.FnExactIdentityDiagram", spec := "fnExactIdentityDiagram", apart := false }
def FnExactIdentityDiagramSaid : Prop := fnExactIdentityDiagramRow.holds Try.pinned (OpenSpec.ofChange fnExactIdentityDiagramSpec)

/-- ITS FALSE NEIGHBOUR: 'it returns false'. Refute it at one input. -/
def fnExactIdentityDiagramWrong : ChangeSpec := { name := "fnExactIdentityDiagram", fn := fun _ => fun
  | [d] => { results := [.lit (.bool false)], args := [d] }
  | _ => none }
def FnExactIdentityDiagramWrongFalsely : Prop := fnExactIdentityDiagramRow.holds Try.pinned (OpenSpec.ofChange fnExactIdentityDiagramWrong)

/-- 'laws.FnExactHookDiagram': WHATEVER THE INPUT: true; the input reads as it did. -/
def fnExactHookDiagramSpec : ChangeSpec := { name := "fnExactHookDiagram", fn := fun _ => fun
  | [d1, d2] => { results := [.lit (.bool true)], args := [d1, d2] }
  | _ => none }
def fnExactHookDiagramRow : OpenClaim := { program := "ytcckpodpgenapaa", sum := "31e222e0848e36ceb5d386e3e63224f44cf6529641d596d74bffe7b8b4afd5d8", func := "loop.example/g03401/laws.FnExactHookDiagram", spec := "fnExactHookDiagram", apart := false }
def FnExactHookDiagramSaid : Prop := fnExactHookDiagramRow.holds Try.pinned (OpenSpec.ofChange fnExactHookDiagramSpec)

/-- ITS FALSE NEIGHBOUR: 'it returns false'. Refute it at one input. -/
def fnExactHookDiagramWrong : ChangeSpec := { name := "fnExactHookDiagram", fn := fun _ => fun
  | [d1, d2] => { results := [.lit (.bool false)], args := [d1, d2] }
  | _ => none }
def FnExactHookDiagramWrongFalsely : Prop := fnExactHookDiagramRow.holds Try.pinned (OpenSpec.ofChange fnExactHookDiagramWrong)

/-- 'laws.FnExactMultiplyDiagrams': WHATEVER THE INPUT: true; the input reads as it did. -/
def fnExactMultiplyDiagramsSpec : ChangeSpec := { name := "fnExactMultiplyDiagrams", fn := fun _ => fun
  | [d1, d2] => { results := [.lit (.bool true)], args := [d1, d2] }
  | _ => none }
def fnExactMultiplyDiagramsRow : OpenClaim := { program := "ytcckpodpgenapaa", sum := "31e222e0848e36ceb5d386e3e63224f44cf6529641d596d74bffe7b8b4afd5d8", func := "loop.example/g03401/laws.FnExactMultiplyDiagrams", spec := "fnExactMultiplyDiagrams", unfollowed := true, recurses := true, apart := false }
def FnExactMultiplyDiagramsSaid : Prop := fnExactMultiplyDiagramsRow.holds Try.pinned (OpenSpec.ofChange fnExactMultiplyDiagramsSpec)

/-- ITS FALSE NEIGHBOUR: 'it returns false'. Refute it at one input. -/
def fnExactMultiplyDiagramsWrong : ChangeSpec := { name := "fnExactMultiplyDiagrams", fn := fun _ => fun
  | [d1, d2] => { results := [.lit (.bool false)], args := [d1, d2] }
  | _ => none }
def FnExactMultiplyDiagramsWrongFalsely : Prop := fnExactMultiplyDiagramsRow.holds Try.pinned (OpenSpec.ofChange fnExactMultiplyDiagramsWrong)

/-- 'laws.FnExactTraceLoops': WHATEVER THE INPUT: true; the input reads as it did. -/
def fnExactTraceLoopsSpec : ChangeSpec := { name := "fnExactTraceLoops", fn := fun _ => fun
  | [d] => { results := [.lit (.bool true)], args := [d] }
  | _ => none }
def fnExactTraceLoopsRow : OpenClaim := { program := "ytcckpodpgenapaa", sum := "31e222e0848e36ceb5d386e3e63224f44cf6529641d596d74bffe7b8b4afd5d8", func := "loop.example/g03401/laws.FnExactTraceLoops", spec := "fnExactTraceLoops", unfollowed := true, recurses := true, apart := false }
def FnExactTraceLoopsSaid : Prop := fnExactTraceLoopsRow.holds Try.pinned (OpenSpec.ofChange fnExactTraceLoopsSpec)

/-- ITS FALSE NEIGHBOUR: 'it returns false'. Refute it at one input. -/
def fnExactTraceLoopsWrong : ChangeSpec := { name := "fnExactTraceLoops", fn := fun _ => fun
  | [d] => { results := [.lit (.bool false)], args := [d] }
  | _ => none }
def FnExactTraceLoopsWrongFalsely : Prop := fnExactTraceLoopsRow.holds Try.pinned (OpenSpec.ofChange fnExactTraceLoopsWrong)

/-- 'laws.FnExactThroughOf': WHATEVER THE INPUT: true; the input reads as it did. -/
def fnExactThroughOfSpec : ChangeSpec := { name := "fnExactThroughOf", fn := fun _ => fun
  | [d] => { results := [.lit (.bool true)], args := [d] }
  | _ => none }
def fnExactThroughOfRow : OpenClaim := { program := "ytcckpodpgenapaa", sum := "31e222e0848e36ceb5d386e3e63224f44cf6529641d596d74bffe7b8b4afd5d8", func := "loop.example/g03401/laws.FnExactThroughOf", spec := "fnExactThroughOf", unfollowed := true, recurses := true, apart := false }
def FnExactThroughOfSaid : Prop := fnExactThroughOfRow.holds Try.pinned (OpenSpec.ofChange fnExactThroughOfSpec)

/-- ITS FALSE NEIGHBOUR: 'it returns false'. Refute it at one input. -/
def fnExactThroughOfWrong : ChangeSpec := { name := "fnExactThroughOf", fn := fun _ => fun
  | [d] => { results := [.lit (.bool false)], args := [d] }
  | _ => none }
def FnExactThroughOfWrongFalsely : Prop := fnExactThroughOfRow.holds Try.pinned (OpenSpec.ofChange fnExactThroughOfWrong)

/-- 'laws.FnExactDiagramOfWord': WHATEVER THE INPUT: true; the input reads as it did. -/
def fnExactDiagramOfWordSpec : ChangeSpec := { name := "fnExactDiagramOfWord", fn := fun _ => fun
  | [d1, d2] => { results := [.lit (.bool true)], args := [d1, d2] }
  | _ => none }
def fnExactDiagramOfWordRow : OpenClaim := { program := "ytcckpodpgenapaa", sum := "31e222e0848e36ceb5d386e3e63224f44cf6529641d596d74bffe7b8b4afd5d8", func := "loop.example/g03401/laws.FnExactDiagramOfWord", spec := "fnExactDiagramOfWord", unfollowed := true, recurses := true, apart := false }
def FnExactDiagramOfWordSaid : Prop := fnExactDiagramOfWordRow.holds Try.pinned (OpenSpec.ofChange fnExactDiagramOfWordSpec)

/-- ITS FALSE NEIGHBOUR: 'it returns false'. Refute it at one input. -/
def fnExactDiagramOfWordWrong : ChangeSpec := { name := "fnExactDiagramOfWord", fn := fun _ => fun
  | [d1, d2] => { results := [.lit (.bool false)], args := [d1, d2] }
  | _ => none }
def FnExactDiagramOfWordWrongFalsely : Prop := fnExactDiagramOfWordRow.holds Try.pinned (OpenSpec.ofChange fnExactDiagramOfWordWrong)

/-- 'laws.FnExactFlipDiagram': WHATEVER THE INPUT: true; the input reads as it did. -/
def fnExactFlipDiagramSpec : ChangeSpec := { name := "fnExactFlipDiagram", fn := fun _ => fun
  | [d] => { results := [.lit (.bool true)], args := [d] }
  | _ => none }
def fnExactFlipDiagramRow : OpenClaim := { program := "ytcckpodpgenapaa", sum := "31e222e0848e36ceb5d386e3e63224f44cf6529641d596d74bffe7b8b4afd5d8", func := "loop.example/g03401/laws.FnExactFlipDiagram", spec := "fnExactFlipDiagram", unfollowed := true, recurses := true, apart := false }
def FnExactFlipDiagramSaid : Prop := fnExactFlipDiagramRow.holds Try.pinned (OpenSpec.ofChange fnExactFlipDiagramSpec)

/-- ITS FALSE NEIGHBOUR: 'it returns false'. Refute it at one input. -/
def fnExactFlipDiagramWrong : ChangeSpec := { name := "fnExactFlipDiagram", fn := fun _ => fun
  | [d] => { results := [.lit (.bool false)], args := [d] }
  | _ => none }
def FnExactFlipDiagramWrongFalsely : Prop := fnExactFlipDiagramRow.holds Try.pinned (OpenSpec.ofChange fnExactFlipDiagramWrong)

/-- 'laws.FnExactDiagramNumber': WHATEVER THE INPUT: true; the input reads as it did. -/
def fnExactDiagramNumberSpec : ChangeSpec := { name := "fnExactDiagramNumber", fn := fun _ => fun
  | [d] => { results := [.lit (.bool true)], args := [d] }
  | _ => none }
def fnExactDiagramNumberRow : OpenClaim := { program := "ytcckpodpgenapaa", sum := "31e222e0848e36ceb5d386e3e63224f44cf6529641d596d74bffe7b8b4afd5d8", func := "loop.example/g03401/laws.FnExactDiagramNumber", spec := "fnExactDiagramNumber", inPlace := ["internal/abi.NoEscape"], unfollowed := true, recurses := true, apart := false }
def FnExactDiagramNumberSaid : Prop := fnExactDiagramNumberRow.holds Try.pinned (OpenSpec.ofChange fnExactDiagramNumberSpec)

/-- ITS FALSE NEIGHBOUR: 'it returns false'. Refute it at one input. -/
def fnExactDiagramNumberWrong : ChangeSpec := { name := "fnExactDiagramNumber", fn := fun _ => fun
  | [d] => { results := [.lit (.bool false)], args := [d] }
  | _ => none }
def FnExactDiagramNumberWrongFalsely : Prop := fnExactDiagramNumberRow.holds Try.pinned (OpenSpec.ofChange fnExactDiagramNumberWrong)

/-- 'laws.FnExactLoopsOf': WHATEVER THE INPUT: true; the input reads as it did. -/
def fnExactLoopsOfSpec : ChangeSpec := { name := "fnExactLoopsOf", fn := fun _ => fun
  | [d1, d2] => { results := [.lit (.bool true)], args := [d1, d2] }
  | _ => none }
def fnExactLoopsOfRow : OpenClaim := { program := "ytcckpodpgenapaa", sum := "31e222e0848e36ceb5d386e3e63224f44cf6529641d596d74bffe7b8b4afd5d8", func := "loop.example/g03401/laws.FnExactLoopsOf", spec := "fnExactLoopsOf", unfollowed := true, recurses := true, apart := false }
def FnExactLoopsOfSaid : Prop := fnExactLoopsOfRow.holds Try.pinned (OpenSpec.ofChange fnExactLoopsOfSpec)

/-- ITS FALSE NEIGHBOUR: 'it returns false'. Refute it at one input. -/
def fnExactLoopsOfWrong : ChangeSpec := { name := "fnExactLoopsOf", fn := fun _ => fun
  | [d1, d2] => { results := [.lit (.bool false)], args := [d1, d2] }
  | _ => none }
def FnExactLoopsOfWrongFalsely : Prop := fnExactLoopsOfRow.holds Try.pinned (OpenSpec.ofChange fnExactLoopsOfWrong)

/-- 'laws.FnExactIsMeander': WHATEVER THE INPUT: true; the input reads as it did. -/
def fnExactIsMeanderSpec : ChangeSpec := { name := "fnExactIsMeander", fn := fun _ => fun
  | [d1, d2] => { results := [.lit (.bool true)], args := [d1, d2] }
  | _ => none }
def fnExactIsMeanderRow : OpenClaim := { program := "ytcckpodpgenapaa", sum := "31e222e0848e36ceb5d386e3e63224f44cf6529641d596d74bffe7b8b4afd5d8", func := "loop.example/g03401/laws.FnExactIsMeander", spec := "fnExactIsMeander", unfollowed := true, recurses := true, apart := false }
def FnExactIsMeanderSaid : Prop := fnExactIsMeanderRow.holds Try.pinned (OpenSpec.ofChange fnExactIsMeanderSpec)

/-- ITS FALSE NEIGHBOUR: 'it returns false'. Refute it at one input. -/
def fnExactIsMeanderWrong : ChangeSpec := { name := "fnExactIsMeander", fn := fun _ => fun
  | [d1, d2] => { results := [.lit (.bool false)], args := [d1, d2] }
  | _ => none }
def FnExactIsMeanderWrongFalsely : Prop := fnExactIsMeanderRow.holds Try.pinned (OpenSpec.ofChange fnExactIsMeanderWrong)

/-- 'laws.FnExactTurnMeander': WHATEVER THE INPUT: true; the input reads as it did. -/
def fnExactTurnMeanderSpec : ChangeSpec := { name := "fnExactTurnMeander", fn := fun _ => fun
  | [d1, d2] => { results := [.lit (.bool true)], args := [d1, d2] }
  | _ => none }
def fnExactTurnMeanderRow : OpenClaim := { program := "ytcckpodpgenapaa", sum := "31e222e0848e36ceb5d386e3e63224f44cf6529641d596d74bffe7b8b4afd5d8", func := "loop.example/g03401/laws.FnExactTurnMeander", spec := "fnExactTurnMeander", unfollowed := true, recurses := true, apart := false }
def FnExactTurnMeanderSaid : Prop := fnExactTurnMeanderRow.holds Try.pinned (OpenSpec.ofChange fnExactTurnMeanderSpec)

/-- ITS FALSE NEIGHBOUR: 'it returns false'. Refute it at one input. -/
def fnExactTurnMeanderWrong : ChangeSpec := { name := "fnExactTurnMeander", fn := fun _ => fun
  | [d1, d2] => { results := [.lit (.bool false)], args := [d1, d2] }
  | _ => none }
def FnExactTurnMeanderWrongFalsely : Prop := fnExactTurnMeanderRow.holds Try.pinned (OpenSpec.ofChange fnExactTurnMeanderWrong)

/- THE SECOND FORM. 'bulk': how many values and letters a reading holds, each counted each time it is reached (what is shared counts as often as it is met; a slice's spare places count too). A statement '..UptoSaid' is the law's where the arguments, and the package variables that the reading takes, are together of bulk at most 1048576: NARROWER than '..Said'. Prove '..Said' where nothing that the law and all that it calls make is longer than what came in: it says more and counts as full. Else prove '..UptoSaid'. A law counts once. -/
mutual
def uptoBulk {H : Type} : DataW H → Nat
  | .lit (.string bytes) => bytes.length + 1
  | .lit _ => 1
  | .nil => 1
  | .ptr d => uptoBulk d + 1
  | .slice elems spare => uptoBulkAll elems + uptoBulkAll spare + 1
  | .agg parts => uptoBulkAll parts + 1
  | .iface _ d => uptoBulk d + 1
  | .map entries => uptoBulkEntries entries + 1
  | .held _ => 1
def uptoBulkAll {H : Type} : List (DataW H) → Nat
  | [] => 0
  | d :: r => uptoBulk d + uptoBulkAll r
def uptoBulkEntries {H : Type} : List (Lit × DataW H) → Nat
  | [] => 0
  | x :: r => uptoBulkEntry x + uptoBulkEntries r
def uptoBulkEntry {H : Type} : Lit × DataW H → Nat
  | (.string bytes, d) => bytes.length + uptoBulk d + 1
  | (_, d) => uptoBulk d + 1
 end
def uptoSmall : (H : Type) → List (DataW H) → Bool := fun _ ds => decide (uptoBulkAll ds ≤ 1048576)
def OpenSpec.upto (s : _root_.Go.ChangeSpec) : _root_.Go.OpenSpec := { _root_.Go.OpenSpec.ofChange s with cond := some uptoSmall }

/-- 'laws.FnExactIsDiagram', WHERE WHAT IT READS IS OF BULK AT MOST 1048576: true; the input reads as it did. -/
def fnExactIsDiagramUptoRow : OpenClaim := { program := "ytcckpodpgenapaa", sum := "31e222e0848e36ceb5d386e3e63224f44cf6529641d596d74bffe7b8b4afd5d8", func := "loop.example/g03401/laws.FnExactIsDiagram", spec := "fnExactIsDiagram", unfollowed := true, recurses := true, apart := false, narrowed := true }
def FnExactIsDiagramUptoSaid : Prop := fnExactIsDiagramUptoRow.holds Try.pinned (OpenSpec.upto fnExactIsDiagramSpec)

/-- 'laws.FnExactIdentityDiagram', WHERE WHAT IT READS IS OF BULK AT MOST 1048576: true; the input reads as it did. -/
def fnExactIdentityDiagramUptoRow : OpenClaim := { program := "ytcckpodpgenapaa", sum := "31e222e0848e36ceb5d386e3e63224f44cf6529641d596d74bffe7b8b4afd5d8", func := "loop.example/g03401/laws.FnExactIdentityDiagram", spec := "fnExactIdentityDiagram", apart := false, narrowed := true }
def FnExactIdentityDiagramUptoSaid : Prop := fnExactIdentityDiagramUptoRow.holds Try.pinned (OpenSpec.upto fnExactIdentityDiagramSpec)

/-- 'laws.FnExactHookDiagram', WHERE WHAT IT READS IS OF BULK AT MOST 1048576: true; the input reads as it did. -/
def fnExactHookDiagramUptoRow : OpenClaim := { program := "ytcckpodpgenapaa", sum := "31e222e0848e36ceb5d386e3e63224f44cf6529641d596d74bffe7b8b4afd5d8", func := "loop.example/g03401/laws.FnExactHookDiagram", spec := "fnExactHookDiagram", apart := false, narrowed := true }
def FnExactHookDiagramUptoSaid : Prop := fnExactHookDiagramUptoRow.holds Try.pinned (OpenSpec.upto fnExactHookDiagramSpec)

/-- 'laws.FnExactMultiplyDiagrams', WHERE WHAT IT READS IS OF BULK AT MOST 1048576: true; the input reads as it did. -/
def fnExactMultiplyDiagramsUptoRow : OpenClaim := { program := "ytcckpodpgenapaa", sum := "31e222e0848e36ceb5d386e3e63224f44cf6529641d596d74bffe7b8b4afd5d8", func := "loop.example/g03401/laws.FnExactMultiplyDiagrams", spec := "fnExactMultiplyDiagrams", unfollowed := true, recurses := true, apart := false, narrowed := true }
def FnExactMultiplyDiagramsUptoSaid : Prop := fnExactMultiplyDiagramsUptoRow.holds Try.pinned (OpenSpec.upto fnExactMultiplyDiagramsSpec)

/-- 'laws.FnExactTraceLoops', WHERE WHAT IT READS IS OF BULK AT MOST 1048576: true; the input reads as it did. -/
def fnExactTraceLoopsUptoRow : OpenClaim := { program := "ytcckpodpgenapaa", sum := "31e222e0848e36ceb5d386e3e63224f44cf6529641d596d74bffe7b8b4afd5d8", func := "loop.example/g03401/laws.FnExactTraceLoops", spec := "fnExactTraceLoops", unfollowed := true, recurses := true, apart := false, narrowed := true }
def FnExactTraceLoopsUptoSaid : Prop := fnExactTraceLoopsUptoRow.holds Try.pinned (OpenSpec.upto fnExactTraceLoopsSpec)

/-- 'laws.FnExactThroughOf', WHERE WHAT IT READS IS OF BULK AT MOST 1048576: true; the input reads as it did. -/
def fnExactThroughOfUptoRow : OpenClaim := { program := "ytcckpodpgenapaa", sum := "31e222e0848e36ceb5d386e3e63224f44cf6529641d596d74bffe7b8b4afd5d8", func := "loop.example/g03401/laws.FnExactThroughOf", spec := "fnExactThroughOf", unfollowed := true, recurses := true, apart := false, narrowed := true }
def FnExactThroughOfUptoSaid : Prop := fnExactThroughOfUptoRow.holds Try.pinned (OpenSpec.upto fnExactThroughOfSpec)

/-- 'laws.FnExactDiagramOfWord', WHERE WHAT IT READS IS OF BULK AT MOST 1048576: true; the input reads as it did. -/
def fnExactDiagramOfWordUptoRow : OpenClaim := { program := "ytcckpodpgenapaa", sum := "31e222e0848e36ceb5d386e3e63224f44cf6529641d596d74bffe7b8b4afd5d8", func := "loop.example/g03401/laws.FnExactDiagramOfWord", spec := "fnExactDiagramOfWord", unfollowed := true, recurses := true, apart := false, narrowed := true }
def FnExactDiagramOfWordUptoSaid : Prop := fnExactDiagramOfWordUptoRow.holds Try.pinned (OpenSpec.upto fnExactDiagramOfWordSpec)

/-- 'laws.FnExactFlipDiagram', WHERE WHAT IT READS IS OF BULK AT MOST 1048576: true; the input reads as it did. -/
def fnExactFlipDiagramUptoRow : OpenClaim := { program := "ytcckpodpgenapaa", sum := "31e222e0848e36ceb5d386e3e63224f44cf6529641d596d74bffe7b8b4afd5d8", func := "loop.example/g03401/laws.FnExactFlipDiagram", spec := "fnExactFlipDiagram", unfollowed := true, recurses := true, apart := false, narrowed := true }
def FnExactFlipDiagramUptoSaid : Prop := fnExactFlipDiagramUptoRow.holds Try.pinned (OpenSpec.upto fnExactFlipDiagramSpec)

/-- 'laws.FnExactDiagramNumber', WHERE WHAT IT READS IS OF BULK AT MOST 1048576: true; the input reads as it did. -/
def fnExactDiagramNumberUptoRow : OpenClaim := { program := "ytcckpodpgenapaa", sum := "31e222e0848e36ceb5d386e3e63224f44cf6529641d596d74bffe7b8b4afd5d8", func := "loop.example/g03401/laws.FnExactDiagramNumber", spec := "fnExactDiagramNumber", inPlace := ["internal/abi.NoEscape"], unfollowed := true, recurses := true, apart := false, narrowed := true }
def FnExactDiagramNumberUptoSaid : Prop := fnExactDiagramNumberUptoRow.holds Try.pinned (OpenSpec.upto fnExactDiagramNumberSpec)

/-- 'laws.FnExactLoopsOf', WHERE WHAT IT READS IS OF BULK AT MOST 1048576: true; the input reads as it did. -/
def fnExactLoopsOfUptoRow : OpenClaim := { program := "ytcckpodpgenapaa", sum := "31e222e0848e36ceb5d386e3e63224f44cf6529641d596d74bffe7b8b4afd5d8", func := "loop.example/g03401/laws.FnExactLoopsOf", spec := "fnExactLoopsOf", unfollowed := true, recurses := true, apart := false, narrowed := true }
def FnExactLoopsOfUptoSaid : Prop := fnExactLoopsOfUptoRow.holds Try.pinned (OpenSpec.upto fnExactLoopsOfSpec)

/-- 'laws.FnExactIsMeander', WHERE WHAT IT READS IS OF BULK AT MOST 1048576: true; the input reads as it did. -/
def fnExactIsMeanderUptoRow : OpenClaim := { program := "ytcckpodpgenapaa", sum := "31e222e0848e36ceb5d386e3e63224f44cf6529641d596d74bffe7b8b4afd5d8", func := "loop.example/g03401/laws.FnExactIsMeander", spec := "fnExactIsMeander", unfollowed := true, recurses := true, apart := false, narrowed := true }
def FnExactIsMeanderUptoSaid : Prop := fnExactIsMeanderUptoRow.holds Try.pinned (OpenSpec.upto fnExactIsMeanderSpec)

/-- 'laws.FnExactTurnMeander', WHERE WHAT IT READS IS OF BULK AT MOST 1048576: true; the input reads as it did. -/
def fnExactTurnMeanderUptoRow : OpenClaim := { program := "ytcckpodpgenapaa", sum := "31e222e0848e36ceb5d386e3e63224f44cf6529641d596d74bffe7b8b4afd5d8", func := "loop.example/g03401/laws.FnExactTurnMeander", spec := "fnExactTurnMeander", unfollowed := true, recurses := true, apart := false, narrowed := true }
def FnExactTurnMeanderUptoSaid : Prop := fnExactTurnMeanderUptoRow.holds Try.pinned (OpenSpec.upto fnExactTurnMeanderSpec)

end Rows
end Go.Proofs.Ytcckpodpgenapaa
