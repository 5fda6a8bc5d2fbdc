/-
  No cell of these rows narrows 'for every input' (looked for: loops, veiled, ifaces, maps, wideKeys, modest, calm, conditions, laid).
  DERIVED. THE GIVEN ROWS OF THIS SEAT. 11 by the template 'for every input the law returns true; each argument reads behind the call as it read before'; 0 by the template 'total and deterministic' (their statements: YtamepojgpeblpaaTotals.lean).
  GIVEN WITH THE SEED: the statements are not yours to turn. If you find one false, say at which input.
  Laid BY PROGRAM, IN A SANDBOX (cutbox-rows.mjs): the forced cells as the released guide's own fill.sh prints them over the translation b3b2630f6de606dc… (all of the seat's roots in one cut). By AI agents, Wed Nov 11 2026. No macro, syntax, notation, axiom, sorry.
-/
import Derived.Test.YtamepojgpeblpaaChecked
import GoSem.Claim
import GoSem.ClaimJoined
import GoSem.ClaimMapViews
import Derived.JoinedTies
import Derived.KernelRfl
namespace Go.Proofs.Ytamepojgpeblpaa
/- THE CELL 'sum', in the pinned program and in every row, IS THE sha256 OF THE DUMP (.gsa) THAT YtamepojgpeblpaaProg.lean LOADS. Nothing in Lean hashes anything: it is a label: what it is worth is what the hold of that sum in a sandbox is worth. -/
noncomputable def Try.pinned : Pinned := { name := "ytamepojgpeblpaa", sum := "b3b2630f6de606dcc7855e534f64ebbb0134433dd1cbd3265c59943d3fbd9e1b", checked := Try.checked }
namespace Rows
def none {H : Type} : Left H := { results := [], args := [] }

/-- 'laws.FnExactSortOnce': WHATEVER THE INPUT: true; the input reads as it did. -/
def fnExactSortOnceSpec : ChangeSpec := { name := "fnExactSortOnce", fn := fun _ => fun
  | [d] => { results := [.lit (.bool true)], args := [d] }
  | _ => none }
def fnExactSortOnceRow : OpenClaim := { program := "ytamepojgpeblpaa", sum := "b3b2630f6de606dcc7855e534f64ebbb0134433dd1cbd3265c59943d3fbd9e1b", func := "loop.example/g03401/laws.FnExactSortOnce", spec := "fnExactSortOnce", unfollowed := true, recurses := true, apart := false }
def FnExactSortOnceSaid : Prop := fnExactSortOnceRow.holds Try.pinned (OpenSpec.ofChange fnExactSortOnceSpec)

/-- ITS FALSE NEIGHBOUR: 'it returns false'. Refute it at one input. -/
def fnExactSortOnceWrong : ChangeSpec := { name := "fnExactSortOnce", fn := fun _ => fun
  | [d] => { results := [.lit (.bool false)], args := [d] }
  | _ => none }
def FnExactSortOnceWrongFalsely : Prop := fnExactSortOnceRow.holds Try.pinned (OpenSpec.ofChange fnExactSortOnceWrong)

/-- 'laws.FnExactIsSortable': WHATEVER THE INPUT: true; the input reads as it did. -/
def fnExactIsSortableSpec : ChangeSpec := { name := "fnExactIsSortable", fn := fun _ => fun
  | [d] => { results := [.lit (.bool true)], args := [d] }
  | _ => none }
def fnExactIsSortableRow : OpenClaim := { program := "ytamepojgpeblpaa", sum := "b3b2630f6de606dcc7855e534f64ebbb0134433dd1cbd3265c59943d3fbd9e1b", func := "loop.example/g03401/laws.FnExactIsSortable", spec := "fnExactIsSortable", unfollowed := true, recurses := true, apart := false }
def FnExactIsSortableSaid : Prop := fnExactIsSortableRow.holds Try.pinned (OpenSpec.ofChange fnExactIsSortableSpec)

/-- ITS FALSE NEIGHBOUR: 'it returns false'. Refute it at one input. -/
def fnExactIsSortableWrong : ChangeSpec := { name := "fnExactIsSortable", fn := fun _ => fun
  | [d] => { results := [.lit (.bool false)], args := [d] }
  | _ => none }
def FnExactIsSortableWrongFalsely : Prop := fnExactIsSortableRow.holds Try.pinned (OpenSpec.ofChange fnExactIsSortableWrong)

/-- 'laws.FnExactPassesOf': WHATEVER THE INPUT: true; the input reads as it did. -/
def fnExactPassesOfSpec : ChangeSpec := { name := "fnExactPassesOf", fn := fun _ => fun
  | [d] => { results := [.lit (.bool true)], args := [d] }
  | _ => none }
def fnExactPassesOfRow : OpenClaim := { program := "ytamepojgpeblpaa", sum := "b3b2630f6de606dcc7855e534f64ebbb0134433dd1cbd3265c59943d3fbd9e1b", func := "loop.example/g03401/laws.FnExactPassesOf", spec := "fnExactPassesOf", unfollowed := true, recurses := true, apart := false }
def FnExactPassesOfSaid : Prop := fnExactPassesOfRow.holds Try.pinned (OpenSpec.ofChange fnExactPassesOfSpec)

/-- ITS FALSE NEIGHBOUR: 'it returns false'. Refute it at one input. -/
def fnExactPassesOfWrong : ChangeSpec := { name := "fnExactPassesOf", fn := fun _ => fun
  | [d] => { results := [.lit (.bool false)], args := [d] }
  | _ => none }
def FnExactPassesOfWrongFalsely : Prop := fnExactPassesOfRow.holds Try.pinned (OpenSpec.ofChange fnExactPassesOfWrong)

/-- 'laws.FnExactOutputOf': WHATEVER THE INPUT: true; the input reads as it did. -/
def fnExactOutputOfSpec : ChangeSpec := { name := "fnExactOutputOf", fn := fun _ => fun
  | [d1, d2] => { results := [.lit (.bool true)], args := [d1, d2] }
  | _ => none }
def fnExactOutputOfRow : OpenClaim := { program := "ytamepojgpeblpaa", sum := "b3b2630f6de606dcc7855e534f64ebbb0134433dd1cbd3265c59943d3fbd9e1b", func := "loop.example/g03401/laws.FnExactOutputOf", spec := "fnExactOutputOf", apart := false }
def FnExactOutputOfSaid : Prop := fnExactOutputOfRow.holds Try.pinned (OpenSpec.ofChange fnExactOutputOfSpec)

/-- ITS FALSE NEIGHBOUR: 'it returns false'. Refute it at one input. -/
def fnExactOutputOfWrong : ChangeSpec := { name := "fnExactOutputOf", fn := fun _ => fun
  | [d1, d2] => { results := [.lit (.bool false)], args := [d1, d2] }
  | _ => none }
def FnExactOutputOfWrongFalsely : Prop := fnExactOutputOfRow.holds Try.pinned (OpenSpec.ofChange fnExactOutputOfWrong)

/-- 'laws.FnExactPatternOf231': WHATEVER THE INPUT: true; the input reads as it did. -/
def fnExactPatternOf231Spec : ChangeSpec := { name := "fnExactPatternOf231", fn := fun _ => fun
  | [d] => { results := [.lit (.bool true)], args := [d] }
  | _ => none }
def fnExactPatternOf231Row : OpenClaim := { program := "ytamepojgpeblpaa", sum := "b3b2630f6de606dcc7855e534f64ebbb0134433dd1cbd3265c59943d3fbd9e1b", func := "loop.example/g03401/laws.FnExactPatternOf231", spec := "fnExactPatternOf231", unfollowed := true, recurses := true, apart := false }
def FnExactPatternOf231Said : Prop := fnExactPatternOf231Row.holds Try.pinned (OpenSpec.ofChange fnExactPatternOf231Spec)

/-- ITS FALSE NEIGHBOUR: 'it returns false'. Refute it at one input. -/
def fnExactPatternOf231Wrong : ChangeSpec := { name := "fnExactPatternOf231", fn := fun _ => fun
  | [d] => { results := [.lit (.bool false)], args := [d] }
  | _ => none }
def FnExactPatternOf231WrongFalsely : Prop := fnExactPatternOf231Row.holds Try.pinned (OpenSpec.ofChange fnExactPatternOf231Wrong)

/-- 'laws.FnExactBubbleOnce': WHATEVER THE INPUT: true; the input reads as it did. -/
def fnExactBubbleOnceSpec : ChangeSpec := { name := "fnExactBubbleOnce", fn := fun _ => fun
  | [d] => { results := [.lit (.bool true)], args := [d] }
  | _ => none }
def fnExactBubbleOnceRow : OpenClaim := { program := "ytamepojgpeblpaa", sum := "b3b2630f6de606dcc7855e534f64ebbb0134433dd1cbd3265c59943d3fbd9e1b", func := "loop.example/g03401/laws.FnExactBubbleOnce", spec := "fnExactBubbleOnce", apart := false }
def FnExactBubbleOnceSaid : Prop := fnExactBubbleOnceRow.holds Try.pinned (OpenSpec.ofChange fnExactBubbleOnceSpec)

/-- ITS FALSE NEIGHBOUR: 'it returns false'. Refute it at one input. -/
def fnExactBubbleOnceWrong : ChangeSpec := { name := "fnExactBubbleOnce", fn := fun _ => fun
  | [d] => { results := [.lit (.bool false)], args := [d] }
  | _ => none }
def FnExactBubbleOnceWrongFalsely : Prop := fnExactBubbleOnceRow.holds Try.pinned (OpenSpec.ofChange fnExactBubbleOnceWrong)

/-- 'laws.FnExactCountSortable': WHATEVER THE INPUT: true; the input reads as it did. -/
def fnExactCountSortableSpec : ChangeSpec := { name := "fnExactCountSortable", fn := fun _ => fun
  | [d1, d2] => { results := [.lit (.bool true)], args := [d1, d2] }
  | _ => none }
def fnExactCountSortableRow : OpenClaim := { program := "ytamepojgpeblpaa", sum := "b3b2630f6de606dcc7855e534f64ebbb0134433dd1cbd3265c59943d3fbd9e1b", func := "loop.example/g03401/laws.FnExactCountSortable", spec := "fnExactCountSortable", unfollowed := true, recurses := true, apart := false }
def FnExactCountSortableSaid : Prop := fnExactCountSortableRow.holds Try.pinned (OpenSpec.ofChange fnExactCountSortableSpec)

/-- ITS FALSE NEIGHBOUR: 'it returns false'. Refute it at one input. -/
def fnExactCountSortableWrong : ChangeSpec := { name := "fnExactCountSortable", fn := fun _ => fun
  | [d1, d2] => { results := [.lit (.bool false)], args := [d1, d2] }
  | _ => none }
def FnExactCountSortableWrongFalsely : Prop := fnExactCountSortableRow.holds Try.pinned (OpenSpec.ofChange fnExactCountSortableWrong)

/-- 'laws.FnExactContains231': WHATEVER THE INPUT: true; the input reads as it did. -/
def fnExactContains231Spec : ChangeSpec := { name := "fnExactContains231", fn := fun _ => fun
  | [d] => { results := [.lit (.bool true)], args := [d] }
  | _ => none }
def fnExactContains231Row : OpenClaim := { program := "ytamepojgpeblpaa", sum := "b3b2630f6de606dcc7855e534f64ebbb0134433dd1cbd3265c59943d3fbd9e1b", func := "loop.example/g03401/laws.FnExactContains231", spec := "fnExactContains231", unfollowed := true, recurses := true, apart := false }
def FnExactContains231Said : Prop := fnExactContains231Row.holds Try.pinned (OpenSpec.ofChange fnExactContains231Spec)

/-- ITS FALSE NEIGHBOUR: 'it returns false'. Refute it at one input. -/
def fnExactContains231Wrong : ChangeSpec := { name := "fnExactContains231", fn := fun _ => fun
  | [d] => { results := [.lit (.bool false)], args := [d] }
  | _ => none }
def FnExactContains231WrongFalsely : Prop := fnExactContains231Row.holds Try.pinned (OpenSpec.ofChange fnExactContains231Wrong)

/-- 'laws.FnExactContains321': WHATEVER THE INPUT: true; the input reads as it did. -/
def fnExactContains321Spec : ChangeSpec := { name := "fnExactContains321", fn := fun _ => fun
  | [d] => { results := [.lit (.bool true)], args := [d] }
  | _ => none }
def fnExactContains321Row : OpenClaim := { program := "ytamepojgpeblpaa", sum := "b3b2630f6de606dcc7855e534f64ebbb0134433dd1cbd3265c59943d3fbd9e1b", func := "loop.example/g03401/laws.FnExactContains321", spec := "fnExactContains321", unfollowed := true, recurses := true, apart := false }
def FnExactContains321Said : Prop := fnExactContains321Row.holds Try.pinned (OpenSpec.ofChange fnExactContains321Spec)

/-- ITS FALSE NEIGHBOUR: 'it returns false'. Refute it at one input. -/
def fnExactContains321Wrong : ChangeSpec := { name := "fnExactContains321", fn := fun _ => fun
  | [d] => { results := [.lit (.bool false)], args := [d] }
  | _ => none }
def FnExactContains321WrongFalsely : Prop := fnExactContains321Row.holds Try.pinned (OpenSpec.ofChange fnExactContains321Wrong)

/-- 'laws.FnExactPermutationOf': WHATEVER THE INPUT: true; the input reads as it did. -/
def fnExactPermutationOfSpec : ChangeSpec := { name := "fnExactPermutationOf", fn := fun _ => fun
  | [d] => { results := [.lit (.bool true)], args := [d] }
  | _ => none }
def fnExactPermutationOfRow : OpenClaim := { program := "ytamepojgpeblpaa", sum := "b3b2630f6de606dcc7855e534f64ebbb0134433dd1cbd3265c59943d3fbd9e1b", func := "loop.example/g03401/laws.FnExactPermutationOf", spec := "fnExactPermutationOf", apart := false }
def FnExactPermutationOfSaid : Prop := fnExactPermutationOfRow.holds Try.pinned (OpenSpec.ofChange fnExactPermutationOfSpec)

/-- ITS FALSE NEIGHBOUR: 'it returns false'. Refute it at one input. -/
def fnExactPermutationOfWrong : ChangeSpec := { name := "fnExactPermutationOf", fn := fun _ => fun
  | [d] => { results := [.lit (.bool false)], args := [d] }
  | _ => none }
def FnExactPermutationOfWrongFalsely : Prop := fnExactPermutationOfRow.holds Try.pinned (OpenSpec.ofChange fnExactPermutationOfWrong)

/-- 'laws.FnExactAvoiders': WHATEVER THE INPUT: true; the input reads as it did. -/
def fnExactAvoidersSpec : ChangeSpec := { name := "fnExactAvoiders", fn := fun _ => fun
  | [d1, d2] => { results := [.lit (.bool true)], args := [d1, d2] }
  | _ => none }
def fnExactAvoidersRow : OpenClaim := { program := "ytamepojgpeblpaa", sum := "b3b2630f6de606dcc7855e534f64ebbb0134433dd1cbd3265c59943d3fbd9e1b", func := "loop.example/g03401/laws.FnExactAvoiders", spec := "fnExactAvoiders", unfollowed := true, recurses := true, apart := false }
def FnExactAvoidersSaid : Prop := fnExactAvoidersRow.holds Try.pinned (OpenSpec.ofChange fnExactAvoidersSpec)

/-- ITS FALSE NEIGHBOUR: 'it returns false'. Refute it at one input. -/
def fnExactAvoidersWrong : ChangeSpec := { name := "fnExactAvoiders", fn := fun _ => fun
  | [d1, d2] => { results := [.lit (.bool false)], args := [d1, d2] }
  | _ => none }
def FnExactAvoidersWrongFalsely : Prop := fnExactAvoidersRow.holds Try.pinned (OpenSpec.ofChange fnExactAvoidersWrong)

/- THE SECOND FORM. 'bulk': how many values and letters a reading holds, each counted each time it is reached (what is shared counts as often as it is met; a slice's spare places count too). A statement '..UptoSaid' is the law's where the arguments, and the package variables that the reading takes, are together of bulk at most 1048576: NARROWER than '..Said'. Prove '..Said' where nothing that the law and all that it calls make is longer than what came in: it says more and counts as full. Else prove '..UptoSaid'. A law counts once. -/
mutual
def uptoBulk {H : Type} : DataW H → Nat
  | .lit (.string bytes) => bytes.length + 1
  | .lit _ => 1
  | .nil => 1
  | .ptr d => uptoBulk d + 1
  | .slice elems spare => uptoBulkAll elems + uptoBulkAll spare + 1
  | .agg parts => uptoBulkAll parts + 1
  | .iface _ d => uptoBulk d + 1
  | .map entries => uptoBulkEntries entries + 1
  | .held _ => 1
def uptoBulkAll {H : Type} : List (DataW H) → Nat
  | [] => 0
  | d :: r => uptoBulk d + uptoBulkAll r
def uptoBulkEntries {H : Type} : List (Lit × DataW H) → Nat
  | [] => 0
  | x :: r => uptoBulkEntry x + uptoBulkEntries r
def uptoBulkEntry {H : Type} : Lit × DataW H → Nat
  | (.string bytes, d) => bytes.length + uptoBulk d + 1
  | (_, d) => uptoBulk d + 1
 end
def uptoSmall : (H : Type) → List (DataW H) → Bool := fun _ ds => decide (uptoBulkAll ds ≤ 1048576)
def OpenSpec.upto (s : _root_.Go.ChangeSpec) : _root_.Go.OpenSpec := { _root_.Go.OpenSpec.ofChange s with cond := some uptoSmall }

/-- 'laws.FnExactSortOnce', WHERE WHAT IT READS IS OF BULK AT MOST 1048576: true; the input reads as it did. -/
def fnExactSortOnceUptoRow : OpenClaim := { program := "ytamepojgpeblpaa", sum := "b3b2630f6de606dcc7855e534f64ebbb0134433dd1cbd3265c59943d3fbd9e1b", func := "loop.example/g03401/laws.FnExactSortOnce", spec := "fnExactSortOnce", unfollowed := true, recurses := true, apart := false, narrowed := true }
def FnExactSortOnceUptoSaid : Prop := fnExactSortOnceUptoRow.holds Try.pinned (OpenSpec.upto fnExactSortOnceSpec)

/-- 'laws.FnExactIsSortable', WHERE WHAT IT READS IS OF BULK AT MOST 1048576: true; the input reads as it did. -/
def fnExactIsSortableUptoRow : OpenClaim := { program := "ytamepojgpeblpaa", sum := "b3b2630f6de606dcc7855e534f64ebbb0134433dd1cbd3265c59943d3fbd9e1b", func := "loop.example/g03401/laws.FnExactIsSortable", spec := "fnExactIsSortable", unfollowed := true, recurses := true, apart := false, narrowed := true }
def FnExactIsSortableUptoSaid : Prop := fnExactIsSortableUptoRow.holds Try.pinned (OpenSpec.upto fnExactIsSortableSpec)

/-- 'laws.FnExactPassesOf', WHERE WHAT IT READS IS OF BULK AT MOST 1048576: true; the input reads as it did. -/
def fnExactPassesOfUptoRow : OpenClaim := { program := "ytamepojgpeblpaa", sum := "b3b2630f6de606dcc7855e534f64ebbb0134433dd1cbd3265c59943d3fbd9e1b", func := "loop.example/g03401/laws.FnExactPassesOf", spec := "fnExactPassesOf", unfollowed := true, recurses := true, apart := false, narrowed := true }
def FnExactPassesOfUptoSaid : Prop := fnExactPassesOfUptoRow.holds Try.pinned (OpenSpec.upto fnExactPassesOfSpec)

/-- 'laws.FnExactOutputOf', WHERE WHAT IT READS IS OF BULK AT MOST 1048576: true; the input reads as it did. -/
def fnExactOutputOfUptoRow : OpenClaim := { program := "ytamepojgpeblpaa", sum := "b3b2630f6de606dcc7855e534f64ebbb0134433dd1cbd3265c59943d3fbd9e1b", func := "loop.example/g03401/laws.FnExactOutputOf", spec := "fnExactOutputOf", apart := false, narrowed := true }
def FnExactOutputOfUptoSaid : Prop := fnExactOutputOfUptoRow.holds Try.pinned (OpenSpec.upto fnExactOutputOfSpec)

/-- 'laws.FnExactPatternOf231', WHERE WHAT IT READS IS OF BULK AT MOST 1048576: true; the input reads as it did. -/
def fnExactPatternOf231UptoRow : OpenClaim := { program := "ytamepojgpeblpaa", sum := "b3b2630f6de606dcc7855e534f64ebbb0134433dd1cbd3265c59943d3fbd9e1b", func := "loop.example/g03401/laws.FnExactPatternOf231", spec := "fnExactPatternOf231", unfollowed := true, recurses := true, apart := false, narrowed := true }
def FnExactPatternOf231UptoSaid : Prop := fnExactPatternOf231UptoRow.holds Try.pinned (OpenSpec.upto fnExactPatternOf231Spec)

/-- 'laws.FnExactBubbleOnce', WHERE WHAT IT READS IS OF BULK AT MOST 1048576: true; the input reads as it did. -/
def fnExactBubbleOnceUptoRow : OpenClaim := { program := "ytamepojgpeblpaa", sum := "b3b2630f6de606dcc7855e534f64ebbb0134433dd1cbd3265c59943d3fbd9e1b", func := "loop.example/g03401/laws.FnExactBubbleOnce", spec := "fnExactBubbleOnce", apart := false, narrowed := true }
def FnExactBubbleOnceUptoSaid : Prop := fnExactBubbleOnceUptoRow.holds Try.pinned (OpenSpec.upto fnExactBubbleOnceSpec)

/-- 'laws.FnExactCountSortable', WHERE WHAT IT READS IS OF BULK AT MOST 1048576: true; the input reads as it did. -/
def fnExactCountSortableUptoRow : OpenClaim := { program := "ytamepojgpeblpaa", sum := "b3b2630f6de606dcc7855e534f64ebbb0134433dd1cbd3265c59943d3fbd9e1b", func := "loop.example/g03401/laws.FnExactCountSortable", spec := "fnExactCountSortable", unfollowed := true, recurses := true, apart := false, narrowed := true }
def FnExactCountSortableUptoSaid : Prop := fnExactCountSortableUptoRow.holds Try.pinned (OpenSpec.upto fnExactCountSortableSpec)

/-- 'laws.FnExactContains231', WHERE WHAT IT READS IS OF BULK AT MOST 1048576: true; the input reads as it did. -/
def fnExactContains231UptoRow : OpenClaim := { program := "ytamepojgpeblpaa", sum := "b3b2630f6de606dcc7855e534f64ebbb0134433dd1cbd3265c59943d3fbd9e1b", func := "loop.example/g03401/laws.FnExactContains231", spec := "fnExactContains231", unfollowed := true, recurses := true, apart := false, narrowed := true }
def FnExactContains231UptoSaid : Prop := fnExactContains231UptoRow.holds Try.pinned (OpenSpec.upto fnExactContains231Spec)

/-- 'laws.FnExactContains321', WHERE WHAT IT READS IS OF BULK AT MOST 1048576: true; the input reads as it did. -/
def fnExactContains321UptoRow : OpenClaim := { program := "ytamepojgpeblpaa", sum := "b3b2630f6de606dcc7855e534f64ebbb0134433dd1cbd3265c59943d3fbd9e1b", func := "loop.example/g03401/laws.FnExactContains321", spec := "fnExactContains321", unfollowed := true, recurses := true, apart := false, narrowed := true }
def FnExactContains321UptoSaid : Prop := fnExactContains321UptoRow.holds Try.pinned (OpenSpec.upto fnExactContains321Spec)

/-- 'laws.FnExactPermutationOf', WHERE WHAT IT READS IS OF BULK AT MOST 1048576: true; the input reads as it did. -/
def fnExactPermutationOfUptoRow : OpenClaim := { program := "ytamepojgpeblpaa", sum := "b3b2630f6de606dcc7855e534f64ebbb0134433dd1cbd3265c59943d3fbd9e1b", func := "loop.example/g03401/laws.FnExactPermutationOf", spec := "fnExactPermutationOf", apart := false, narrowed := true }
def FnExactPermutationOfUptoSaid : Prop := fnExactPermutationOfUptoRow.holds Try.pinned (OpenSpec.upto fnExactPermutationOfSpec)

/-- 'laws.FnExactAvoiders', WHERE WHAT IT READS IS OF BULK AT MOST 1048576: true; the input reads as it did. -/
def fnExactAvoidersUptoRow : OpenClaim := { program := "ytamepojgpeblpaa", sum := "b3b2630f6de606dcc7855e534f64ebbb0134433dd1cbd3265c59943d3fbd9e1b", func := "loop.example/g03401/laws.FnExactAvoiders", spec := "fnExactAvoiders", unfollowed := true, recurses := true, apart := false, narrowed := true }
def FnExactAvoidersUptoSaid : Prop := fnExactAvoidersUptoRow.holds Try.pinned (OpenSpec.upto fnExactAvoidersSpec)

end Rows
end Go.Proofs.Ytamepojgpeblpaa
