/-
  No cell of these rows narrows 'for every input' (looked for: loops, veiled, ifaces, maps, wideKeys, modest, calm, conditions, laid).
  DERIVED. THE GIVEN ROWS OF THIS SEAT. 7 by the template 'for every input the law returns true; each argument reads behind the call as it read before'; 0 by the template 'total and deterministic' (their statements: YtbikipacfmaiaaaTotals.lean).
  GIVEN WITH THE SEED: the statements are not yours to turn. If you find one false, say at which input.
  Laid BY PROGRAM, IN A SANDBOX (cutbox-rows.mjs): the forced cells as the released guide's own fill.sh prints them over the translation 594332a98c97da23… (all of the seat's roots in one cut). By AI agents, Wed Nov 11 2026. No macro, syntax, notation, axiom, sorry.
-/
import Derived.Test.YtbikipacfmaiaaaChecked
import GoSem.Claim
import GoSem.ClaimJoined
import GoSem.ClaimMapViews
import Derived.JoinedTies
import Derived.KernelRfl
namespace Go.Proofs.Ytbikipacfmaiaaa
/- THE CELL 'sum', in the pinned program and in every row, IS THE sha256 OF THE DUMP (.gsa) THAT YtbikipacfmaiaaaProg.lean LOADS. Nothing in Lean hashes anything: it is a label: what it is worth is what the hold of that sum in a sandbox is worth. -/
noncomputable def Try.pinned : Pinned := { name := "ytbikipacfmaiaaa", sum := "594332a98c97da2301bc117d4e98e955ef25e9a04bd74464123e723650e65ccc", checked := Try.checked }
namespace Rows
def none {H : Type} : Left H := { results := [], args := [] }

/-- 'laws.FnExactCatalanSeries': WHATEVER THE INPUT: true; the input reads as it did. -/
def fnExactCatalanSeriesSpec : ChangeSpec := { name := "fnExactCatalanSeries", fn := fun _ => fun
  | [d] => { results := [.lit (.bool true)], args := [d] }
  | _ => none }
def fnExactCatalanSeriesRow : OpenClaim := { program := "ytbikipacfmaiaaa", sum := "594332a98c97da2301bc117d4e98e955ef25e9a04bd74464123e723650e65ccc", func := "loop.example/g03401/laws.FnExactCatalanSeries", spec := "fnExactCatalanSeries", apart := false }
def FnExactCatalanSeriesSaid : Prop := fnExactCatalanSeriesRow.holds Try.pinned (OpenSpec.ofChange fnExactCatalanSeriesSpec)

/-- ITS FALSE NEIGHBOUR: 'it returns false'. Refute it at one input. -/
def fnExactCatalanSeriesWrong : ChangeSpec := { name := "fnExactCatalanSeries", fn := fun _ => fun
  | [d] => { results := [.lit (.bool false)], args := [d] }
  | _ => none }
def FnExactCatalanSeriesWrongFalsely : Prop := fnExactCatalanSeriesRow.holds Try.pinned (OpenSpec.ofChange fnExactCatalanSeriesWrong)

/-- 'laws.FnExactMultiplySeries': WHATEVER THE INPUT: true; the input reads as it did. -/
def fnExactMultiplySeriesSpec : ChangeSpec := { name := "fnExactMultiplySeries", fn := fun _ => fun
  | [d1, d2] => { results := [.lit (.bool true)], args := [d1, d2] }
  | _ => none }
def fnExactMultiplySeriesRow : OpenClaim := { program := "ytbikipacfmaiaaa", sum := "594332a98c97da2301bc117d4e98e955ef25e9a04bd74464123e723650e65ccc", func := "loop.example/g03401/laws.FnExactMultiplySeries", spec := "fnExactMultiplySeries", unfollowed := true, recurses := true, apart := false }
def FnExactMultiplySeriesSaid : Prop := fnExactMultiplySeriesRow.holds Try.pinned (OpenSpec.ofChange fnExactMultiplySeriesSpec)

/-- ITS FALSE NEIGHBOUR: 'it returns false'. Refute it at one input. -/
def fnExactMultiplySeriesWrong : ChangeSpec := { name := "fnExactMultiplySeries", fn := fun _ => fun
  | [d1, d2] => { results := [.lit (.bool false)], args := [d1, d2] }
  | _ => none }
def FnExactMultiplySeriesWrongFalsely : Prop := fnExactMultiplySeriesRow.holds Try.pinned (OpenSpec.ofChange fnExactMultiplySeriesWrong)

/-- 'laws.FnExactInverseSeries': WHATEVER THE INPUT: true; the input reads as it did. -/
def fnExactInverseSeriesSpec : ChangeSpec := { name := "fnExactInverseSeries", fn := fun _ => fun
  | [d] => { results := [.lit (.bool true)], args := [d] }
  | _ => none }
def fnExactInverseSeriesRow : OpenClaim := { program := "ytbikipacfmaiaaa", sum := "594332a98c97da2301bc117d4e98e955ef25e9a04bd74464123e723650e65ccc", func := "loop.example/g03401/laws.FnExactInverseSeries", spec := "fnExactInverseSeries", unfollowed := true, recurses := true, apart := false }
def FnExactInverseSeriesSaid : Prop := fnExactInverseSeriesRow.holds Try.pinned (OpenSpec.ofChange fnExactInverseSeriesSpec)

/-- ITS FALSE NEIGHBOUR: 'it returns false'. Refute it at one input. -/
def fnExactInverseSeriesWrong : ChangeSpec := { name := "fnExactInverseSeries", fn := fun _ => fun
  | [d] => { results := [.lit (.bool false)], args := [d] }
  | _ => none }
def FnExactInverseSeriesWrongFalsely : Prop := fnExactInverseSeriesRow.holds Try.pinned (OpenSpec.ofChange fnExactInverseSeriesWrong)

/-- 'laws.FnExactReversionOf': WHATEVER THE INPUT: true; the input reads as it did. -/
def fnExactReversionOfSpec : ChangeSpec := { name := "fnExactReversionOf", fn := fun _ => fun
  | [d] => { results := [.lit (.bool true)], args := [d] }
  | _ => none }
def fnExactReversionOfRow : OpenClaim := { program := "ytbikipacfmaiaaa", sum := "594332a98c97da2301bc117d4e98e955ef25e9a04bd74464123e723650e65ccc", func := "loop.example/g03401/laws.FnExactReversionOf", spec := "fnExactReversionOf", unfollowed := true, recurses := true, apart := false }
def FnExactReversionOfSaid : Prop := fnExactReversionOfRow.holds Try.pinned (OpenSpec.ofChange fnExactReversionOfSpec)

/-- ITS FALSE NEIGHBOUR: 'it returns false'. Refute it at one input. -/
def fnExactReversionOfWrong : ChangeSpec := { name := "fnExactReversionOf", fn := fun _ => fun
  | [d] => { results := [.lit (.bool false)], args := [d] }
  | _ => none }
def FnExactReversionOfWrongFalsely : Prop := fnExactReversionOfRow.holds Try.pinned (OpenSpec.ofChange fnExactReversionOfWrong)

/-- 'laws.FnExactHankelOf': WHATEVER THE INPUT: true; the input reads as it did. -/
def fnExactHankelOfSpec : ChangeSpec := { name := "fnExactHankelOf", fn := fun _ => fun
  | [d1, d2, d3] => { results := [.lit (.bool true)], args := [d1, d2, d3] }
  | _ => none }
def fnExactHankelOfRow : OpenClaim := { program := "ytbikipacfmaiaaa", sum := "594332a98c97da2301bc117d4e98e955ef25e9a04bd74464123e723650e65ccc", func := "loop.example/g03401/laws.FnExactHankelOf", spec := "fnExactHankelOf", unfollowed := true, recurses := true, apart := false }
def FnExactHankelOfSaid : Prop := fnExactHankelOfRow.holds Try.pinned (OpenSpec.ofChange fnExactHankelOfSpec)

/-- ITS FALSE NEIGHBOUR: 'it returns false'. Refute it at one input. -/
def fnExactHankelOfWrong : ChangeSpec := { name := "fnExactHankelOf", fn := fun _ => fun
  | [d1, d2, d3] => { results := [.lit (.bool false)], args := [d1, d2, d3] }
  | _ => none }
def FnExactHankelOfWrongFalsely : Prop := fnExactHankelOfRow.holds Try.pinned (OpenSpec.ofChange fnExactHankelOfWrong)

/-- 'laws.FnExactBinomialTransform': WHATEVER THE INPUT: true; the input reads as it did. -/
def fnExactBinomialTransformSpec : ChangeSpec := { name := "fnExactBinomialTransform", fn := fun _ => fun
  | [d] => { results := [.lit (.bool true)], args := [d] }
  | _ => none }
def fnExactBinomialTransformRow : OpenClaim := { program := "ytbikipacfmaiaaa", sum := "594332a98c97da2301bc117d4e98e955ef25e9a04bd74464123e723650e65ccc", func := "loop.example/g03401/laws.FnExactBinomialTransform", spec := "fnExactBinomialTransform", unfollowed := true, recurses := true, apart := false }
def FnExactBinomialTransformSaid : Prop := fnExactBinomialTransformRow.holds Try.pinned (OpenSpec.ofChange fnExactBinomialTransformSpec)

/-- ITS FALSE NEIGHBOUR: 'it returns false'. Refute it at one input. -/
def fnExactBinomialTransformWrong : ChangeSpec := { name := "fnExactBinomialTransform", fn := fun _ => fun
  | [d] => { results := [.lit (.bool false)], args := [d] }
  | _ => none }
def FnExactBinomialTransformWrongFalsely : Prop := fnExactBinomialTransformRow.holds Try.pinned (OpenSpec.ofChange fnExactBinomialTransformWrong)

/-- 'laws.FnExactSatisfiesCatalan': WHATEVER THE INPUT: true; the input reads as it did. -/
def fnExactSatisfiesCatalanSpec : ChangeSpec := { name := "fnExactSatisfiesCatalan", fn := fun _ => fun
  | [d] => { results := [.lit (.bool true)], args := [d] }
  | _ => none }
def fnExactSatisfiesCatalanRow : OpenClaim := { program := "ytbikipacfmaiaaa", sum := "594332a98c97da2301bc117d4e98e955ef25e9a04bd74464123e723650e65ccc", func := "loop.example/g03401/laws.FnExactSatisfiesCatalan", spec := "fnExactSatisfiesCatalan", unfollowed := true, recurses := true, apart := false }
def FnExactSatisfiesCatalanSaid : Prop := fnExactSatisfiesCatalanRow.holds Try.pinned (OpenSpec.ofChange fnExactSatisfiesCatalanSpec)

/-- ITS FALSE NEIGHBOUR: 'it returns false'. Refute it at one input. -/
def fnExactSatisfiesCatalanWrong : ChangeSpec := { name := "fnExactSatisfiesCatalan", fn := fun _ => fun
  | [d] => { results := [.lit (.bool false)], args := [d] }
  | _ => none }
def FnExactSatisfiesCatalanWrongFalsely : Prop := fnExactSatisfiesCatalanRow.holds Try.pinned (OpenSpec.ofChange fnExactSatisfiesCatalanWrong)

/- THE SECOND FORM. 'bulk': how many values and letters a reading holds, each counted each time it is reached (what is shared counts as often as it is met; a slice's spare places count too). A statement '..UptoSaid' is the law's where the arguments, and the package variables that the reading takes, are together of bulk at most 1048576: NARROWER than '..Said'. Prove '..Said' where nothing that the law and all that it calls make is longer than what came in: it says more and counts as full. Else prove '..UptoSaid'. A law counts once. -/
mutual
def uptoBulk {H : Type} : DataW H → Nat
  | .lit (.string bytes) => bytes.length + 1
  | .lit _ => 1
  | .nil => 1
  | .ptr d => uptoBulk d + 1
  | .slice elems spare => uptoBulkAll elems + uptoBulkAll spare + 1
  | .agg parts => uptoBulkAll parts + 1
  | .iface _ d => uptoBulk d + 1
  | .map entries => uptoBulkEntries entries + 1
  | .held _ => 1
def uptoBulkAll {H : Type} : List (DataW H) → Nat
  | [] => 0
  | d :: r => uptoBulk d + uptoBulkAll r
def uptoBulkEntries {H : Type} : List (Lit × DataW H) → Nat
  | [] => 0
  | x :: r => uptoBulkEntry x + uptoBulkEntries r
def uptoBulkEntry {H : Type} : Lit × DataW H → Nat
  | (.string bytes, d) => bytes.length + uptoBulk d + 1
  | (_, d) => uptoBulk d + 1
 end
def uptoSmall : (H : Type) → List (DataW H) → Bool := fun _ ds => decide (uptoBulkAll ds ≤ 1048576)
def OpenSpec.upto (s : _root_.Go.ChangeSpec) : _root_.Go.OpenSpec := { _root_.Go.OpenSpec.ofChange s with cond := some uptoSmall }

/-- 'laws.FnExactCatalanSeries', WHERE WHAT IT READS IS OF BULK AT MOST 1048576: true; the input reads as it did. -/
def fnExactCatalanSeriesUptoRow : OpenClaim := { program := "ytbikipacfmaiaaa", sum := "594332a98c97da2301bc117d4e98e955ef25e9a04bd74464123e723650e65ccc", func := "loop.example/g03401/laws.FnExactCatalanSeries", spec := "fnExactCatalanSeries", apart := false, narrowed := true }
def FnExactCatalanSeriesUptoSaid : Prop := fnExactCatalanSeriesUptoRow.holds Try.pinned (OpenSpec.upto fnExactCatalanSeriesSpec)

/-- 'laws.FnExactMultiplySeries', WHERE WHAT IT READS IS OF BULK AT MOST 1048576: true; the input reads as it did. -/
def fnExactMultiplySeriesUptoRow : OpenClaim := { program := "ytbikipacfmaiaaa", sum := "594332a98c97da2301bc117d4e98e955ef25e9a04bd74464123e723650e65ccc", func := "loop.example/g03401/laws.FnExactMultiplySeries", spec := "fnExactMultiplySeries", unfollowed := true, recurses := true, apart := false, narrowed := true }
def FnExactMultiplySeriesUptoSaid : Prop := fnExactMultiplySeriesUptoRow.holds Try.pinned (OpenSpec.upto fnExactMultiplySeriesSpec)

/-- 'laws.FnExactInverseSeries', WHERE WHAT IT READS IS OF BULK AT MOST 1048576: true; the input reads as it did. -/
def fnExactInverseSeriesUptoRow : OpenClaim := { program := "ytbikipacfmaiaaa", sum := "594332a98c97da2301bc117d4e98e955ef25e9a04bd74464123e723650e65ccc", func := "loop.example/g03401/laws.FnExactInverseSeries", spec := "fnExactInverseSeries", unfollowed := true, recurses := true, apart := false, narrowed := true }
def FnExactInverseSeriesUptoSaid : Prop := fnExactInverseSeriesUptoRow.holds Try.pinned (OpenSpec.upto fnExactInverseSeriesSpec)

/-- 'laws.FnExactReversionOf', WHERE WHAT IT READS IS OF BULK AT MOST 1048576: true; the input reads as it did. -/
def fnExactReversionOfUptoRow : OpenClaim := { program := "ytbikipacfmaiaaa", sum := "594332a98c97da2301bc117d4e98e955ef25e9a04bd74464123e723650e65ccc", func := "loop.example/g03401/laws.FnExactReversionOf", spec := "fnExactReversionOf", unfollowed := true, recurses := true, apart := false, narrowed := true }
def FnExactReversionOfUptoSaid : Prop := fnExactReversionOfUptoRow.holds Try.pinned (OpenSpec.upto fnExactReversionOfSpec)

/-- 'laws.FnExactHankelOf', WHERE WHAT IT READS IS OF BULK AT MOST 1048576: true; the input reads as it did. -/
def fnExactHankelOfUptoRow : OpenClaim := { program := "ytbikipacfmaiaaa", sum := "594332a98c97da2301bc117d4e98e955ef25e9a04bd74464123e723650e65ccc", func := "loop.example/g03401/laws.FnExactHankelOf", spec := "fnExactHankelOf", unfollowed := true, recurses := true, apart := false, narrowed := true }
def FnExactHankelOfUptoSaid : Prop := fnExactHankelOfUptoRow.holds Try.pinned (OpenSpec.upto fnExactHankelOfSpec)

/-- 'laws.FnExactBinomialTransform', WHERE WHAT IT READS IS OF BULK AT MOST 1048576: true; the input reads as it did. -/
def fnExactBinomialTransformUptoRow : OpenClaim := { program := "ytbikipacfmaiaaa", sum := "594332a98c97da2301bc117d4e98e955ef25e9a04bd74464123e723650e65ccc", func := "loop.example/g03401/laws.FnExactBinomialTransform", spec := "fnExactBinomialTransform", unfollowed := true, recurses := true, apart := false, narrowed := true }
def FnExactBinomialTransformUptoSaid : Prop := fnExactBinomialTransformUptoRow.holds Try.pinned (OpenSpec.upto fnExactBinomialTransformSpec)

/-- 'laws.FnExactSatisfiesCatalan', WHERE WHAT IT READS IS OF BULK AT MOST 1048576: true; the input reads as it did. -/
def fnExactSatisfiesCatalanUptoRow : OpenClaim := { program := "ytbikipacfmaiaaa", sum := "594332a98c97da2301bc117d4e98e955ef25e9a04bd74464123e723650e65ccc", func := "loop.example/g03401/laws.FnExactSatisfiesCatalan", spec := "fnExactSatisfiesCatalan", unfollowed := true, recurses := true, apart := false, narrowed := true }
def FnExactSatisfiesCatalanUptoSaid : Prop := fnExactSatisfiesCatalanUptoRow.holds Try.pinned (OpenSpec.upto fnExactSatisfiesCatalanSpec)

end Rows
end Go.Proofs.Ytbikipacfmaiaaa
