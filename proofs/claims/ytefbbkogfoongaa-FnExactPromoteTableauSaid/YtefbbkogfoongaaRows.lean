/-
  No cell of these rows narrows 'for every input' (looked for: loops, veiled, ifaces, maps, wideKeys, modest, calm, conditions, laid).
  DERIVED. THE GIVEN ROWS OF THIS SEAT. 5 by the template 'for every input the law returns true; each argument reads behind the call as it read before'; 0 by the template 'total and deterministic' (their statements: YtefbbkogfoongaaTotals.lean).
  GIVEN WITH THE SEED: the statements are not yours to turn. If you find one false, say at which input.
  Laid BY PROGRAM, IN A SANDBOX (cutbox-rows.mjs): the forced cells as the released guide's own fill.sh prints them over the translation 72a286b22aa2ecab… (all of the seat's roots in one cut). By AI agents, Wed Nov 11 2026. No macro, syntax, notation, axiom, sorry.
-/
import Derived.Test.YtefbbkogfoongaaChecked
import GoSem.Claim
import GoSem.ClaimJoined
import GoSem.ClaimMapViews
import Derived.JoinedTies
import Derived.KernelRfl
namespace Go.Proofs.Ytefbbkogfoongaa
/- THE CELL 'sum', in the pinned program and in every row, IS THE sha256 OF THE DUMP (.gsa) THAT YtefbbkogfoongaaProg.lean LOADS. Nothing in Lean hashes anything: it is a label: what it is worth is what the hold of that sum in a sandbox is worth. -/
noncomputable def Try.pinned : Pinned := { name := "ytefbbkogfoongaa", sum := "72a286b22aa2ecab0563e141692ba424b55f16dac4673cb91cf011865a04402a", checked := Try.checked }
namespace Rows
def none {H : Type} : Left H := { results := [], args := [] }

/-- 'laws.FnExactIsTableau': WHATEVER THE INPUT: true; the input reads as it did. -/
def fnExactIsTableauSpec : ChangeSpec := { name := "fnExactIsTableau", fn := fun _ => fun
  | [d] => { results := [.lit (.bool true)], args := [d] }
  | _ => none }
def fnExactIsTableauRow : OpenClaim := { program := "ytefbbkogfoongaa", sum := "72a286b22aa2ecab0563e141692ba424b55f16dac4673cb91cf011865a04402a", func := "loop.example/g03401/laws.FnExactIsTableau", spec := "fnExactIsTableau", inPlace := ["internal/bytealg.MakeNoZero"], unfollowed := true, recurses := true, apart := false }
def FnExactIsTableauSaid : Prop := fnExactIsTableauRow.holds Try.pinned (OpenSpec.ofChange fnExactIsTableauSpec)

/-- ITS FALSE NEIGHBOUR: 'it returns false'. Refute it at one input. -/
def fnExactIsTableauWrong : ChangeSpec := { name := "fnExactIsTableau", fn := fun _ => fun
  | [d] => { results := [.lit (.bool false)], args := [d] }
  | _ => none }
def FnExactIsTableauWrongFalsely : Prop := fnExactIsTableauRow.holds Try.pinned (OpenSpec.ofChange fnExactIsTableauWrong)

/-- 'laws.FnExactPathOfTableau': WHATEVER THE INPUT: true; the input reads as it did. -/
def fnExactPathOfTableauSpec : ChangeSpec := { name := "fnExactPathOfTableau", fn := fun _ => fun
  | [d] => { results := [.lit (.bool true)], args := [d] }
  | _ => none }
def fnExactPathOfTableauRow : OpenClaim := { program := "ytefbbkogfoongaa", sum := "72a286b22aa2ecab0563e141692ba424b55f16dac4673cb91cf011865a04402a", func := "loop.example/g03401/laws.FnExactPathOfTableau", spec := "fnExactPathOfTableau", inPlace := ["internal/bytealg.MakeNoZero"], unfollowed := true, recurses := true, apart := false }
def FnExactPathOfTableauSaid : Prop := fnExactPathOfTableauRow.holds Try.pinned (OpenSpec.ofChange fnExactPathOfTableauSpec)

/-- ITS FALSE NEIGHBOUR: 'it returns false'. Refute it at one input. -/
def fnExactPathOfTableauWrong : ChangeSpec := { name := "fnExactPathOfTableau", fn := fun _ => fun
  | [d] => { results := [.lit (.bool false)], args := [d] }
  | _ => none }
def FnExactPathOfTableauWrongFalsely : Prop := fnExactPathOfTableauRow.holds Try.pinned (OpenSpec.ofChange fnExactPathOfTableauWrong)

/-- 'laws.FnExactPromoteTableau': WHATEVER THE INPUT: true; the input reads as it did. -/
def fnExactPromoteTableauSpec : ChangeSpec := { name := "fnExactPromoteTableau", fn := fun _ => fun
  | [d] => { results := [.lit (.bool true)], args := [d] }
  | _ => none }
def fnExactPromoteTableauRow : OpenClaim := { program := "ytefbbkogfoongaa", sum := "72a286b22aa2ecab0563e141692ba424b55f16dac4673cb91cf011865a04402a", func := "loop.example/g03401/laws.FnExactPromoteTableau", spec := "fnExactPromoteTableau", inPlace := ["internal/bytealg.MakeNoZero"], unfollowed := true, recurses := true, apart := false }
def FnExactPromoteTableauSaid : Prop := fnExactPromoteTableauRow.holds Try.pinned (OpenSpec.ofChange fnExactPromoteTableauSpec)

/-- ITS FALSE NEIGHBOUR: 'it returns false'. Refute it at one input. -/
def fnExactPromoteTableauWrong : ChangeSpec := { name := "fnExactPromoteTableau", fn := fun _ => fun
  | [d] => { results := [.lit (.bool false)], args := [d] }
  | _ => none }
def FnExactPromoteTableauWrongFalsely : Prop := fnExactPromoteTableauRow.holds Try.pinned (OpenSpec.ofChange fnExactPromoteTableauWrong)

/-- 'laws.FnExactEvacuateTableau': WHATEVER THE INPUT: true; the input reads as it did. -/
def fnExactEvacuateTableauSpec : ChangeSpec := { name := "fnExactEvacuateTableau", fn := fun _ => fun
  | [d] => { results := [.lit (.bool true)], args := [d] }
  | _ => none }
def fnExactEvacuateTableauRow : OpenClaim := { program := "ytefbbkogfoongaa", sum := "72a286b22aa2ecab0563e141692ba424b55f16dac4673cb91cf011865a04402a", func := "loop.example/g03401/laws.FnExactEvacuateTableau", spec := "fnExactEvacuateTableau", inPlace := ["internal/bytealg.MakeNoZero"], unfollowed := true, recurses := true, apart := false }
def FnExactEvacuateTableauSaid : Prop := fnExactEvacuateTableauRow.holds Try.pinned (OpenSpec.ofChange fnExactEvacuateTableauSpec)

/-- ITS FALSE NEIGHBOUR: 'it returns false'. Refute it at one input. -/
def fnExactEvacuateTableauWrong : ChangeSpec := { name := "fnExactEvacuateTableau", fn := fun _ => fun
  | [d] => { results := [.lit (.bool false)], args := [d] }
  | _ => none }
def FnExactEvacuateTableauWrongFalsely : Prop := fnExactEvacuateTableauRow.holds Try.pinned (OpenSpec.ofChange fnExactEvacuateTableauWrong)

/-- 'laws.FnExactDescentsOfTableau': WHATEVER THE INPUT: true; the input reads as it did. -/
def fnExactDescentsOfTableauSpec : ChangeSpec := { name := "fnExactDescentsOfTableau", fn := fun _ => fun
  | [d] => { results := [.lit (.bool true)], args := [d] }
  | _ => none }
def fnExactDescentsOfTableauRow : OpenClaim := { program := "ytefbbkogfoongaa", sum := "72a286b22aa2ecab0563e141692ba424b55f16dac4673cb91cf011865a04402a", func := "loop.example/g03401/laws.FnExactDescentsOfTableau", spec := "fnExactDescentsOfTableau", inPlace := ["internal/bytealg.MakeNoZero"], unfollowed := true, recurses := true, apart := false }
def FnExactDescentsOfTableauSaid : Prop := fnExactDescentsOfTableauRow.holds Try.pinned (OpenSpec.ofChange fnExactDescentsOfTableauSpec)

/-- ITS FALSE NEIGHBOUR: 'it returns false'. Refute it at one input. -/
def fnExactDescentsOfTableauWrong : ChangeSpec := { name := "fnExactDescentsOfTableau", fn := fun _ => fun
  | [d] => { results := [.lit (.bool false)], args := [d] }
  | _ => none }
def FnExactDescentsOfTableauWrongFalsely : Prop := fnExactDescentsOfTableauRow.holds Try.pinned (OpenSpec.ofChange fnExactDescentsOfTableauWrong)

/- THE SECOND FORM. 'bulk': how many values and letters a reading holds, each counted each time it is reached (what is shared counts as often as it is met; a slice's spare places count too). A statement '..UptoSaid' is the law's where the arguments, and the package variables that the reading takes, are together of bulk at most 1048576: NARROWER than '..Said'. Prove '..Said' where nothing that the law and all that it calls make is longer than what came in: it says more and counts as full. Else prove '..UptoSaid'. A law counts once. -/
mutual
def uptoBulk {H : Type} : DataW H → Nat
  | .lit (.string bytes) => bytes.length + 1
  | .lit _ => 1
  | .nil => 1
  | .ptr d => uptoBulk d + 1
  | .slice elems spare => uptoBulkAll elems + uptoBulkAll spare + 1
  | .agg parts => uptoBulkAll parts + 1
  | .iface _ d => uptoBulk d + 1
  | .map entries => uptoBulkEntries entries + 1
  | .held _ => 1
def uptoBulkAll {H : Type} : List (DataW H) → Nat
  | [] => 0
  | d :: r => uptoBulk d + uptoBulkAll r
def uptoBulkEntries {H : Type} : List (Lit × DataW H) → Nat
  | [] => 0
  | x :: r => uptoBulkEntry x + uptoBulkEntries r
def uptoBulkEntry {H : Type} : Lit × DataW H → Nat
  | (.string bytes, d) => bytes.length + uptoBulk d + 1
  | (_, d) => uptoBulk d + 1
 end
def uptoSmall : (H : Type) → List (DataW H) → Bool := fun _ ds => decide (uptoBulkAll ds ≤ 1048576)
def OpenSpec.upto (s : _root_.Go.ChangeSpec) : _root_.Go.OpenSpec := { _root_.Go.OpenSpec.ofChange s with cond := some uptoSmall }

/-- 'laws.FnExactIsTableau', WHERE WHAT IT READS IS OF BULK AT MOST 1048576: true; the input reads as it did. -/
def fnExactIsTableauUptoRow : OpenClaim := { program := "ytefbbkogfoongaa", sum := "72a286b22aa2ecab0563e141692ba424b55f16dac4673cb91cf011865a04402a", func := "loop.example/g03401/laws.FnExactIsTableau", spec := "fnExactIsTableau", inPlace := ["internal/bytealg.MakeNoZero"], unfollowed := true, recurses := true, apart := false, narrowed := true }
def FnExactIsTableauUptoSaid : Prop := fnExactIsTableauUptoRow.holds Try.pinned (OpenSpec.upto fnExactIsTableauSpec)

/-- 'laws.FnExactPathOfTableau', WHERE WHAT IT READS IS OF BULK AT MOST 1048576: true; the input reads as it did. -/
def fnExactPathOfTableauUptoRow : OpenClaim := { program := "ytefbbkogfoongaa", sum := "72a286b22aa2ecab0563e141692ba424b55f16dac4673cb91cf011865a04402a", func := "loop.example/g03401/laws.FnExactPathOfTableau", spec := "fnExactPathOfTableau", inPlace := ["internal/bytealg.MakeNoZero"], unfollowed := true, recurses := true, apart := false, narrowed := true }
def FnExactPathOfTableauUptoSaid : Prop := fnExactPathOfTableauUptoRow.holds Try.pinned (OpenSpec.upto fnExactPathOfTableauSpec)

/-- 'laws.FnExactPromoteTableau', WHERE WHAT IT READS IS OF BULK AT MOST 1048576: true; the input reads as it did. -/
def fnExactPromoteTableauUptoRow : OpenClaim := { program := "ytefbbkogfoongaa", sum := "72a286b22aa2ecab0563e141692ba424b55f16dac4673cb91cf011865a04402a", func := "loop.example/g03401/laws.FnExactPromoteTableau", spec := "fnExactPromoteTableau", inPlace := ["internal/bytealg.MakeNoZero"], unfollowed := true, recurses := true, apart := false, narrowed := true }
def FnExactPromoteTableauUptoSaid : Prop := fnExactPromoteTableauUptoRow.holds Try.pinned (OpenSpec.upto fnExactPromoteTableauSpec)

/-- 'laws.FnExactEvacuateTableau', WHERE WHAT IT READS IS OF BULK AT MOST 1048576: true; the input reads as it did. -/
def fnExactEvacuateTableauUptoRow : OpenClaim := { program := "ytefbbkogfoongaa", sum := "72a286b22aa2ecab0563e141692ba424b55f16dac4673cb91cf011865a04402a", func := "loop.example/g03401/laws.FnExactEvacuateTableau", spec := "fnExactEvacuateTableau", inPlace := ["internal/bytealg.MakeNoZero"], unfollowed := true, recurses := true, apart := false, narrowed := true }
def FnExactEvacuateTableauUptoSaid : Prop := fnExactEvacuateTableauUptoRow.holds Try.pinned (OpenSpec.upto fnExactEvacuateTableauSpec)

/-- 'laws.FnExactDescentsOfTableau', WHERE WHAT IT READS IS OF BULK AT MOST 1048576: true; the input reads as it did. -/
def fnExactDescentsOfTableauUptoRow : OpenClaim := { program := "ytefbbkogfoongaa", sum := "72a286b22aa2ecab0563e141692ba424b55f16dac4673cb91cf011865a04402a", func := "loop.example/g03401/laws.FnExactDescentsOfTableau", spec := "fnExactDescentsOfTableau", inPlace := ["internal/bytealg.MakeNoZero"], unfollowed := true, recurses := true, apart := false, narrowed := true }
def FnExactDescentsOfTableauUptoSaid : Prop := fnExactDescentsOfTableauUptoRow.holds Try.pinned (OpenSpec.upto fnExactDescentsOfTableauSpec)

end Rows
end Go.Proofs.Ytefbbkogfoongaa
