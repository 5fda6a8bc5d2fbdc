/-
  No cell of these rows narrows 'for every input' (looked for: loops, veiled, ifaces, maps, wideKeys, modest, calm, conditions, laid).
  DERIVED. THE GIVEN ROWS OF THIS SEAT. 3 by the template 'for every input the law returns true; each argument reads behind the call as it read before'; 0 by the template 'total and deterministic' (their statements: YtdnljgoaflggeaaTotals.lean).
  GIVEN WITH THE SEED: the statements are not yours to turn. If you find one false, say at which input.
  Laid BY PROGRAM, IN A SANDBOX (cutbox-rows.mjs): the forced cells as the released guide's own fill.sh prints them over the translation 7eef42fd5359f8dd… (all of the seat's roots in one cut). By AI agents, Wed Nov 11 2026. No macro, syntax, notation, axiom, sorry.
-/
import Derived.Test.YtdnljgoaflggeaaChecked
import GoSem.Claim
import GoSem.ClaimJoined
import GoSem.ClaimMapViews
import Derived.JoinedTies
import Derived.KernelRfl
namespace Go.Proofs.Ytdnljgoaflggeaa
/- THE CELL 'sum', in the pinned program and in every row, IS THE sha256 OF THE DUMP (.gsa) THAT YtdnljgoaflggeaaProg.lean LOADS. Nothing in Lean hashes anything: it is a label: what it is worth is what the hold of that sum in a sandbox is worth. -/
noncomputable def Try.pinned : Pinned := { name := "ytdnljgoaflggeaa", sum := "7eef42fd5359f8dd5511e8e914736f938ec73ba6373a3991564a6b0fa7081597", checked := Try.checked }
namespace Rows
def none {H : Type} : Left H := { results := [], args := [] }

/-- 'laws.FnExactPartitionOf': WHATEVER THE INPUT: true; the input reads as it did. -/
def fnExactPartitionOfSpec : ChangeSpec := { name := "fnExactPartitionOf", fn := fun _ => fun
  | [d] => { results := [.lit (.bool true)], args := [d] }
  | _ => none }
def fnExactPartitionOfRow : OpenClaim := { program := "ytdnljgoaflggeaa", sum := "7eef42fd5359f8dd5511e8e914736f938ec73ba6373a3991564a6b0fa7081597", func := "loop.example/g03401/laws.FnExactPartitionOf", spec := "fnExactPartitionOf", inPlace := ["internal/bytealg.CountString", "internal/bytealg.IndexByteString", "internal/bytealg.IndexString"], named := ["internal/bytealg.MaxLen"], apart := false }
def FnExactPartitionOfSaid : Prop := fnExactPartitionOfRow.holds Try.pinned (OpenSpec.ofChange fnExactPartitionOfSpec)

/-- ITS FALSE NEIGHBOUR: 'it returns false'. Refute it at one input. -/
def fnExactPartitionOfWrong : ChangeSpec := { name := "fnExactPartitionOf", fn := fun _ => fun
  | [d] => { results := [.lit (.bool false)], args := [d] }
  | _ => none }
def FnExactPartitionOfWrongFalsely : Prop := fnExactPartitionOfRow.holds Try.pinned (OpenSpec.ofChange fnExactPartitionOfWrong)

/-- 'laws.FnExactPathOfPartition': WHATEVER THE INPUT: true; the input reads as it did. -/
def fnExactPathOfPartitionSpec : ChangeSpec := { name := "fnExactPathOfPartition", fn := fun _ => fun
  | [d] => { results := [.lit (.bool true)], args := [d] }
  | _ => none }
def fnExactPathOfPartitionRow : OpenClaim := { program := "ytdnljgoaflggeaa", sum := "7eef42fd5359f8dd5511e8e914736f938ec73ba6373a3991564a6b0fa7081597", func := "loop.example/g03401/laws.FnExactPathOfPartition", spec := "fnExactPathOfPartition", inPlace := ["internal/abi.NoEscape", "internal/bytealg.MakeNoZero"], unfollowed := true, recurses := true, apart := false }
def FnExactPathOfPartitionSaid : Prop := fnExactPathOfPartitionRow.holds Try.pinned (OpenSpec.ofChange fnExactPathOfPartitionSpec)

/-- ITS FALSE NEIGHBOUR: 'it returns false'. Refute it at one input. -/
def fnExactPathOfPartitionWrong : ChangeSpec := { name := "fnExactPathOfPartition", fn := fun _ => fun
  | [d] => { results := [.lit (.bool false)], args := [d] }
  | _ => none }
def FnExactPathOfPartitionWrongFalsely : Prop := fnExactPathOfPartitionRow.holds Try.pinned (OpenSpec.ofChange fnExactPathOfPartitionWrong)

/-- 'laws.FnExactIsNonnesting': WHATEVER THE INPUT: true; the input reads as it did. -/
def fnExactIsNonnestingSpec : ChangeSpec := { name := "fnExactIsNonnesting", fn := fun _ => fun
  | [d] => { results := [.lit (.bool true)], args := [d] }
  | _ => none }
def fnExactIsNonnestingRow : OpenClaim := { program := "ytdnljgoaflggeaa", sum := "7eef42fd5359f8dd5511e8e914736f938ec73ba6373a3991564a6b0fa7081597", func := "loop.example/g03401/laws.FnExactIsNonnesting", spec := "fnExactIsNonnesting", unfollowed := true, recurses := true, apart := false }
def FnExactIsNonnestingSaid : Prop := fnExactIsNonnestingRow.holds Try.pinned (OpenSpec.ofChange fnExactIsNonnestingSpec)

/-- ITS FALSE NEIGHBOUR: 'it returns false'. Refute it at one input. -/
def fnExactIsNonnestingWrong : ChangeSpec := { name := "fnExactIsNonnesting", fn := fun _ => fun
  | [d] => { results := [.lit (.bool false)], args := [d] }
  | _ => none }
def FnExactIsNonnestingWrongFalsely : Prop := fnExactIsNonnestingRow.holds Try.pinned (OpenSpec.ofChange fnExactIsNonnestingWrong)

/- THE SECOND FORM. 'bulk': how many values and letters a reading holds, each counted each time it is reached (what is shared counts as often as it is met; a slice's spare places count too). A statement '..UptoSaid' is the law's where the arguments, and the package variables that the reading takes, are together of bulk at most 1048576: NARROWER than '..Said'. Prove '..Said' where nothing that the law and all that it calls make is longer than what came in: it says more and counts as full. Else prove '..UptoSaid'. A law counts once. -/
mutual
def uptoBulk {H : Type} : DataW H → Nat
  | .lit (.string bytes) => bytes.length + 1
  | .lit _ => 1
  | .nil => 1
  | .ptr d => uptoBulk d + 1
  | .slice elems spare => uptoBulkAll elems + uptoBulkAll spare + 1
  | .agg parts => uptoBulkAll parts + 1
  | .iface _ d => uptoBulk d + 1
  | .map entries => uptoBulkEntries entries + 1
  | .held _ => 1
def uptoBulkAll {H : Type} : List (DataW H) → Nat
  | [] => 0
  | d :: r => uptoBulk d + uptoBulkAll r
def uptoBulkEntries {H : Type} : List (Lit × DataW H) → Nat
  | [] => 0
  | x :: r => uptoBulkEntry x + uptoBulkEntries r
def uptoBulkEntry {H : Type} : Lit × DataW H → Nat
  | (.string bytes, d) => bytes.length + uptoBulk d + 1
  | (_, d) => uptoBulk d + 1
 end
def uptoSmall : (H : Type) → List (DataW H) → Bool := fun _ ds => decide (uptoBulkAll ds ≤ 1048576)
def OpenSpec.upto (s : _root_.Go.ChangeSpec) : _root_.Go.OpenSpec := { _root_.Go.OpenSpec.ofChange s with cond := some uptoSmall }

/-- 'laws.FnExactPartitionOf', WHERE WHAT IT READS IS OF BULK AT MOST 1048576: true; the input reads as it did. -/
def fnExactPartitionOfUptoRow : OpenClaim := { program := "ytdnljgoaflggeaa", sum := "7eef42fd5359f8dd5511e8e914736f938ec73ba6373a3991564a6b0fa7081597", func := "loop.example/g03401/laws.FnExactPartitionOf", spec := "fnExactPartitionOf", inPlace := ["internal/bytealg.CountString", "internal/bytealg.IndexByteString", "internal/bytealg.IndexString"], named := ["internal/bytealg.MaxLen"], apart := false, narrowed := true }
def FnExactPartitionOfUptoSaid : Prop := fnExactPartitionOfUptoRow.holds Try.pinned (OpenSpec.upto fnExactPartitionOfSpec)

/-- 'laws.FnExactPathOfPartition', WHERE WHAT IT READS IS OF BULK AT MOST 1048576: true; the input reads as it did. -/
def fnExactPathOfPartitionUptoRow : OpenClaim := { program := "ytdnljgoaflggeaa", sum := "7eef42fd5359f8dd5511e8e914736f938ec73ba6373a3991564a6b0fa7081597", func := "loop.example/g03401/laws.FnExactPathOfPartition", spec := "fnExactPathOfPartition", inPlace := ["internal/abi.NoEscape", "internal/bytealg.MakeNoZero"], unfollowed := true, recurses := true, apart := false, narrowed := true }
def FnExactPathOfPartitionUptoSaid : Prop := fnExactPathOfPartitionUptoRow.holds Try.pinned (OpenSpec.upto fnExactPathOfPartitionSpec)

/-- 'laws.FnExactIsNonnesting', WHERE WHAT IT READS IS OF BULK AT MOST 1048576: true; the input reads as it did. -/
def fnExactIsNonnestingUptoRow : OpenClaim := { program := "ytdnljgoaflggeaa", sum := "7eef42fd5359f8dd5511e8e914736f938ec73ba6373a3991564a6b0fa7081597", func := "loop.example/g03401/laws.FnExactIsNonnesting", spec := "fnExactIsNonnesting", unfollowed := true, recurses := true, apart := false, narrowed := true }
def FnExactIsNonnestingUptoSaid : Prop := fnExactIsNonnestingUptoRow.holds Try.pinned (OpenSpec.upto fnExactIsNonnestingSpec)

end Rows
end Go.Proofs.Ytdnljgoaflggeaa
