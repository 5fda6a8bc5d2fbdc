/-
  No cell of these rows narrows 'for every input' (looked for: loops, veiled, ifaces, maps, wideKeys, modest, calm, conditions, laid).
  DERIVED. THE GIVEN ROWS OF THIS SEAT. 8 by the template 'for every input the law returns true; each argument reads behind the call as it read before'; 0 by the template 'total and deterministic' (their statements: YtniddpplmdbcmaaTotals.lean).
  GIVEN WITH THE SEED: the statements are not yours to turn. If you find one false, say at which input.
  Laid BY PROGRAM, IN A SANDBOX (cutbox-rows.mjs): the forced cells as the released guide's own fill.sh prints them over the translation d1aa2d6b1bc53ebb… (all of the seat's roots in one cut). By AI agents, Wed Nov 11 2026. No macro, syntax, notation, axiom, sorry.
-/
import Derived.Test.YtniddpplmdbcmaaChecked
import GoSem.Claim
import GoSem.ClaimJoined
import GoSem.ClaimMapViews
import Derived.JoinedTies
import Derived.KernelRfl
namespace Go.Proofs.Ytniddpplmdbcmaa
/- THE CELL 'sum', in the pinned program and in every row, IS THE sha256 OF THE DUMP (.gsa) THAT YtniddpplmdbcmaaProg.lean LOADS. Nothing in Lean hashes anything: it is a label: what it is worth is what the hold of that sum in a sandbox is worth. -/
noncomputable def Try.pinned : Pinned := { name := "ytniddpplmdbcmaa", sum := "d1aa2d6b1bc53ebb384147ce1808a041f9622445da4392b90754fd244ab0e0d1", checked := Try.checked }
namespace Rows
def none {H : Type} : Left H := { results := [], args := [] }

/-- 'laws.FnExactIsPartition': WHATEVER THE INPUT: true; the input reads as it did. -/
def fnExactIsPartitionSpec : ChangeSpec := { name := "fnExactIsPartition", fn := fun _ => fun
  | [d] => { results := [.lit (.bool true)], args := [d] }
  | _ => none }
def fnExactIsPartitionRow : OpenClaim := { program := "ytniddpplmdbcmaa", sum := "d1aa2d6b1bc53ebb384147ce1808a041f9622445da4392b90754fd244ab0e0d1", func := "loop.example/g03401/laws.FnExactIsPartition", spec := "fnExactIsPartition", apart := false }
def FnExactIsPartitionSaid : Prop := fnExactIsPartitionRow.holds Try.pinned (OpenSpec.ofChange fnExactIsPartitionSpec)

/-- ITS FALSE NEIGHBOUR: 'it returns false'. Refute it at one input. -/
def fnExactIsPartitionWrong : ChangeSpec := { name := "fnExactIsPartition", fn := fun _ => fun
  | [d] => { results := [.lit (.bool false)], args := [d] }
  | _ => none }
def FnExactIsPartitionWrongFalsely : Prop := fnExactIsPartitionRow.holds Try.pinned (OpenSpec.ofChange fnExactIsPartitionWrong)

/-- 'laws.FnExactIsNoncrossing': WHATEVER THE INPUT: true; the input reads as it did. -/
def fnExactIsNoncrossingSpec : ChangeSpec := { name := "fnExactIsNoncrossing", fn := fun _ => fun
  | [d] => { results := [.lit (.bool true)], args := [d] }
  | _ => none }
def fnExactIsNoncrossingRow : OpenClaim := { program := "ytniddpplmdbcmaa", sum := "d1aa2d6b1bc53ebb384147ce1808a041f9622445da4392b90754fd244ab0e0d1", func := "loop.example/g03401/laws.FnExactIsNoncrossing", spec := "fnExactIsNoncrossing", unfollowed := true, recurses := true, apart := false }
def FnExactIsNoncrossingSaid : Prop := fnExactIsNoncrossingRow.holds Try.pinned (OpenSpec.ofChange fnExactIsNoncrossingSpec)

/-- ITS FALSE NEIGHBOUR: 'it returns false'. Refute it at one input. -/
def fnExactIsNoncrossingWrong : ChangeSpec := { name := "fnExactIsNoncrossing", fn := fun _ => fun
  | [d] => { results := [.lit (.bool false)], args := [d] }
  | _ => none }
def FnExactIsNoncrossingWrongFalsely : Prop := fnExactIsNoncrossingRow.holds Try.pinned (OpenSpec.ofChange fnExactIsNoncrossingWrong)

/-- 'laws.FnExactBlocksOf': WHATEVER THE INPUT: true; the input reads as it did. -/
def fnExactBlocksOfSpec : ChangeSpec := { name := "fnExactBlocksOf", fn := fun _ => fun
  | [d] => { results := [.lit (.bool true)], args := [d] }
  | _ => none }
def fnExactBlocksOfRow : OpenClaim := { program := "ytniddpplmdbcmaa", sum := "d1aa2d6b1bc53ebb384147ce1808a041f9622445da4392b90754fd244ab0e0d1", func := "loop.example/g03401/laws.FnExactBlocksOf", spec := "fnExactBlocksOf", apart := false }
def FnExactBlocksOfSaid : Prop := fnExactBlocksOfRow.holds Try.pinned (OpenSpec.ofChange fnExactBlocksOfSpec)

/-- ITS FALSE NEIGHBOUR: 'it returns false'. Refute it at one input. -/
def fnExactBlocksOfWrong : ChangeSpec := { name := "fnExactBlocksOf", fn := fun _ => fun
  | [d] => { results := [.lit (.bool false)], args := [d] }
  | _ => none }
def FnExactBlocksOfWrongFalsely : Prop := fnExactBlocksOfRow.holds Try.pinned (OpenSpec.ofChange fnExactBlocksOfWrong)

/-- 'laws.FnExactPartitionOf': WHATEVER THE INPUT: true; the input reads as it did. -/
def fnExactPartitionOfSpec : ChangeSpec := { name := "fnExactPartitionOf", fn := fun _ => fun
  | [d] => { results := [.lit (.bool true)], args := [d] }
  | _ => none }
def fnExactPartitionOfRow : OpenClaim := { program := "ytniddpplmdbcmaa", sum := "d1aa2d6b1bc53ebb384147ce1808a041f9622445da4392b90754fd244ab0e0d1", func := "loop.example/g03401/laws.FnExactPartitionOf", spec := "fnExactPartitionOf", inPlace := ["internal/bytealg.CountString", "internal/bytealg.IndexByteString", "internal/bytealg.IndexString"], named := ["internal/bytealg.MaxLen"], apart := false }
def FnExactPartitionOfSaid : Prop := fnExactPartitionOfRow.holds Try.pinned (OpenSpec.ofChange fnExactPartitionOfSpec)

/-- ITS FALSE NEIGHBOUR: 'it returns false'. Refute it at one input. -/
def fnExactPartitionOfWrong : ChangeSpec := { name := "fnExactPartitionOf", fn := fun _ => fun
  | [d] => { results := [.lit (.bool false)], args := [d] }
  | _ => none }
def FnExactPartitionOfWrongFalsely : Prop := fnExactPartitionOfRow.holds Try.pinned (OpenSpec.ofChange fnExactPartitionOfWrong)

/-- 'laws.FnExactPathOfPartition': WHATEVER THE INPUT: true; the input reads as it did. -/
def fnExactPathOfPartitionSpec : ChangeSpec := { name := "fnExactPathOfPartition", fn := fun _ => fun
  | [d] => { results := [.lit (.bool true)], args := [d] }
  | _ => none }
def fnExactPathOfPartitionRow : OpenClaim := { program := "ytniddpplmdbcmaa", sum := "d1aa2d6b1bc53ebb384147ce1808a041f9622445da4392b90754fd244ab0e0d1", func := "loop.example/g03401/laws.FnExactPathOfPartition", spec := "fnExactPathOfPartition", inPlace := ["internal/abi.NoEscape", "internal/bytealg.MakeNoZero"], unfollowed := true, recurses := true, apart := false }
def FnExactPathOfPartitionSaid : Prop := fnExactPathOfPartitionRow.holds Try.pinned (OpenSpec.ofChange fnExactPathOfPartitionSpec)

/-- ITS FALSE NEIGHBOUR: 'it returns false'. Refute it at one input. -/
def fnExactPathOfPartitionWrong : ChangeSpec := { name := "fnExactPathOfPartition", fn := fun _ => fun
  | [d] => { results := [.lit (.bool false)], args := [d] }
  | _ => none }
def FnExactPathOfPartitionWrongFalsely : Prop := fnExactPathOfPartitionRow.holds Try.pinned (OpenSpec.ofChange fnExactPathOfPartitionWrong)

/-- 'laws.FnExactRenumberBlocks': WHATEVER THE INPUT: true; the input reads as it did. -/
def fnExactRenumberBlocksSpec : ChangeSpec := { name := "fnExactRenumberBlocks", fn := fun _ => fun
  | [d] => { results := [.lit (.bool true)], args := [d] }
  | _ => none }
def fnExactRenumberBlocksRow : OpenClaim := { program := "ytniddpplmdbcmaa", sum := "d1aa2d6b1bc53ebb384147ce1808a041f9622445da4392b90754fd244ab0e0d1", func := "loop.example/g03401/laws.FnExactRenumberBlocks", spec := "fnExactRenumberBlocks", apart := false }
def FnExactRenumberBlocksSaid : Prop := fnExactRenumberBlocksRow.holds Try.pinned (OpenSpec.ofChange fnExactRenumberBlocksSpec)

/-- ITS FALSE NEIGHBOUR: 'it returns false'. Refute it at one input. -/
def fnExactRenumberBlocksWrong : ChangeSpec := { name := "fnExactRenumberBlocks", fn := fun _ => fun
  | [d] => { results := [.lit (.bool false)], args := [d] }
  | _ => none }
def FnExactRenumberBlocksWrongFalsely : Prop := fnExactRenumberBlocksRow.holds Try.pinned (OpenSpec.ofChange fnExactRenumberBlocksWrong)

/-- 'laws.FnExactIsNonnesting': WHATEVER THE INPUT: true; the input reads as it did. -/
def fnExactIsNonnestingSpec : ChangeSpec := { name := "fnExactIsNonnesting", fn := fun _ => fun
  | [d] => { results := [.lit (.bool true)], args := [d] }
  | _ => none }
def fnExactIsNonnestingRow : OpenClaim := { program := "ytniddpplmdbcmaa", sum := "d1aa2d6b1bc53ebb384147ce1808a041f9622445da4392b90754fd244ab0e0d1", func := "loop.example/g03401/laws.FnExactIsNonnesting", spec := "fnExactIsNonnesting", unfollowed := true, recurses := true, apart := false }
def FnExactIsNonnestingSaid : Prop := fnExactIsNonnestingRow.holds Try.pinned (OpenSpec.ofChange fnExactIsNonnestingSpec)

/-- ITS FALSE NEIGHBOUR: 'it returns false'. Refute it at one input. -/
def fnExactIsNonnestingWrong : ChangeSpec := { name := "fnExactIsNonnesting", fn := fun _ => fun
  | [d] => { results := [.lit (.bool false)], args := [d] }
  | _ => none }
def FnExactIsNonnestingWrongFalsely : Prop := fnExactIsNonnestingRow.holds Try.pinned (OpenSpec.ofChange fnExactIsNonnestingWrong)

/-- 'laws.FnExactTurnPartition': WHATEVER THE INPUT: true; the input reads as it did. -/
def fnExactTurnPartitionSpec : ChangeSpec := { name := "fnExactTurnPartition", fn := fun _ => fun
  | [d] => { results := [.lit (.bool true)], args := [d] }
  | _ => none }
def fnExactTurnPartitionRow : OpenClaim := { program := "ytniddpplmdbcmaa", sum := "d1aa2d6b1bc53ebb384147ce1808a041f9622445da4392b90754fd244ab0e0d1", func := "loop.example/g03401/laws.FnExactTurnPartition", spec := "fnExactTurnPartition", apart := false }
def FnExactTurnPartitionSaid : Prop := fnExactTurnPartitionRow.holds Try.pinned (OpenSpec.ofChange fnExactTurnPartitionSpec)

/-- ITS FALSE NEIGHBOUR: 'it returns false'. Refute it at one input. -/
def fnExactTurnPartitionWrong : ChangeSpec := { name := "fnExactTurnPartition", fn := fun _ => fun
  | [d] => { results := [.lit (.bool false)], args := [d] }
  | _ => none }
def FnExactTurnPartitionWrongFalsely : Prop := fnExactTurnPartitionRow.holds Try.pinned (OpenSpec.ofChange fnExactTurnPartitionWrong)

/- THE SECOND FORM. 'bulk': how many values and letters a reading holds, each counted each time it is reached (what is shared counts as often as it is met; a slice's spare places count too). A statement '..UptoSaid' is the law's where the arguments, and the package variables that the reading takes, are together of bulk at most 1048576: NARROWER than '..Said'. Prove '..Said' where nothing that the law and all that it calls make is longer than what came in: it says more and counts as full. Else prove '..UptoSaid'. A law counts once. -/
mutual
def uptoBulk {H : Type} : DataW H → Nat
  | .lit (.string bytes) => bytes.length + 1
  | .lit _ => 1
  | .nil => 1
  | .ptr d => uptoBulk d + 1
  | .slice elems spare => uptoBulkAll elems + uptoBulkAll spare + 1
  | .agg parts => uptoBulkAll parts + 1
  | .iface _ d => uptoBulk d + 1
  | .map entries => uptoBulkEntries entries + 1
  | .held _ => 1
def uptoBulkAll {H : Type} : List (DataW H) → Nat
  | [] => 0
  | d :: r => uptoBulk d + uptoBulkAll r
def uptoBulkEntries {H : Type} : List (Lit × DataW H) → Nat
  | [] => 0
  | x :: r => uptoBulkEntry x + uptoBulkEntries r
def uptoBulkEntry {H : Type} : Lit × DataW H → Nat
  | (.string bytes, d) => bytes.length + uptoBulk d + 1
  | (_, d) => uptoBulk d + 1
 end
def uptoSmall : (H : Type) → List (DataW H) → Bool := fun _ ds => decide (uptoBulkAll ds ≤ 1048576)
def OpenSpec.upto (s : _root_.Go.ChangeSpec) : _root_.Go.OpenSpec := { _root_.Go.OpenSpec.ofChange s with cond := some uptoSmall }

/-- 'laws.FnExactIsPartition', WHERE WHAT IT READS IS OF BULK AT MOST 1048576: true; the input reads as it did. -/
def fnExactIsPartitionUptoRow : OpenClaim := { program := "ytniddpplmdbcmaa", sum := "d1aa2d6b1bc53ebb384147ce1808a041f9622445da4392b90754fd244ab0e0d1", func := "loop.example/g03401/laws.FnExactIsPartition", spec := "fnExactIsPartition", apart := false, narrowed := true }
def FnExactIsPartitionUptoSaid : Prop := fnExactIsPartitionUptoRow.holds Try.pinned (OpenSpec.upto fnExactIsPartitionSpec)

/-- 'laws.FnExactIsNoncrossing', WHERE WHAT IT READS IS OF BULK AT MOST 1048576: true; the input reads as it did. -/
def fnExactIsNoncrossingUptoRow : OpenClaim := { program := "ytniddpplmdbcmaa", sum := "d1aa2d6b1bc53ebb384147ce1808a041f9622445da4392b90754fd244ab0e0d1", func := "loop.example/g03401/laws.FnExactIsNoncrossing", spec := "fnExactIsNoncrossing", unfollowed := true, recurses := true, apart := false, narrowed := true }
def FnExactIsNoncrossingUptoSaid : Prop := fnExactIsNoncrossingUptoRow.holds Try.pinned (OpenSpec.upto fnExactIsNoncrossingSpec)

/-- 'laws.FnExactBlocksOf', WHERE WHAT IT READS IS OF BULK AT MOST 1048576: true; the input reads as it did. -/
def fnExactBlocksOfUptoRow : OpenClaim := { program := "ytniddpplmdbcmaa", sum := "d1aa2d6b1bc53ebb384147ce1808a041f9622445da4392b90754fd244ab0e0d1", func := "loop.example/g03401/laws.FnExactBlocksOf", spec := "fnExactBlocksOf", apart := false, narrowed := true }
def FnExactBlocksOfUptoSaid : Prop := fnExactBlocksOfUptoRow.holds Try.pinned (OpenSpec.upto fnExactBlocksOfSpec)

/-- 'laws.FnExactPartitionOf', WHERE WHAT IT READS IS OF BULK AT MOST 1048576: true; the input reads as it did. -/
def fnExactPartitionOfUptoRow : OpenClaim := { program := "ytniddpplmdbcmaa", sum := "d1aa2d6b1bc53ebb384147ce1808a041f9622445da4392b90754fd244ab0e0d1", func := "loop.example/g03401/laws.FnExactPartitionOf", spec := "fnExactPartitionOf", inPlace := ["internal/bytealg.CountString", "internal/bytealg.IndexByteString", "internal/bytealg.IndexString"], named := ["internal/bytealg.MaxLen"], apart := false, narrowed := true }
def FnExactPartitionOfUptoSaid : Prop := fnExactPartitionOfUptoRow.holds Try.pinned (OpenSpec.upto fnExactPartitionOfSpec)

/-- 'laws.FnExactPathOfPartition', WHERE WHAT IT READS IS OF BULK AT MOST 1048576: true; the input reads as it did. -/
def fnExactPathOfPartitionUptoRow : OpenClaim := { program := "ytniddpplmdbcmaa", sum := "d1aa2d6b1bc53ebb384147ce1808a041f9622445da4392b90754fd244ab0e0d1", func := "loop.example/g03401/laws.FnExactPathOfPartition", spec := "fnExactPathOfPartition", inPlace := ["internal/abi.NoEscape", "internal/bytealg.MakeNoZero"], unfollowed := true, recurses := true, apart := false, narrowed := true }
def FnExactPathOfPartitionUptoSaid : Prop := fnExactPathOfPartitionUptoRow.holds Try.pinned (OpenSpec.upto fnExactPathOfPartitionSpec)

/-- 'laws.FnExactRenumberBlocks', WHERE WHAT IT READS IS OF BULK AT MOST 1048576: true; the input reads as it did. -/
def fnExactRenumberBlocksUptoRow : OpenClaim := { program := "ytniddpplmdbcmaa", sum := "d1aa2d6b1bc53ebb384147ce1808a041f9622445da4392b90754fd244ab0e0d1", func := "loop.example/g03401/laws.FnExactRenumberBlocks", spec := "fnExactRenumberBlocks", apart := false, narrowed := true }
def FnExactRenumberBlocksUptoSaid : Prop := fnExactRenumberBlocksUptoRow.holds Try.pinned (OpenSpec.upto fnExactRenumberBlocksSpec)

/-- 'laws.FnExactIsNonnesting', WHERE WHAT IT READS IS OF BULK AT MOST 1048576: true; the input reads as it did. -/
def fnExactIsNonnestingUptoRow : OpenClaim := { program := "ytniddpplmdbcmaa", sum := "d1aa2d6b1bc53ebb384147ce1808a041f9622445da4392b90754fd244ab0e0d1", func := "loop.example/g03401/laws.FnExactIsNonnesting", spec := "fnExactIsNonnesting", unfollowed := true, recurses := true, apart := false, narrowed := true }
def FnExactIsNonnestingUptoSaid : Prop := fnExactIsNonnestingUptoRow.holds Try.pinned (OpenSpec.upto fnExactIsNonnestingSpec)

/-- 'laws.FnExactTurnPartition', WHERE WHAT IT READS IS OF BULK AT MOST 1048576: true; the input reads as it did. -/
def fnExactTurnPartitionUptoRow : OpenClaim := { program := "ytniddpplmdbcmaa", sum := "d1aa2d6b1bc53ebb384147ce1808a041f9622445da4392b90754fd244ab0e0d1", func := "loop.example/g03401/laws.FnExactTurnPartition", spec := "fnExactTurnPartition", apart := false, narrowed := true }
def FnExactTurnPartitionUptoSaid : Prop := fnExactTurnPartitionUptoRow.holds Try.pinned (OpenSpec.upto fnExactTurnPartitionSpec)

end Rows
end Go.Proofs.Ytniddpplmdbcmaa
