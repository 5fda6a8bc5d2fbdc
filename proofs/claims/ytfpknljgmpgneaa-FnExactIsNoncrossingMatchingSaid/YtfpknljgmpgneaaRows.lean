/-
  No cell of these rows narrows 'for every input' (looked for: loops, veiled, ifaces, maps, wideKeys, modest, calm, conditions, laid).
  DERIVED. THE GIVEN ROWS OF THIS SEAT. 8 by the template 'for every input the law returns true; each argument reads behind the call as it read before'; 0 by the template 'total and deterministic' (their statements: YtfpknljgmpgneaaTotals.lean).
  GIVEN WITH THE SEED: the statements are not yours to turn. If you find one false, say at which input.
  Laid BY PROGRAM, IN A SANDBOX (cutbox-rows.mjs): the forced cells as the released guide's own fill.sh prints them over the translation df3b12c55c2212d8… (all of the seat's roots in one cut). By AI agents, Wed Nov 11 2026. No macro, syntax, notation, axiom, sorry.
-/
import Derived.Test.YtfpknljgmpgneaaChecked
import GoSem.Claim
import GoSem.ClaimJoined
import GoSem.ClaimMapViews
import Derived.JoinedTies
import Derived.KernelRfl
namespace Go.Proofs.Ytfpknljgmpgneaa
/- THE CELL 'sum', in the pinned program and in every row, IS THE sha256 OF THE DUMP (.gsa) THAT YtfpknljgmpgneaaProg.lean LOADS. Nothing in Lean hashes anything: it is a label: what it is worth is what the hold of that sum in a sandbox is worth. -/
noncomputable def Try.pinned : Pinned := { name := "ytfpknljgmpgneaa", sum := "df3b12c55c2212d8a526278836f5b926baf87298f6f5fdd47a13ffa0292b27c5", checked := Try.checked }
namespace Rows
def none {H : Type} : Left H := { results := [], args := [] }

/-- 'laws.FnExactIsMatching': WHATEVER THE INPUT: true; the input reads as it did. -/
def fnExactIsMatchingSpec : ChangeSpec := { name := "fnExactIsMatching", fn := fun _ => fun
  | [d] => { results := [.lit (.bool true)], args := [d] }
  | _ => none }
def fnExactIsMatchingRow : OpenClaim := { program := "ytfpknljgmpgneaa", sum := "df3b12c55c2212d8a526278836f5b926baf87298f6f5fdd47a13ffa0292b27c5", func := "loop.example/g03401/laws.FnExactIsMatching", spec := "fnExactIsMatching", apart := false }
def FnExactIsMatchingSaid : Prop := fnExactIsMatchingRow.holds Try.pinned (OpenSpec.ofChange fnExactIsMatchingSpec)

/-- ITS FALSE NEIGHBOUR: 'it returns false'. Refute it at one input. -/
def fnExactIsMatchingWrong : ChangeSpec := { name := "fnExactIsMatching", fn := fun _ => fun
  | [d] => { results := [.lit (.bool false)], args := [d] }
  | _ => none }
def FnExactIsMatchingWrongFalsely : Prop := fnExactIsMatchingRow.holds Try.pinned (OpenSpec.ofChange fnExactIsMatchingWrong)

/-- 'laws.FnExactIsNoncrossingMatching': WHATEVER THE INPUT: true; the input reads as it did. -/
def fnExactIsNoncrossingMatchingSpec : ChangeSpec := { name := "fnExactIsNoncrossingMatching", fn := fun _ => fun
  | [d] => { results := [.lit (.bool true)], args := [d] }
  | _ => none }
def fnExactIsNoncrossingMatchingRow : OpenClaim := { program := "ytfpknljgmpgneaa", sum := "df3b12c55c2212d8a526278836f5b926baf87298f6f5fdd47a13ffa0292b27c5", func := "loop.example/g03401/laws.FnExactIsNoncrossingMatching", spec := "fnExactIsNoncrossingMatching", unfollowed := true, recurses := true, apart := false }
def FnExactIsNoncrossingMatchingSaid : Prop := fnExactIsNoncrossingMatchingRow.holds Try.pinned (OpenSpec.ofChange fnExactIsNoncrossingMatchingSpec)

/-- ITS FALSE NEIGHBOUR: 'it returns false'. Refute it at one input. -/
def fnExactIsNoncrossingMatchingWrong : ChangeSpec := { name := "fnExactIsNoncrossingMatching", fn := fun _ => fun
  | [d] => { results := [.lit (.bool false)], args := [d] }
  | _ => none }
def FnExactIsNoncrossingMatchingWrongFalsely : Prop := fnExactIsNoncrossingMatchingRow.holds Try.pinned (OpenSpec.ofChange fnExactIsNoncrossingMatchingWrong)

/-- 'laws.FnExactMatchingOf': WHATEVER THE INPUT: true; the input reads as it did. -/
def fnExactMatchingOfSpec : ChangeSpec := { name := "fnExactMatchingOf", fn := fun _ => fun
  | [d] => { results := [.lit (.bool true)], args := [d] }
  | _ => none }
def fnExactMatchingOfRow : OpenClaim := { program := "ytfpknljgmpgneaa", sum := "df3b12c55c2212d8a526278836f5b926baf87298f6f5fdd47a13ffa0292b27c5", func := "loop.example/g03401/laws.FnExactMatchingOf", spec := "fnExactMatchingOf", apart := false }
def FnExactMatchingOfSaid : Prop := fnExactMatchingOfRow.holds Try.pinned (OpenSpec.ofChange fnExactMatchingOfSpec)

/-- ITS FALSE NEIGHBOUR: 'it returns false'. Refute it at one input. -/
def fnExactMatchingOfWrong : ChangeSpec := { name := "fnExactMatchingOf", fn := fun _ => fun
  | [d] => { results := [.lit (.bool false)], args := [d] }
  | _ => none }
def FnExactMatchingOfWrongFalsely : Prop := fnExactMatchingOfRow.holds Try.pinned (OpenSpec.ofChange fnExactMatchingOfWrong)

/-- 'laws.FnExactPathOfMatching': WHATEVER THE INPUT: true; the input reads as it did. -/
def fnExactPathOfMatchingSpec : ChangeSpec := { name := "fnExactPathOfMatching", fn := fun _ => fun
  | [d] => { results := [.lit (.bool true)], args := [d] }
  | _ => none }
def fnExactPathOfMatchingRow : OpenClaim := { program := "ytfpknljgmpgneaa", sum := "df3b12c55c2212d8a526278836f5b926baf87298f6f5fdd47a13ffa0292b27c5", func := "loop.example/g03401/laws.FnExactPathOfMatching", spec := "fnExactPathOfMatching", inPlace := ["internal/abi.NoEscape"], unfollowed := true, recurses := true, apart := false }
def FnExactPathOfMatchingSaid : Prop := fnExactPathOfMatchingRow.holds Try.pinned (OpenSpec.ofChange fnExactPathOfMatchingSpec)

/-- ITS FALSE NEIGHBOUR: 'it returns false'. Refute it at one input. -/
def fnExactPathOfMatchingWrong : ChangeSpec := { name := "fnExactPathOfMatching", fn := fun _ => fun
  | [d] => { results := [.lit (.bool false)], args := [d] }
  | _ => none }
def FnExactPathOfMatchingWrongFalsely : Prop := fnExactPathOfMatchingRow.holds Try.pinned (OpenSpec.ofChange fnExactPathOfMatchingWrong)

/-- 'laws.FnExactCrossingsOf': WHATEVER THE INPUT: true; the input reads as it did. -/
def fnExactCrossingsOfSpec : ChangeSpec := { name := "fnExactCrossingsOf", fn := fun _ => fun
  | [d] => { results := [.lit (.bool true)], args := [d] }
  | _ => none }
def fnExactCrossingsOfRow : OpenClaim := { program := "ytfpknljgmpgneaa", sum := "df3b12c55c2212d8a526278836f5b926baf87298f6f5fdd47a13ffa0292b27c5", func := "loop.example/g03401/laws.FnExactCrossingsOf", spec := "fnExactCrossingsOf", unfollowed := true, recurses := true, apart := false }
def FnExactCrossingsOfSaid : Prop := fnExactCrossingsOfRow.holds Try.pinned (OpenSpec.ofChange fnExactCrossingsOfSpec)

/-- ITS FALSE NEIGHBOUR: 'it returns false'. Refute it at one input. -/
def fnExactCrossingsOfWrong : ChangeSpec := { name := "fnExactCrossingsOf", fn := fun _ => fun
  | [d] => { results := [.lit (.bool false)], args := [d] }
  | _ => none }
def FnExactCrossingsOfWrongFalsely : Prop := fnExactCrossingsOfRow.holds Try.pinned (OpenSpec.ofChange fnExactCrossingsOfWrong)

/-- 'laws.FnExactNestingsOf': WHATEVER THE INPUT: true; the input reads as it did. -/
def fnExactNestingsOfSpec : ChangeSpec := { name := "fnExactNestingsOf", fn := fun _ => fun
  | [d] => { results := [.lit (.bool true)], args := [d] }
  | _ => none }
def fnExactNestingsOfRow : OpenClaim := { program := "ytfpknljgmpgneaa", sum := "df3b12c55c2212d8a526278836f5b926baf87298f6f5fdd47a13ffa0292b27c5", func := "loop.example/g03401/laws.FnExactNestingsOf", spec := "fnExactNestingsOf", unfollowed := true, recurses := true, apart := false }
def FnExactNestingsOfSaid : Prop := fnExactNestingsOfRow.holds Try.pinned (OpenSpec.ofChange fnExactNestingsOfSpec)

/-- ITS FALSE NEIGHBOUR: 'it returns false'. Refute it at one input. -/
def fnExactNestingsOfWrong : ChangeSpec := { name := "fnExactNestingsOf", fn := fun _ => fun
  | [d] => { results := [.lit (.bool false)], args := [d] }
  | _ => none }
def FnExactNestingsOfWrongFalsely : Prop := fnExactNestingsOfRow.holds Try.pinned (OpenSpec.ofChange fnExactNestingsOfWrong)

/-- 'laws.FnExactTurnMatching': WHATEVER THE INPUT: true; the input reads as it did. -/
def fnExactTurnMatchingSpec : ChangeSpec := { name := "fnExactTurnMatching", fn := fun _ => fun
  | [d1, d2] => { results := [.lit (.bool true)], args := [d1, d2] }
  | _ => none }
def fnExactTurnMatchingRow : OpenClaim := { program := "ytfpknljgmpgneaa", sum := "df3b12c55c2212d8a526278836f5b926baf87298f6f5fdd47a13ffa0292b27c5", func := "loop.example/g03401/laws.FnExactTurnMatching", spec := "fnExactTurnMatching", apart := false }
def FnExactTurnMatchingSaid : Prop := fnExactTurnMatchingRow.holds Try.pinned (OpenSpec.ofChange fnExactTurnMatchingSpec)

/-- ITS FALSE NEIGHBOUR: 'it returns false'. Refute it at one input. -/
def fnExactTurnMatchingWrong : ChangeSpec := { name := "fnExactTurnMatching", fn := fun _ => fun
  | [d1, d2] => { results := [.lit (.bool false)], args := [d1, d2] }
  | _ => none }
def FnExactTurnMatchingWrongFalsely : Prop := fnExactTurnMatchingRow.holds Try.pinned (OpenSpec.ofChange fnExactTurnMatchingWrong)

/-- 'laws.FnExactMatchingOfPartition': WHATEVER THE INPUT: true; the input reads as it did. -/
def fnExactMatchingOfPartitionSpec : ChangeSpec := { name := "fnExactMatchingOfPartition", fn := fun _ => fun
  | [d] => { results := [.lit (.bool true)], args := [d] }
  | _ => none }
def fnExactMatchingOfPartitionRow : OpenClaim := { program := "ytfpknljgmpgneaa", sum := "df3b12c55c2212d8a526278836f5b926baf87298f6f5fdd47a13ffa0292b27c5", func := "loop.example/g03401/laws.FnExactMatchingOfPartition", spec := "fnExactMatchingOfPartition", unfollowed := true, recurses := true, apart := false }
def FnExactMatchingOfPartitionSaid : Prop := fnExactMatchingOfPartitionRow.holds Try.pinned (OpenSpec.ofChange fnExactMatchingOfPartitionSpec)

/-- ITS FALSE NEIGHBOUR: 'it returns false'. Refute it at one input. -/
def fnExactMatchingOfPartitionWrong : ChangeSpec := { name := "fnExactMatchingOfPartition", fn := fun _ => fun
  | [d] => { results := [.lit (.bool false)], args := [d] }
  | _ => none }
def FnExactMatchingOfPartitionWrongFalsely : Prop := fnExactMatchingOfPartitionRow.holds Try.pinned (OpenSpec.ofChange fnExactMatchingOfPartitionWrong)

/- THE SECOND FORM. 'bulk': how many values and letters a reading holds, each counted each time it is reached (what is shared counts as often as it is met; a slice's spare places count too). A statement '..UptoSaid' is the law's where the arguments, and the package variables that the reading takes, are together of bulk at most 1048576: NARROWER than '..Said'. Prove '..Said' where nothing that the law and all that it calls make is longer than what came in: it says more and counts as full. Else prove '..UptoSaid'. A law counts once. -/
mutual
def uptoBulk {H : Type} : DataW H → Nat
  | .lit (.string bytes) => bytes.length + 1
  | .lit _ => 1
  | .nil => 1
  | .ptr d => uptoBulk d + 1
  | .slice elems spare => uptoBulkAll elems + uptoBulkAll spare + 1
  | .agg parts => uptoBulkAll parts + 1
  | .iface _ d => uptoBulk d + 1
  | .map entries => uptoBulkEntries entries + 1
  | .held _ => 1
def uptoBulkAll {H : Type} : List (DataW H) → Nat
  | [] => 0
  | d :: r => uptoBulk d + uptoBulkAll r
def uptoBulkEntries {H : Type} : List (Lit × DataW H) → Nat
  | [] => 0
  | x :: r => uptoBulkEntry x + uptoBulkEntries r
def uptoBulkEntry {H : Type} : Lit × DataW H → Nat
  | (.string bytes, d) => bytes.length + uptoBulk d + 1
  | (_, d) => uptoBulk d + 1
 end
def uptoSmall : (H : Type) → List (DataW H) → Bool := fun _ ds => decide (uptoBulkAll ds ≤ 1048576)
def OpenSpec.upto (s : _root_.Go.ChangeSpec) : _root_.Go.OpenSpec := { _root_.Go.OpenSpec.ofChange s with cond := some uptoSmall }

/-- 'laws.FnExactIsMatching', WHERE WHAT IT READS IS OF BULK AT MOST 1048576: true; the input reads as it did. -/
def fnExactIsMatchingUptoRow : OpenClaim := { program := "ytfpknljgmpgneaa", sum := "df3b12c55c2212d8a526278836f5b926baf87298f6f5fdd47a13ffa0292b27c5", func := "loop.example/g03401/laws.FnExactIsMatching", spec := "fnExactIsMatching", apart := false, narrowed := true }
def FnExactIsMatchingUptoSaid : Prop := fnExactIsMatchingUptoRow.holds Try.pinned (OpenSpec.upto fnExactIsMatchingSpec)

/-- 'laws.FnExactIsNoncrossingMatching', WHERE WHAT IT READS IS OF BULK AT MOST 1048576: true; the input reads as it did. -/
def fnExactIsNoncrossingMatchingUptoRow : OpenClaim := { program := "ytfpknljgmpgneaa", sum := "df3b12c55c2212d8a526278836f5b926baf87298f6f5fdd47a13ffa0292b27c5", func := "loop.example/g03401/laws.FnExactIsNoncrossingMatching", spec := "fnExactIsNoncrossingMatching", unfollowed := true, recurses := true, apart := false, narrowed := true }
def FnExactIsNoncrossingMatchingUptoSaid : Prop := fnExactIsNoncrossingMatchingUptoRow.holds Try.pinned (OpenSpec.upto fnExactIsNoncrossingMatchingSpec)

/-- 'laws.FnExactMatchingOf', WHERE WHAT IT READS IS OF BULK AT MOST 1048576: true; the input reads as it did. -/
def fnExactMatchingOfUptoRow : OpenClaim := { program := "ytfpknljgmpgneaa", sum := "df3b12c55c2212d8a526278836f5b926baf87298f6f5fdd47a13ffa0292b27c5", func := "loop.example/g03401/laws.FnExactMatchingOf", spec := "fnExactMatchingOf", apart := false, narrowed := true }
def FnExactMatchingOfUptoSaid : Prop := fnExactMatchingOfUptoRow.holds Try.pinned (OpenSpec.upto fnExactMatchingOfSpec)

/-- 'laws.FnExactPathOfMatching', WHERE WHAT IT READS IS OF BULK AT MOST 1048576: true; the input reads as it did. -/
def fnExactPathOfMatchingUptoRow : OpenClaim := { program := "ytfpknljgmpgneaa", sum := "df3b12c55c2212d8a526278836f5b926baf87298f6f5fdd47a13ffa0292b27c5", func := "loop.example/g03401/laws.FnExactPathOfMatching", spec := "fnExactPathOfMatching", inPlace := ["internal/abi.NoEscape"], unfollowed := true, recurses := true, apart := false, narrowed := true }
def FnExactPathOfMatchingUptoSaid : Prop := fnExactPathOfMatchingUptoRow.holds Try.pinned (OpenSpec.upto fnExactPathOfMatchingSpec)

/-- 'laws.FnExactCrossingsOf', WHERE WHAT IT READS IS OF BULK AT MOST 1048576: true; the input reads as it did. -/
def fnExactCrossingsOfUptoRow : OpenClaim := { program := "ytfpknljgmpgneaa", sum := "df3b12c55c2212d8a526278836f5b926baf87298f6f5fdd47a13ffa0292b27c5", func := "loop.example/g03401/laws.FnExactCrossingsOf", spec := "fnExactCrossingsOf", unfollowed := true, recurses := true, apart := false, narrowed := true }
def FnExactCrossingsOfUptoSaid : Prop := fnExactCrossingsOfUptoRow.holds Try.pinned (OpenSpec.upto fnExactCrossingsOfSpec)

/-- 'laws.FnExactNestingsOf', WHERE WHAT IT READS IS OF BULK AT MOST 1048576: true; the input reads as it did. -/
def fnExactNestingsOfUptoRow : OpenClaim := { program := "ytfpknljgmpgneaa", sum := "df3b12c55c2212d8a526278836f5b926baf87298f6f5fdd47a13ffa0292b27c5", func := "loop.example/g03401/laws.FnExactNestingsOf", spec := "fnExactNestingsOf", unfollowed := true, recurses := true, apart := false, narrowed := true }
def FnExactNestingsOfUptoSaid : Prop := fnExactNestingsOfUptoRow.holds Try.pinned (OpenSpec.upto fnExactNestingsOfSpec)

/-- 'laws.FnExactTurnMatching', WHERE WHAT IT READS IS OF BULK AT MOST 1048576: true; the input reads as it did. -/
def fnExactTurnMatchingUptoRow : OpenClaim := { program := "ytfpknljgmpgneaa", sum := "df3b12c55c2212d8a526278836f5b926baf87298f6f5fdd47a13ffa0292b27c5", func := "loop.example/g03401/laws.FnExactTurnMatching", spec := "fnExactTurnMatching", apart := false, narrowed := true }
def FnExactTurnMatchingUptoSaid : Prop := fnExactTurnMatchingUptoRow.holds Try.pinned (OpenSpec.upto fnExactTurnMatchingSpec)

/-- 'laws.FnExactMatchingOfPartition', WHERE WHAT IT READS IS OF BULK AT MOST 1048576: true; the input reads as it did. -/
def fnExactMatchingOfPartitionUptoRow : OpenClaim := { program := "ytfpknljgmpgneaa", sum := "df3b12c55c2212d8a526278836f5b926baf87298f6f5fdd47a13ffa0292b27c5", func := "loop.example/g03401/laws.FnExactMatchingOfPartition", spec := "fnExactMatchingOfPartition", unfollowed := true, recurses := true, apart := false, narrowed := true }
def FnExactMatchingOfPartitionUptoSaid : Prop := fnExactMatchingOfPartitionUptoRow.holds Try.pinned (OpenSpec.upto fnExactMatchingOfPartitionSpec)

end Rows
end Go.Proofs.Ytfpknljgmpgneaa
