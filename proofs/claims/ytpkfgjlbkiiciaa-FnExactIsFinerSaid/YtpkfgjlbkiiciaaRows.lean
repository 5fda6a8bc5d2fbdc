/-
  No cell of these rows narrows 'for every input' (looked for: loops, veiled, ifaces, maps, wideKeys, modest, calm, conditions, laid).
  DERIVED. THE GIVEN ROWS OF THIS SEAT. 6 by the template 'for every input the law returns true; each argument reads behind the call as it read before'; 0 by the template 'total and deterministic' (their statements: YtpkfgjlbkiiciaaTotals.lean).
  GIVEN WITH THE SEED: the statements are not yours to turn. If you find one false, say at which input.
  Laid BY PROGRAM, IN A SANDBOX (cutbox-rows.mjs): the forced cells as the released guide's own fill.sh prints them over the translation f08fa83ef7d1aef3… (all of the seat's roots in one cut). By AI agents, Wed Nov 11 2026. No macro, syntax, notation, axiom, sorry.
-/
import Derived.Test.YtpkfgjlbkiiciaaChecked
import GoSem.Claim
import GoSem.ClaimJoined
import GoSem.ClaimMapViews
import Derived.JoinedTies
import Derived.KernelRfl
namespace Go.Proofs.Ytpkfgjlbkiiciaa
/- THE CELL 'sum', in the pinned program and in every row, IS THE sha256 OF THE DUMP (.gsa) THAT YtpkfgjlbkiiciaaProg.lean LOADS. Nothing in Lean hashes anything: it is a label: what it is worth is what the hold of that sum in a sandbox is worth. -/
noncomputable def Try.pinned : Pinned := { name := "ytpkfgjlbkiiciaa", sum := "f08fa83ef7d1aef381497161986fb5db32a45d8de998f5966091d305e141503e", checked := Try.checked }
namespace Rows
def none {H : Type} : Left H := { results := [], args := [] }

/-- 'laws.FnExactRankOfPartition': WHATEVER THE INPUT: true; the input reads as it did. -/
def fnExactRankOfPartitionSpec : ChangeSpec := { name := "fnExactRankOfPartition", fn := fun _ => fun
  | [d] => { results := [.lit (.bool true)], args := [d] }
  | _ => none }
def fnExactRankOfPartitionRow : OpenClaim := { program := "ytpkfgjlbkiiciaa", sum := "f08fa83ef7d1aef381497161986fb5db32a45d8de998f5966091d305e141503e", func := "loop.example/g03401/laws.FnExactRankOfPartition", spec := "fnExactRankOfPartition", apart := false }
def FnExactRankOfPartitionSaid : Prop := fnExactRankOfPartitionRow.holds Try.pinned (OpenSpec.ofChange fnExactRankOfPartitionSpec)

/-- ITS FALSE NEIGHBOUR: 'it returns false'. Refute it at one input. -/
def fnExactRankOfPartitionWrong : ChangeSpec := { name := "fnExactRankOfPartition", fn := fun _ => fun
  | [d] => { results := [.lit (.bool false)], args := [d] }
  | _ => none }
def FnExactRankOfPartitionWrongFalsely : Prop := fnExactRankOfPartitionRow.holds Try.pinned (OpenSpec.ofChange fnExactRankOfPartitionWrong)

/-- 'laws.FnExactIsFiner': WHATEVER THE INPUT: true; the input reads as it did. -/
def fnExactIsFinerSpec : ChangeSpec := { name := "fnExactIsFiner", fn := fun _ => fun
  | [d1, d2] => { results := [.lit (.bool true)], args := [d1, d2] }
  | _ => none }
def fnExactIsFinerRow : OpenClaim := { program := "ytpkfgjlbkiiciaa", sum := "f08fa83ef7d1aef381497161986fb5db32a45d8de998f5966091d305e141503e", func := "loop.example/g03401/laws.FnExactIsFiner", spec := "fnExactIsFiner", unfollowed := true, recurses := true, apart := false }
def FnExactIsFinerSaid : Prop := fnExactIsFinerRow.holds Try.pinned (OpenSpec.ofChange fnExactIsFinerSpec)

/-- ITS FALSE NEIGHBOUR: 'it returns false'. Refute it at one input. -/
def fnExactIsFinerWrong : ChangeSpec := { name := "fnExactIsFiner", fn := fun _ => fun
  | [d1, d2] => { results := [.lit (.bool false)], args := [d1, d2] }
  | _ => none }
def FnExactIsFinerWrongFalsely : Prop := fnExactIsFinerRow.holds Try.pinned (OpenSpec.ofChange fnExactIsFinerWrong)

/-- 'laws.FnExactFinerMeet': WHATEVER THE INPUT: true; the input reads as it did. -/
def fnExactFinerMeetSpec : ChangeSpec := { name := "fnExactFinerMeet", fn := fun _ => fun
  | [d1, d2] => { results := [.lit (.bool true)], args := [d1, d2] }
  | _ => none }
def fnExactFinerMeetRow : OpenClaim := { program := "ytpkfgjlbkiiciaa", sum := "f08fa83ef7d1aef381497161986fb5db32a45d8de998f5966091d305e141503e", func := "loop.example/g03401/laws.FnExactFinerMeet", spec := "fnExactFinerMeet", apart := false }
def FnExactFinerMeetSaid : Prop := fnExactFinerMeetRow.holds Try.pinned (OpenSpec.ofChange fnExactFinerMeetSpec)

/-- ITS FALSE NEIGHBOUR: 'it returns false'. Refute it at one input. -/
def fnExactFinerMeetWrong : ChangeSpec := { name := "fnExactFinerMeet", fn := fun _ => fun
  | [d1, d2] => { results := [.lit (.bool false)], args := [d1, d2] }
  | _ => none }
def FnExactFinerMeetWrongFalsely : Prop := fnExactFinerMeetRow.holds Try.pinned (OpenSpec.ofChange fnExactFinerMeetWrong)

/-- 'laws.FnExactNoncrossingClosure': WHATEVER THE INPUT: true; the input reads as it did. -/
def fnExactNoncrossingClosureSpec : ChangeSpec := { name := "fnExactNoncrossingClosure", fn := fun _ => fun
  | [d] => { results := [.lit (.bool true)], args := [d] }
  | _ => none }
def fnExactNoncrossingClosureRow : OpenClaim := { program := "ytpkfgjlbkiiciaa", sum := "f08fa83ef7d1aef381497161986fb5db32a45d8de998f5966091d305e141503e", func := "loop.example/g03401/laws.FnExactNoncrossingClosure", spec := "fnExactNoncrossingClosure", recurses := true, apart := false }
def FnExactNoncrossingClosureSaid : Prop := fnExactNoncrossingClosureRow.holds Try.pinned (OpenSpec.ofChange fnExactNoncrossingClosureSpec)

/-- ITS FALSE NEIGHBOUR: 'it returns false'. Refute it at one input. -/
def fnExactNoncrossingClosureWrong : ChangeSpec := { name := "fnExactNoncrossingClosure", fn := fun _ => fun
  | [d] => { results := [.lit (.bool false)], args := [d] }
  | _ => none }
def FnExactNoncrossingClosureWrongFalsely : Prop := fnExactNoncrossingClosureRow.holds Try.pinned (OpenSpec.ofChange fnExactNoncrossingClosureWrong)

/-- 'laws.FnExactCoarserJoin': WHATEVER THE INPUT: true; the input reads as it did. -/
def fnExactCoarserJoinSpec : ChangeSpec := { name := "fnExactCoarserJoin", fn := fun _ => fun
  | [d1, d2] => { results := [.lit (.bool true)], args := [d1, d2] }
  | _ => none }
def fnExactCoarserJoinRow : OpenClaim := { program := "ytpkfgjlbkiiciaa", sum := "f08fa83ef7d1aef381497161986fb5db32a45d8de998f5966091d305e141503e", func := "loop.example/g03401/laws.FnExactCoarserJoin", spec := "fnExactCoarserJoin", unfollowed := true, recurses := true, apart := false }
def FnExactCoarserJoinSaid : Prop := fnExactCoarserJoinRow.holds Try.pinned (OpenSpec.ofChange fnExactCoarserJoinSpec)

/-- ITS FALSE NEIGHBOUR: 'it returns false'. Refute it at one input. -/
def fnExactCoarserJoinWrong : ChangeSpec := { name := "fnExactCoarserJoin", fn := fun _ => fun
  | [d1, d2] => { results := [.lit (.bool false)], args := [d1, d2] }
  | _ => none }
def FnExactCoarserJoinWrongFalsely : Prop := fnExactCoarserJoinRow.holds Try.pinned (OpenSpec.ofChange fnExactCoarserJoinWrong)

/-- 'laws.FnExactComplement': WHATEVER THE INPUT: true; the input reads as it did. -/
def fnExactComplementSpec : ChangeSpec := { name := "fnExactComplement", fn := fun _ => fun
  | [d] => { results := [.lit (.bool true)], args := [d] }
  | _ => none }
def fnExactComplementRow : OpenClaim := { program := "ytpkfgjlbkiiciaa", sum := "f08fa83ef7d1aef381497161986fb5db32a45d8de998f5966091d305e141503e", func := "loop.example/g03401/laws.FnExactComplement", spec := "fnExactComplement", unfollowed := true, recurses := true, apart := false }
def FnExactComplementSaid : Prop := fnExactComplementRow.holds Try.pinned (OpenSpec.ofChange fnExactComplementSpec)

/-- ITS FALSE NEIGHBOUR: 'it returns false'. Refute it at one input. -/
def fnExactComplementWrong : ChangeSpec := { name := "fnExactComplement", fn := fun _ => fun
  | [d] => { results := [.lit (.bool false)], args := [d] }
  | _ => none }
def FnExactComplementWrongFalsely : Prop := fnExactComplementRow.holds Try.pinned (OpenSpec.ofChange fnExactComplementWrong)

/- THE SECOND FORM. 'bulk': how many values and letters a reading holds, each counted each time it is reached (what is shared counts as often as it is met; a slice's spare places count too). A statement '..UptoSaid' is the law's where the arguments, and the package variables that the reading takes, are together of bulk at most 1048576: NARROWER than '..Said'. Prove '..Said' where nothing that the law and all that it calls make is longer than what came in: it says more and counts as full. Else prove '..UptoSaid'. A law counts once. -/
mutual
def uptoBulk {H : Type} : DataW H → Nat
  | .lit (.string bytes) => bytes.length + 1
  | .lit _ => 1
  | .nil => 1
  | .ptr d => uptoBulk d + 1
  | .slice elems spare => uptoBulkAll elems + uptoBulkAll spare + 1
  | .agg parts => uptoBulkAll parts + 1
  | .iface _ d => uptoBulk d + 1
  | .map entries => uptoBulkEntries entries + 1
  | .held _ => 1
def uptoBulkAll {H : Type} : List (DataW H) → Nat
  | [] => 0
  | d :: r => uptoBulk d + uptoBulkAll r
def uptoBulkEntries {H : Type} : List (Lit × DataW H) → Nat
  | [] => 0
  | x :: r => uptoBulkEntry x + uptoBulkEntries r
def uptoBulkEntry {H : Type} : Lit × DataW H → Nat
  | (.string bytes, d) => bytes.length + uptoBulk d + 1
  | (_, d) => uptoBulk d + 1
 end
def uptoSmall : (H : Type) → List (DataW H) → Bool := fun _ ds => decide (uptoBulkAll ds ≤ 1048576)
def OpenSpec.upto (s : _root_.Go.ChangeSpec) : _root_.Go.OpenSpec := { _root_.Go.OpenSpec.ofChange s with cond := some uptoSmall }

/-- 'laws.FnExactRankOfPartition', WHERE WHAT IT READS IS OF BULK AT MOST 1048576: true; the input reads as it did. -/
def fnExactRankOfPartitionUptoRow : OpenClaim := { program := "ytpkfgjlbkiiciaa", sum := "f08fa83ef7d1aef381497161986fb5db32a45d8de998f5966091d305e141503e", func := "loop.example/g03401/laws.FnExactRankOfPartition", spec := "fnExactRankOfPartition", apart := false, narrowed := true }
def FnExactRankOfPartitionUptoSaid : Prop := fnExactRankOfPartitionUptoRow.holds Try.pinned (OpenSpec.upto fnExactRankOfPartitionSpec)

/-- 'laws.FnExactIsFiner', WHERE WHAT IT READS IS OF BULK AT MOST 1048576: true; the input reads as it did. -/
def fnExactIsFinerUptoRow : OpenClaim := { program := "ytpkfgjlbkiiciaa", sum := "f08fa83ef7d1aef381497161986fb5db32a45d8de998f5966091d305e141503e", func := "loop.example/g03401/laws.FnExactIsFiner", spec := "fnExactIsFiner", unfollowed := true, recurses := true, apart := false, narrowed := true }
def FnExactIsFinerUptoSaid : Prop := fnExactIsFinerUptoRow.holds Try.pinned (OpenSpec.upto fnExactIsFinerSpec)

/-- 'laws.FnExactFinerMeet', WHERE WHAT IT READS IS OF BULK AT MOST 1048576: true; the input reads as it did. -/
def fnExactFinerMeetUptoRow : OpenClaim := { program := "ytpkfgjlbkiiciaa", sum := "f08fa83ef7d1aef381497161986fb5db32a45d8de998f5966091d305e141503e", func := "loop.example/g03401/laws.FnExactFinerMeet", spec := "fnExactFinerMeet", apart := false, narrowed := true }
def FnExactFinerMeetUptoSaid : Prop := fnExactFinerMeetUptoRow.holds Try.pinned (OpenSpec.upto fnExactFinerMeetSpec)

/-- 'laws.FnExactNoncrossingClosure', WHERE WHAT IT READS IS OF BULK AT MOST 1048576: true; the input reads as it did. -/
def fnExactNoncrossingClosureUptoRow : OpenClaim := { program := "ytpkfgjlbkiiciaa", sum := "f08fa83ef7d1aef381497161986fb5db32a45d8de998f5966091d305e141503e", func := "loop.example/g03401/laws.FnExactNoncrossingClosure", spec := "fnExactNoncrossingClosure", recurses := true, apart := false, narrowed := true }
def FnExactNoncrossingClosureUptoSaid : Prop := fnExactNoncrossingClosureUptoRow.holds Try.pinned (OpenSpec.upto fnExactNoncrossingClosureSpec)

/-- 'laws.FnExactCoarserJoin', WHERE WHAT IT READS IS OF BULK AT MOST 1048576: true; the input reads as it did. -/
def fnExactCoarserJoinUptoRow : OpenClaim := { program := "ytpkfgjlbkiiciaa", sum := "f08fa83ef7d1aef381497161986fb5db32a45d8de998f5966091d305e141503e", func := "loop.example/g03401/laws.FnExactCoarserJoin", spec := "fnExactCoarserJoin", unfollowed := true, recurses := true, apart := false, narrowed := true }
def FnExactCoarserJoinUptoSaid : Prop := fnExactCoarserJoinUptoRow.holds Try.pinned (OpenSpec.upto fnExactCoarserJoinSpec)

/-- 'laws.FnExactComplement', WHERE WHAT IT READS IS OF BULK AT MOST 1048576: true; the input reads as it did. -/
def fnExactComplementUptoRow : OpenClaim := { program := "ytpkfgjlbkiiciaa", sum := "f08fa83ef7d1aef381497161986fb5db32a45d8de998f5966091d305e141503e", func := "loop.example/g03401/laws.FnExactComplement", spec := "fnExactComplement", unfollowed := true, recurses := true, apart := false, narrowed := true }
def FnExactComplementUptoSaid : Prop := fnExactComplementUptoRow.holds Try.pinned (OpenSpec.upto fnExactComplementSpec)

end Rows
end Go.Proofs.Ytpkfgjlbkiiciaa
