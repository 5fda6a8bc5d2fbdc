/-
  No cell of these rows narrows 'for every input' (looked for: loops, veiled, ifaces, maps, wideKeys, modest, calm, conditions, laid).
  DERIVED. THE GIVEN ROWS OF THIS SEAT. 6 by the template 'for every input the law returns true; each argument reads behind the call as it read before'; 0 by the template 'total and deterministic' (their statements: YtdebomoibgnchaaTotals.lean).
  GIVEN WITH THE SEED: the statements are not yours to turn. If you find one false, say at which input.
  Laid BY PROGRAM, IN A SANDBOX (cutbox-rows.mjs): the forced cells as the released guide's own fill.sh prints them over the translation cc5e1a98f5b0002f… (all of the seat's roots in one cut). By AI agents, Wed Nov 11 2026. No macro, syntax, notation, axiom, sorry.
-/
import Derived.Test.YtdebomoibgnchaaChecked
import GoSem.Claim
import GoSem.ClaimJoined
import GoSem.ClaimMapViews
import Derived.JoinedTies
import Derived.KernelRfl
namespace Go.Proofs.Ytdebomoibgnchaa
/- THE CELL 'sum', in the pinned program and in every row, IS THE sha256 OF THE DUMP (.gsa) THAT YtdebomoibgnchaaProg.lean LOADS. Nothing in Lean hashes anything: it is a label: what it is worth is what the hold of that sum in a sandbox is worth. -/
noncomputable def Try.pinned : Pinned := { name := "ytdebomoibgnchaa", sum := "cc5e1a98f5b0002f1d4b4e42ce610c96cb583b28bb311b26856d2870e6b93a18", checked := Try.checked }
namespace Rows
def none {H : Type} : Left H := { results := [], args := [] }

/-- 'laws.FnExactIsBalanced': WHATEVER THE INPUT: true; the input reads as it did. -/
def fnExactIsBalancedSpec : ChangeSpec := { name := "fnExactIsBalanced", fn := fun _ => fun
  | [d] => { results := [.lit (.bool true)], args := [d] }
  | _ => none }
def fnExactIsBalancedRow : OpenClaim := { program := "ytdebomoibgnchaa", sum := "cc5e1a98f5b0002f1d4b4e42ce610c96cb583b28bb311b26856d2870e6b93a18", func := "loop.example/g03401/laws.FnExactIsBalanced", spec := "fnExactIsBalanced", apart := false }
def FnExactIsBalancedSaid : Prop := fnExactIsBalancedRow.holds Try.pinned (OpenSpec.ofChange fnExactIsBalancedSpec)

/-- ITS FALSE NEIGHBOUR: 'it returns false'. Refute it at one input. -/
def fnExactIsBalancedWrong : ChangeSpec := { name := "fnExactIsBalanced", fn := fun _ => fun
  | [d] => { results := [.lit (.bool false)], args := [d] }
  | _ => none }
def FnExactIsBalancedWrongFalsely : Prop := fnExactIsBalancedRow.holds Try.pinned (OpenSpec.ofChange fnExactIsBalancedWrong)

/-- 'laws.FnExactGoodShift': WHATEVER THE INPUT: true; the input reads as it did. -/
def fnExactGoodShiftSpec : ChangeSpec := { name := "fnExactGoodShift", fn := fun _ => fun
  | [d] => { results := [.lit (.bool true)], args := [d] }
  | _ => none }
def fnExactGoodShiftRow : OpenClaim := { program := "ytdebomoibgnchaa", sum := "cc5e1a98f5b0002f1d4b4e42ce610c96cb583b28bb311b26856d2870e6b93a18", func := "loop.example/g03401/laws.FnExactGoodShift", spec := "fnExactGoodShift", unfollowed := true, recurses := true, apart := false }
def FnExactGoodShiftSaid : Prop := fnExactGoodShiftRow.holds Try.pinned (OpenSpec.ofChange fnExactGoodShiftSpec)

/-- ITS FALSE NEIGHBOUR: 'it returns false'. Refute it at one input. -/
def fnExactGoodShiftWrong : ChangeSpec := { name := "fnExactGoodShift", fn := fun _ => fun
  | [d] => { results := [.lit (.bool false)], args := [d] }
  | _ => none }
def FnExactGoodShiftWrongFalsely : Prop := fnExactGoodShiftRow.holds Try.pinned (OpenSpec.ofChange fnExactGoodShiftWrong)

/-- 'laws.FnExactDyckOfCircle': WHATEVER THE INPUT: true; the input reads as it did. -/
def fnExactDyckOfCircleSpec : ChangeSpec := { name := "fnExactDyckOfCircle", fn := fun _ => fun
  | [d] => { results := [.lit (.bool true)], args := [d] }
  | _ => none }
def fnExactDyckOfCircleRow : OpenClaim := { program := "ytdebomoibgnchaa", sum := "cc5e1a98f5b0002f1d4b4e42ce610c96cb583b28bb311b26856d2870e6b93a18", func := "loop.example/g03401/laws.FnExactDyckOfCircle", spec := "fnExactDyckOfCircle", unfollowed := true, recurses := true, apart := false }
def FnExactDyckOfCircleSaid : Prop := fnExactDyckOfCircleRow.holds Try.pinned (OpenSpec.ofChange fnExactDyckOfCircleSpec)

/-- ITS FALSE NEIGHBOUR: 'it returns false'. Refute it at one input. -/
def fnExactDyckOfCircleWrong : ChangeSpec := { name := "fnExactDyckOfCircle", fn := fun _ => fun
  | [d] => { results := [.lit (.bool false)], args := [d] }
  | _ => none }
def FnExactDyckOfCircleWrongFalsely : Prop := fnExactDyckOfCircleRow.holds Try.pinned (OpenSpec.ofChange fnExactDyckOfCircleWrong)

/-- 'laws.FnExactCountGoodShifts': WHATEVER THE INPUT: true; the input reads as it did. -/
def fnExactCountGoodShiftsSpec : ChangeSpec := { name := "fnExactCountGoodShifts", fn := fun _ => fun
  | [d] => { results := [.lit (.bool true)], args := [d] }
  | _ => none }
def fnExactCountGoodShiftsRow : OpenClaim := { program := "ytdebomoibgnchaa", sum := "cc5e1a98f5b0002f1d4b4e42ce610c96cb583b28bb311b26856d2870e6b93a18", func := "loop.example/g03401/laws.FnExactCountGoodShifts", spec := "fnExactCountGoodShifts", unfollowed := true, recurses := true, apart := false }
def FnExactCountGoodShiftsSaid : Prop := fnExactCountGoodShiftsRow.holds Try.pinned (OpenSpec.ofChange fnExactCountGoodShiftsSpec)

/-- ITS FALSE NEIGHBOUR: 'it returns false'. Refute it at one input. -/
def fnExactCountGoodShiftsWrong : ChangeSpec := { name := "fnExactCountGoodShifts", fn := fun _ => fun
  | [d] => { results := [.lit (.bool false)], args := [d] }
  | _ => none }
def FnExactCountGoodShiftsWrongFalsely : Prop := fnExactCountGoodShiftsRow.holds Try.pinned (OpenSpec.ofChange fnExactCountGoodShiftsWrong)

/-- 'laws.FnExactShiftWord': WHATEVER THE INPUT: true; the input reads as it did. -/
def fnExactShiftWordSpec : ChangeSpec := { name := "fnExactShiftWord", fn := fun _ => fun
  | [d1, d2] => { results := [.lit (.bool true)], args := [d1, d2] }
  | _ => none }
def fnExactShiftWordRow : OpenClaim := { program := "ytdebomoibgnchaa", sum := "cc5e1a98f5b0002f1d4b4e42ce610c96cb583b28bb311b26856d2870e6b93a18", func := "loop.example/g03401/laws.FnExactShiftWord", spec := "fnExactShiftWord", apart := false }
def FnExactShiftWordSaid : Prop := fnExactShiftWordRow.holds Try.pinned (OpenSpec.ofChange fnExactShiftWordSpec)

/-- ITS FALSE NEIGHBOUR: 'it returns false'. Refute it at one input. -/
def fnExactShiftWordWrong : ChangeSpec := { name := "fnExactShiftWord", fn := fun _ => fun
  | [d1, d2] => { results := [.lit (.bool false)], args := [d1, d2] }
  | _ => none }
def FnExactShiftWordWrongFalsely : Prop := fnExactShiftWordRow.holds Try.pinned (OpenSpec.ofChange fnExactShiftWordWrong)

/-- 'laws.FnExactCircleOf': WHATEVER THE INPUT: true; the input reads as it did. -/
def fnExactCircleOfSpec : ChangeSpec := { name := "fnExactCircleOf", fn := fun _ => fun
  | [d1, d2] => { results := [.lit (.bool true)], args := [d1, d2] }
  | _ => none }
def fnExactCircleOfRow : OpenClaim := { program := "ytdebomoibgnchaa", sum := "cc5e1a98f5b0002f1d4b4e42ce610c96cb583b28bb311b26856d2870e6b93a18", func := "loop.example/g03401/laws.FnExactCircleOf", spec := "fnExactCircleOf", apart := false }
def FnExactCircleOfSaid : Prop := fnExactCircleOfRow.holds Try.pinned (OpenSpec.ofChange fnExactCircleOfSpec)

/-- ITS FALSE NEIGHBOUR: 'it returns false'. Refute it at one input. -/
def fnExactCircleOfWrong : ChangeSpec := { name := "fnExactCircleOf", fn := fun _ => fun
  | [d1, d2] => { results := [.lit (.bool false)], args := [d1, d2] }
  | _ => none }
def FnExactCircleOfWrongFalsely : Prop := fnExactCircleOfRow.holds Try.pinned (OpenSpec.ofChange fnExactCircleOfWrong)

/- THE SECOND FORM. 'bulk': how many values and letters a reading holds, each counted each time it is reached (what is shared counts as often as it is met; a slice's spare places count too). A statement '..UptoSaid' is the law's where the arguments, and the package variables that the reading takes, are together of bulk at most 1048576: NARROWER than '..Said'. Prove '..Said' where nothing that the law and all that it calls make is longer than what came in: it says more and counts as full. Else prove '..UptoSaid'. A law counts once. -/
mutual
def uptoBulk {H : Type} : DataW H → Nat
  | .lit (.string bytes) => bytes.length + 1
  | .lit _ => 1
  | .nil => 1
  | .ptr d => uptoBulk d + 1
  | .slice elems spare => uptoBulkAll elems + uptoBulkAll spare + 1
  | .agg parts => uptoBulkAll parts + 1
  | .iface _ d => uptoBulk d + 1
  | .map entries => uptoBulkEntries entries + 1
  | .held _ => 1
def uptoBulkAll {H : Type} : List (DataW H) → Nat
  | [] => 0
  | d :: r => uptoBulk d + uptoBulkAll r
def uptoBulkEntries {H : Type} : List (Lit × DataW H) → Nat
  | [] => 0
  | x :: r => uptoBulkEntry x + uptoBulkEntries r
def uptoBulkEntry {H : Type} : Lit × DataW H → Nat
  | (.string bytes, d) => bytes.length + uptoBulk d + 1
  | (_, d) => uptoBulk d + 1
 end
def uptoSmall : (H : Type) → List (DataW H) → Bool := fun _ ds => decide (uptoBulkAll ds ≤ 1048576)
def OpenSpec.upto (s : _root_.Go.ChangeSpec) : _root_.Go.OpenSpec := { _root_.Go.OpenSpec.ofChange s with cond := some uptoSmall }

/-- 'laws.FnExactIsBalanced', WHERE WHAT IT READS IS OF BULK AT MOST 1048576: true; the input reads as it did. -/
def fnExactIsBalancedUptoRow : OpenClaim := { program := "ytdebomoibgnchaa", sum := "cc5e1a98f5b0002f1d4b4e42ce610c96cb583b28bb311b26856d2870e6b93a18", func := "loop.example/g03401/laws.FnExactIsBalanced", spec := "fnExactIsBalanced", apart := false, narrowed := true }
def FnExactIsBalancedUptoSaid : Prop := fnExactIsBalancedUptoRow.holds Try.pinned (OpenSpec.upto fnExactIsBalancedSpec)

/-- 'laws.FnExactGoodShift', WHERE WHAT IT READS IS OF BULK AT MOST 1048576: true; the input reads as it did. -/
def fnExactGoodShiftUptoRow : OpenClaim := { program := "ytdebomoibgnchaa", sum := "cc5e1a98f5b0002f1d4b4e42ce610c96cb583b28bb311b26856d2870e6b93a18", func := "loop.example/g03401/laws.FnExactGoodShift", spec := "fnExactGoodShift", unfollowed := true, recurses := true, apart := false, narrowed := true }
def FnExactGoodShiftUptoSaid : Prop := fnExactGoodShiftUptoRow.holds Try.pinned (OpenSpec.upto fnExactGoodShiftSpec)

/-- 'laws.FnExactDyckOfCircle', WHERE WHAT IT READS IS OF BULK AT MOST 1048576: true; the input reads as it did. -/
def fnExactDyckOfCircleUptoRow : OpenClaim := { program := "ytdebomoibgnchaa", sum := "cc5e1a98f5b0002f1d4b4e42ce610c96cb583b28bb311b26856d2870e6b93a18", func := "loop.example/g03401/laws.FnExactDyckOfCircle", spec := "fnExactDyckOfCircle", unfollowed := true, recurses := true, apart := false, narrowed := true }
def FnExactDyckOfCircleUptoSaid : Prop := fnExactDyckOfCircleUptoRow.holds Try.pinned (OpenSpec.upto fnExactDyckOfCircleSpec)

/-- 'laws.FnExactCountGoodShifts', WHERE WHAT IT READS IS OF BULK AT MOST 1048576: true; the input reads as it did. -/
def fnExactCountGoodShiftsUptoRow : OpenClaim := { program := "ytdebomoibgnchaa", sum := "cc5e1a98f5b0002f1d4b4e42ce610c96cb583b28bb311b26856d2870e6b93a18", func := "loop.example/g03401/laws.FnExactCountGoodShifts", spec := "fnExactCountGoodShifts", unfollowed := true, recurses := true, apart := false, narrowed := true }
def FnExactCountGoodShiftsUptoSaid : Prop := fnExactCountGoodShiftsUptoRow.holds Try.pinned (OpenSpec.upto fnExactCountGoodShiftsSpec)

/-- 'laws.FnExactShiftWord', WHERE WHAT IT READS IS OF BULK AT MOST 1048576: true; the input reads as it did. -/
def fnExactShiftWordUptoRow : OpenClaim := { program := "ytdebomoibgnchaa", sum := "cc5e1a98f5b0002f1d4b4e42ce610c96cb583b28bb311b26856d2870e6b93a18", func := "loop.example/g03401/laws.FnExactShiftWord", spec := "fnExactShiftWord", apart := false, narrowed := true }
def FnExactShiftWordUptoSaid : Prop := fnExactShiftWordUptoRow.holds Try.pinned (OpenSpec.upto fnExactShiftWordSpec)

/-- 'laws.FnExactCircleOf', WHERE WHAT IT READS IS OF BULK AT MOST 1048576: true; the input reads as it did. -/
def fnExactCircleOfUptoRow : OpenClaim := { program := "ytdebomoibgnchaa", sum := "cc5e1a98f5b0002f1d4b4e42ce610c96cb583b28bb311b26856d2870e6b93a18", func := "loop.example/g03401/laws.FnExactCircleOf", spec := "fnExactCircleOf", apart := false, narrowed := true }
def FnExactCircleOfUptoSaid : Prop := fnExactCircleOfUptoRow.holds Try.pinned (OpenSpec.upto fnExactCircleOfSpec)

end Rows
end Go.Proofs.Ytdebomoibgnchaa
