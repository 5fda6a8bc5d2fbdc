/-
  NARROWER THAN 'FOR EVERY INPUT', by the rows' own cells (each row's printed sentence says how): FnExactCountParking: calm.
  DERIVED. THE GIVEN ROWS OF THIS SEAT. 7 by the template 'for every input the law returns true; each argument reads behind the call as it read before'; 0 by the template 'total and deterministic' (their statements: YtidfbnfgmacjgaaTotals.lean).
  GIVEN WITH THE SEED: the statements are not yours to turn. If you find one false, say at which input.
  Laid BY PROGRAM, IN A SANDBOX (cutbox-rows.mjs): the forced cells as the released guide's own fill.sh prints them over the translation 5bbaef243d0acd06… (all of the seat's roots in one cut). By AI agents, Wed Nov 11 2026. No macro, syntax, notation, axiom, sorry.
-/
import Derived.Test.YtidfbnfgmacjgaaChecked
import GoSem.Claim
import GoSem.ClaimJoined
import GoSem.ClaimMapViews
import Derived.JoinedTies
import Derived.KernelRfl
namespace Go.Proofs.Ytidfbnfgmacjgaa
/- THE CELL 'sum', in the pinned program and in every row, IS THE sha256 OF THE DUMP (.gsa) THAT YtidfbnfgmacjgaaProg.lean LOADS. Nothing in Lean hashes anything: it is a label: what it is worth is what the hold of that sum in a sandbox is worth. -/
noncomputable def Try.pinned : Pinned := { name := "ytidfbnfgmacjgaa", sum := "5bbaef243d0acd06c70b3416059fa8ea11fd8e55c6fc7b6bdaf8cf7a4403a099", checked := Try.checked }
namespace Rows
def none {H : Type} : Left H := { results := [], args := [] }

/-- 'laws.FnExactIsParking': WHATEVER THE INPUT: true; the input reads as it did. -/
def fnExactIsParkingSpec : ChangeSpec := { name := "fnExactIsParking", fn := fun _ => fun
  | [d] => { results := [.lit (.bool true)], args := [d] }
  | _ => none }
def fnExactIsParkingRow : OpenClaim := { program := "ytidfbnfgmacjgaa", sum := "5bbaef243d0acd06c70b3416059fa8ea11fd8e55c6fc7b6bdaf8cf7a4403a099", func := "loop.example/g03401/laws.FnExactIsParking", spec := "fnExactIsParking", apart := false }
def FnExactIsParkingSaid : Prop := fnExactIsParkingRow.holds Try.pinned (OpenSpec.ofChange fnExactIsParkingSpec)

/-- ITS FALSE NEIGHBOUR: 'it returns false'. Refute it at one input. -/
def fnExactIsParkingWrong : ChangeSpec := { name := "fnExactIsParking", fn := fun _ => fun
  | [d] => { results := [.lit (.bool false)], args := [d] }
  | _ => none }
def FnExactIsParkingWrongFalsely : Prop := fnExactIsParkingRow.holds Try.pinned (OpenSpec.ofChange fnExactIsParkingWrong)

/-- 'laws.FnExactPlacesOf': WHATEVER THE INPUT: true; the input reads as it did. -/
def fnExactPlacesOfSpec : ChangeSpec := { name := "fnExactPlacesOf", fn := fun _ => fun
  | [d] => { results := [.lit (.bool true)], args := [d] }
  | _ => none }
def fnExactPlacesOfRow : OpenClaim := { program := "ytidfbnfgmacjgaa", sum := "5bbaef243d0acd06c70b3416059fa8ea11fd8e55c6fc7b6bdaf8cf7a4403a099", func := "loop.example/g03401/laws.FnExactPlacesOf", spec := "fnExactPlacesOf", apart := false }
def FnExactPlacesOfSaid : Prop := fnExactPlacesOfRow.holds Try.pinned (OpenSpec.ofChange fnExactPlacesOfSpec)

/-- ITS FALSE NEIGHBOUR: 'it returns false'. Refute it at one input. -/
def fnExactPlacesOfWrong : ChangeSpec := { name := "fnExactPlacesOf", fn := fun _ => fun
  | [d] => { results := [.lit (.bool false)], args := [d] }
  | _ => none }
def FnExactPlacesOfWrongFalsely : Prop := fnExactPlacesOfRow.holds Try.pinned (OpenSpec.ofChange fnExactPlacesOfWrong)

/-- 'laws.FnExactCountParking': WHATEVER THE INPUT: true; the input reads as it did. -/
def fnExactCountParkingSpec : ChangeSpec := { name := "fnExactCountParking", fn := fun _ => fun
  | [d] => { results := [.lit (.bool true)], args := [d] }
  | _ => none }
def fnExactCountParkingRow : OpenClaim := { program := "ytidfbnfgmacjgaa", sum := "5bbaef243d0acd06c70b3416059fa8ea11fd8e55c6fc7b6bdaf8cf7a4403a099", func := "loop.example/g03401/laws.FnExactCountParking", spec := "fnExactCountParking", inPlace := ["(*sync.WaitGroup).Add", "internal/race.ReleaseMerge", "internal/race.Disable", "internal/race.Enable", "internal/synctest.IsInBubble", "internal/synctest.Associate[sync.WaitGroup]", "sync.fatal", "sync/atomic.OrUint64", "sync/atomic.AddUint64", "internal/race.Read", "sync/atomic.LoadUint64", "sync/atomic.StoreUint64", "internal/synctest.Disassociate[sync.WaitGroup]", "sync.runtime_Semrelease", "(*sync.WaitGroup).Done", "(*internal/sync.Mutex).Lock", "sync/atomic.CompareAndSwapInt32", "internal/race.Acquire", "(*internal/sync.Mutex).lockSlow", "internal/sync.runtime_canSpin", "internal/sync.runtime_doSpin", "internal/sync.throw", "internal/sync.runtime_nanotime", "internal/sync.runtime_SemacquireMutex", "sync/atomic.AddInt32", "(*internal/sync.Mutex).Unlock", "(*internal/sync.Mutex).unlockSlow", "internal/sync.fatal", "internal/sync.runtime_Semrelease", "(*sync.WaitGroup).Wait", "internal/synctest.IsAssociated[sync.WaitGroup]", "sync/atomic.CompareAndSwapUint64", "internal/race.Write", "sync.runtime_SemacquireWaitGroup"], unfollowed := true, recurses := true, leaving := true, apart := false, calm := true, outside := [.timePasses] }
def FnExactCountParkingSaid : Prop := fnExactCountParkingRow.holds Try.pinned (OpenSpec.ofChange fnExactCountParkingSpec)

/-- ITS FALSE NEIGHBOUR: 'it returns false'. Refute it at one input. -/
def fnExactCountParkingWrong : ChangeSpec := { name := "fnExactCountParking", fn := fun _ => fun
  | [d] => { results := [.lit (.bool false)], args := [d] }
  | _ => none }
def FnExactCountParkingWrongFalsely : Prop := fnExactCountParkingRow.holds Try.pinned (OpenSpec.ofChange fnExactCountParkingWrong)

/-- 'laws.FnExactPathOfParking': WHATEVER THE INPUT: true; the input reads as it did. -/
def fnExactPathOfParkingSpec : ChangeSpec := { name := "fnExactPathOfParking", fn := fun _ => fun
  | [d] => { results := [.lit (.bool true)], args := [d] }
  | _ => none }
def fnExactPathOfParkingRow : OpenClaim := { program := "ytidfbnfgmacjgaa", sum := "5bbaef243d0acd06c70b3416059fa8ea11fd8e55c6fc7b6bdaf8cf7a4403a099", func := "loop.example/g03401/laws.FnExactPathOfParking", spec := "fnExactPathOfParking", inPlace := ["internal/abi.NoEscape"], apart := false }
def FnExactPathOfParkingSaid : Prop := fnExactPathOfParkingRow.holds Try.pinned (OpenSpec.ofChange fnExactPathOfParkingSpec)

/-- ITS FALSE NEIGHBOUR: 'it returns false'. Refute it at one input. -/
def fnExactPathOfParkingWrong : ChangeSpec := { name := "fnExactPathOfParking", fn := fun _ => fun
  | [d] => { results := [.lit (.bool false)], args := [d] }
  | _ => none }
def FnExactPathOfParkingWrongFalsely : Prop := fnExactPathOfParkingRow.holds Try.pinned (OpenSpec.ofChange fnExactPathOfParkingWrong)

/-- 'laws.FnExactDisplacementOf': WHATEVER THE INPUT: true; the input reads as it did. -/
def fnExactDisplacementOfSpec : ChangeSpec := { name := "fnExactDisplacementOf", fn := fun _ => fun
  | [d] => { results := [.lit (.bool true)], args := [d] }
  | _ => none }
def fnExactDisplacementOfRow : OpenClaim := { program := "ytidfbnfgmacjgaa", sum := "5bbaef243d0acd06c70b3416059fa8ea11fd8e55c6fc7b6bdaf8cf7a4403a099", func := "loop.example/g03401/laws.FnExactDisplacementOf", spec := "fnExactDisplacementOf", apart := false }
def FnExactDisplacementOfSaid : Prop := fnExactDisplacementOfRow.holds Try.pinned (OpenSpec.ofChange fnExactDisplacementOfSpec)

/-- ITS FALSE NEIGHBOUR: 'it returns false'. Refute it at one input. -/
def fnExactDisplacementOfWrong : ChangeSpec := { name := "fnExactDisplacementOf", fn := fun _ => fun
  | [d] => { results := [.lit (.bool false)], args := [d] }
  | _ => none }
def FnExactDisplacementOfWrongFalsely : Prop := fnExactDisplacementOfRow.holds Try.pinned (OpenSpec.ofChange fnExactDisplacementOfWrong)

/-- 'laws.FnExactSortParking': WHATEVER THE INPUT: true; the input reads as it did. -/
def fnExactSortParkingSpec : ChangeSpec := { name := "fnExactSortParking", fn := fun _ => fun
  | [d] => { results := [.lit (.bool true)], args := [d] }
  | _ => none }
def fnExactSortParkingRow : OpenClaim := { program := "ytidfbnfgmacjgaa", sum := "5bbaef243d0acd06c70b3416059fa8ea11fd8e55c6fc7b6bdaf8cf7a4403a099", func := "loop.example/g03401/laws.FnExactSortParking", spec := "fnExactSortParking", unfollowed := true, recurses := true, leaving := true, apart := false }
def FnExactSortParkingSaid : Prop := fnExactSortParkingRow.holds Try.pinned (OpenSpec.ofChange fnExactSortParkingSpec)

/-- ITS FALSE NEIGHBOUR: 'it returns false'. Refute it at one input. -/
def fnExactSortParkingWrong : ChangeSpec := { name := "fnExactSortParking", fn := fun _ => fun
  | [d] => { results := [.lit (.bool false)], args := [d] }
  | _ => none }
def FnExactSortParkingWrongFalsely : Prop := fnExactSortParkingRow.holds Try.pinned (OpenSpec.ofChange fnExactSortParkingWrong)

/-- 'laws.FnExactLuckyOf': WHATEVER THE INPUT: true; the input reads as it did. -/
def fnExactLuckyOfSpec : ChangeSpec := { name := "fnExactLuckyOf", fn := fun _ => fun
  | [d] => { results := [.lit (.bool true)], args := [d] }
  | _ => none }
def fnExactLuckyOfRow : OpenClaim := { program := "ytidfbnfgmacjgaa", sum := "5bbaef243d0acd06c70b3416059fa8ea11fd8e55c6fc7b6bdaf8cf7a4403a099", func := "loop.example/g03401/laws.FnExactLuckyOf", spec := "fnExactLuckyOf", apart := false }
def FnExactLuckyOfSaid : Prop := fnExactLuckyOfRow.holds Try.pinned (OpenSpec.ofChange fnExactLuckyOfSpec)

/-- ITS FALSE NEIGHBOUR: 'it returns false'. Refute it at one input. -/
def fnExactLuckyOfWrong : ChangeSpec := { name := "fnExactLuckyOf", fn := fun _ => fun
  | [d] => { results := [.lit (.bool false)], args := [d] }
  | _ => none }
def FnExactLuckyOfWrongFalsely : Prop := fnExactLuckyOfRow.holds Try.pinned (OpenSpec.ofChange fnExactLuckyOfWrong)

/- THE SECOND FORM. 'bulk': how many values and letters a reading holds, each counted each time it is reached (what is shared counts as often as it is met; a slice's spare places count too). A statement '..UptoSaid' is the law's where the arguments, and the package variables that the reading takes, are together of bulk at most 1048576: NARROWER than '..Said'. Prove '..Said' where nothing that the law and all that it calls make is longer than what came in: it says more and counts as full. Else prove '..UptoSaid'. A law counts once. -/
mutual
def uptoBulk {H : Type} : DataW H → Nat
  | .lit (.string bytes) => bytes.length + 1
  | .lit _ => 1
  | .nil => 1
  | .ptr d => uptoBulk d + 1
  | .slice elems spare => uptoBulkAll elems + uptoBulkAll spare + 1
  | .agg parts => uptoBulkAll parts + 1
  | .iface _ d => uptoBulk d + 1
  | .map entries => uptoBulkEntries entries + 1
  | .held _ => 1
def uptoBulkAll {H : Type} : List (DataW H) → Nat
  | [] => 0
  | d :: r => uptoBulk d + uptoBulkAll r
def uptoBulkEntries {H : Type} : List (Lit × DataW H) → Nat
  | [] => 0
  | x :: r => uptoBulkEntry x + uptoBulkEntries r
def uptoBulkEntry {H : Type} : Lit × DataW H → Nat
  | (.string bytes, d) => bytes.length + uptoBulk d + 1
  | (_, d) => uptoBulk d + 1
 end
def uptoSmall : (H : Type) → List (DataW H) → Bool := fun _ ds => decide (uptoBulkAll ds ≤ 1048576)
def OpenSpec.upto (s : _root_.Go.ChangeSpec) : _root_.Go.OpenSpec := { _root_.Go.OpenSpec.ofChange s with cond := some uptoSmall }

/-- 'laws.FnExactIsParking', WHERE WHAT IT READS IS OF BULK AT MOST 1048576: true; the input reads as it did. -/
def fnExactIsParkingUptoRow : OpenClaim := { program := "ytidfbnfgmacjgaa", sum := "5bbaef243d0acd06c70b3416059fa8ea11fd8e55c6fc7b6bdaf8cf7a4403a099", func := "loop.example/g03401/laws.FnExactIsParking", spec := "fnExactIsParking", apart := false, narrowed := true }
def FnExactIsParkingUptoSaid : Prop := fnExactIsParkingUptoRow.holds Try.pinned (OpenSpec.upto fnExactIsParkingSpec)

/-- 'laws.FnExactPlacesOf', WHERE WHAT IT READS IS OF BULK AT MOST 1048576: true; the input reads as it did. -/
def fnExactPlacesOfUptoRow : OpenClaim := { program := "ytidfbnfgmacjgaa", sum := "5bbaef243d0acd06c70b3416059fa8ea11fd8e55c6fc7b6bdaf8cf7a4403a099", func := "loop.example/g03401/laws.FnExactPlacesOf", spec := "fnExactPlacesOf", apart := false, narrowed := true }
def FnExactPlacesOfUptoSaid : Prop := fnExactPlacesOfUptoRow.holds Try.pinned (OpenSpec.upto fnExactPlacesOfSpec)

/-- 'laws.FnExactCountParking', WHERE WHAT IT READS IS OF BULK AT MOST 1048576: true; the input reads as it did. -/
def fnExactCountParkingUptoRow : OpenClaim := { program := "ytidfbnfgmacjgaa", sum := "5bbaef243d0acd06c70b3416059fa8ea11fd8e55c6fc7b6bdaf8cf7a4403a099", func := "loop.example/g03401/laws.FnExactCountParking", spec := "fnExactCountParking", inPlace := ["(*sync.WaitGroup).Add", "internal/race.ReleaseMerge", "internal/race.Disable", "internal/race.Enable", "internal/synctest.IsInBubble", "internal/synctest.Associate[sync.WaitGroup]", "sync.fatal", "sync/atomic.OrUint64", "sync/atomic.AddUint64", "internal/race.Read", "sync/atomic.LoadUint64", "sync/atomic.StoreUint64", "internal/synctest.Disassociate[sync.WaitGroup]", "sync.runtime_Semrelease", "(*sync.WaitGroup).Done", "(*internal/sync.Mutex).Lock", "sync/atomic.CompareAndSwapInt32", "internal/race.Acquire", "(*internal/sync.Mutex).lockSlow", "internal/sync.runtime_canSpin", "internal/sync.runtime_doSpin", "internal/sync.throw", "internal/sync.runtime_nanotime", "internal/sync.runtime_SemacquireMutex", "sync/atomic.AddInt32", "(*internal/sync.Mutex).Unlock", "(*internal/sync.Mutex).unlockSlow", "internal/sync.fatal", "internal/sync.runtime_Semrelease", "(*sync.WaitGroup).Wait", "internal/synctest.IsAssociated[sync.WaitGroup]", "sync/atomic.CompareAndSwapUint64", "internal/race.Write", "sync.runtime_SemacquireWaitGroup"], unfollowed := true, recurses := true, leaving := true, apart := false, calm := true, outside := [.timePasses], narrowed := true }
def FnExactCountParkingUptoSaid : Prop := fnExactCountParkingUptoRow.holds Try.pinned (OpenSpec.upto fnExactCountParkingSpec)

/-- 'laws.FnExactPathOfParking', WHERE WHAT IT READS IS OF BULK AT MOST 1048576: true; the input reads as it did. -/
def fnExactPathOfParkingUptoRow : OpenClaim := { program := "ytidfbnfgmacjgaa", sum := "5bbaef243d0acd06c70b3416059fa8ea11fd8e55c6fc7b6bdaf8cf7a4403a099", func := "loop.example/g03401/laws.FnExactPathOfParking", spec := "fnExactPathOfParking", inPlace := ["internal/abi.NoEscape"], apart := false, narrowed := true }
def FnExactPathOfParkingUptoSaid : Prop := fnExactPathOfParkingUptoRow.holds Try.pinned (OpenSpec.upto fnExactPathOfParkingSpec)

/-- 'laws.FnExactDisplacementOf', WHERE WHAT IT READS IS OF BULK AT MOST 1048576: true; the input reads as it did. -/
def fnExactDisplacementOfUptoRow : OpenClaim := { program := "ytidfbnfgmacjgaa", sum := "5bbaef243d0acd06c70b3416059fa8ea11fd8e55c6fc7b6bdaf8cf7a4403a099", func := "loop.example/g03401/laws.FnExactDisplacementOf", spec := "fnExactDisplacementOf", apart := false, narrowed := true }
def FnExactDisplacementOfUptoSaid : Prop := fnExactDisplacementOfUptoRow.holds Try.pinned (OpenSpec.upto fnExactDisplacementOfSpec)

/-- 'laws.FnExactSortParking', WHERE WHAT IT READS IS OF BULK AT MOST 1048576: true; the input reads as it did. -/
def fnExactSortParkingUptoRow : OpenClaim := { program := "ytidfbnfgmacjgaa", sum := "5bbaef243d0acd06c70b3416059fa8ea11fd8e55c6fc7b6bdaf8cf7a4403a099", func := "loop.example/g03401/laws.FnExactSortParking", spec := "fnExactSortParking", unfollowed := true, recurses := true, leaving := true, apart := false, narrowed := true }
def FnExactSortParkingUptoSaid : Prop := fnExactSortParkingUptoRow.holds Try.pinned (OpenSpec.upto fnExactSortParkingSpec)

/-- 'laws.FnExactLuckyOf', WHERE WHAT IT READS IS OF BULK AT MOST 1048576: true; the input reads as it did. -/
def fnExactLuckyOfUptoRow : OpenClaim := { program := "ytidfbnfgmacjgaa", sum := "5bbaef243d0acd06c70b3416059fa8ea11fd8e55c6fc7b6bdaf8cf7a4403a099", func := "loop.example/g03401/laws.FnExactLuckyOf", spec := "fnExactLuckyOf", apart := false, narrowed := true }
def FnExactLuckyOfUptoSaid : Prop := fnExactLuckyOfUptoRow.holds Try.pinned (OpenSpec.upto fnExactLuckyOfSpec)

end Rows
end Go.Proofs.Ytidfbnfgmacjgaa
