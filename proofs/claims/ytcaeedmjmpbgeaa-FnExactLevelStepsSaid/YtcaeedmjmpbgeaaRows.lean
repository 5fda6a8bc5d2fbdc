/-
  No cell of these rows narrows 'for every input' (looked for: loops, veiled, ifaces, maps, wideKeys, modest, calm, conditions, laid).
  DERIVED. THE GIVEN ROWS OF THIS SEAT. 6 by the template 'for every input the law returns true; each argument reads behind the call as it read before'; 0 by the template 'total and deterministic' (their statements: YtcaeedmjmpbgeaaTotals.lean).
  GIVEN WITH THE SEED: the statements are not yours to turn. If you find one false, say at which input.
  Laid BY PROGRAM, IN A SANDBOX (cutbox-rows.mjs): the forced cells as the released guide's own fill.sh prints them over the translation 049557c6fd893f31… (all of the seat's roots in one cut). By AI agents, Wed Nov 11 2026. No macro, syntax, notation, axiom, sorry.
-/
import Derived.Test.YtcaeedmjmpbgeaaChecked
import GoSem.Claim
import GoSem.ClaimJoined
import GoSem.ClaimMapViews
import Derived.JoinedTies
import Derived.KernelRfl
namespace Go.Proofs.Ytcaeedmjmpbgeaa
/- THE CELL 'sum', in the pinned program and in every row, IS THE sha256 OF THE DUMP (.gsa) THAT YtcaeedmjmpbgeaaProg.lean LOADS. Nothing in Lean hashes anything: it is a label: what it is worth is what the hold of that sum in a sandbox is worth. -/
noncomputable def Try.pinned : Pinned := { name := "ytcaeedmjmpbgeaa", sum := "049557c6fd893f31ea10188ce067c270f5af0c7bef791e060afe9392da858a04", checked := Try.checked }
namespace Rows
def none {H : Type} : Left H := { results := [], args := [] }

/-- 'laws.FnExactIsMotzkin': WHATEVER THE INPUT: true; the input reads as it did. -/
def fnExactIsMotzkinSpec : ChangeSpec := { name := "fnExactIsMotzkin", fn := fun _ => fun
  | [d] => { results := [.lit (.bool true)], args := [d] }
  | _ => none }
def fnExactIsMotzkinRow : OpenClaim := { program := "ytcaeedmjmpbgeaa", sum := "049557c6fd893f31ea10188ce067c270f5af0c7bef791e060afe9392da858a04", func := "loop.example/g03401/laws.FnExactIsMotzkin", spec := "fnExactIsMotzkin", unfollowed := true, recurses := true, apart := false }
def FnExactIsMotzkinSaid : Prop := fnExactIsMotzkinRow.holds Try.pinned (OpenSpec.ofChange fnExactIsMotzkinSpec)

/-- ITS FALSE NEIGHBOUR: 'it returns false'. Refute it at one input. -/
def fnExactIsMotzkinWrong : ChangeSpec := { name := "fnExactIsMotzkin", fn := fun _ => fun
  | [d] => { results := [.lit (.bool false)], args := [d] }
  | _ => none }
def FnExactIsMotzkinWrongFalsely : Prop := fnExactIsMotzkinRow.holds Try.pinned (OpenSpec.ofChange fnExactIsMotzkinWrong)

/-- 'laws.FnExactMotzkinNumber': WHATEVER THE INPUT: true; the input reads as it did. -/
def fnExactMotzkinNumberSpec : ChangeSpec := { name := "fnExactMotzkinNumber", fn := fun _ => fun
  | [d] => { results := [.lit (.bool true)], args := [d] }
  | _ => none }
def fnExactMotzkinNumberRow : OpenClaim := { program := "ytcaeedmjmpbgeaa", sum := "049557c6fd893f31ea10188ce067c270f5af0c7bef791e060afe9392da858a04", func := "loop.example/g03401/laws.FnExactMotzkinNumber", spec := "fnExactMotzkinNumber", apart := false }
def FnExactMotzkinNumberSaid : Prop := fnExactMotzkinNumberRow.holds Try.pinned (OpenSpec.ofChange fnExactMotzkinNumberSpec)

/-- ITS FALSE NEIGHBOUR: 'it returns false'. Refute it at one input. -/
def fnExactMotzkinNumberWrong : ChangeSpec := { name := "fnExactMotzkinNumber", fn := fun _ => fun
  | [d] => { results := [.lit (.bool false)], args := [d] }
  | _ => none }
def FnExactMotzkinNumberWrongFalsely : Prop := fnExactMotzkinNumberRow.holds Try.pinned (OpenSpec.ofChange fnExactMotzkinNumberWrong)

/-- 'laws.FnExactMotzkinPaths': WHATEVER THE INPUT: true; the input reads as it did. -/
def fnExactMotzkinPathsSpec : ChangeSpec := { name := "fnExactMotzkinPaths", fn := fun _ => fun
  | [d] => { results := [.lit (.bool true)], args := [d] }
  | _ => none }
def fnExactMotzkinPathsRow : OpenClaim := { program := "ytcaeedmjmpbgeaa", sum := "049557c6fd893f31ea10188ce067c270f5af0c7bef791e060afe9392da858a04", func := "loop.example/g03401/laws.FnExactMotzkinPaths", spec := "fnExactMotzkinPaths", recurses := true, apart := false }
def FnExactMotzkinPathsSaid : Prop := fnExactMotzkinPathsRow.holds Try.pinned (OpenSpec.ofChange fnExactMotzkinPathsSpec)

/-- ITS FALSE NEIGHBOUR: 'it returns false'. Refute it at one input. -/
def fnExactMotzkinPathsWrong : ChangeSpec := { name := "fnExactMotzkinPaths", fn := fun _ => fun
  | [d] => { results := [.lit (.bool false)], args := [d] }
  | _ => none }
def FnExactMotzkinPathsWrongFalsely : Prop := fnExactMotzkinPathsRow.holds Try.pinned (OpenSpec.ofChange fnExactMotzkinPathsWrong)

/-- 'laws.FnExactMotzkinOf': WHATEVER THE INPUT: true; the input reads as it did. -/
def fnExactMotzkinOfSpec : ChangeSpec := { name := "fnExactMotzkinOf", fn := fun _ => fun
  | [d] => { results := [.lit (.bool true)], args := [d] }
  | _ => none }
def fnExactMotzkinOfRow : OpenClaim := { program := "ytcaeedmjmpbgeaa", sum := "049557c6fd893f31ea10188ce067c270f5af0c7bef791e060afe9392da858a04", func := "loop.example/g03401/laws.FnExactMotzkinOf", spec := "fnExactMotzkinOf", inPlace := ["internal/abi.NoEscape"], apart := false }
def FnExactMotzkinOfSaid : Prop := fnExactMotzkinOfRow.holds Try.pinned (OpenSpec.ofChange fnExactMotzkinOfSpec)

/-- ITS FALSE NEIGHBOUR: 'it returns false'. Refute it at one input. -/
def fnExactMotzkinOfWrong : ChangeSpec := { name := "fnExactMotzkinOf", fn := fun _ => fun
  | [d] => { results := [.lit (.bool false)], args := [d] }
  | _ => none }
def FnExactMotzkinOfWrongFalsely : Prop := fnExactMotzkinOfRow.holds Try.pinned (OpenSpec.ofChange fnExactMotzkinOfWrong)

/-- 'laws.FnExactDyckOfMotzkin': WHATEVER THE INPUT: true; the input reads as it did. -/
def fnExactDyckOfMotzkinSpec : ChangeSpec := { name := "fnExactDyckOfMotzkin", fn := fun _ => fun
  | [d] => { results := [.lit (.bool true)], args := [d] }
  | _ => none }
def fnExactDyckOfMotzkinRow : OpenClaim := { program := "ytcaeedmjmpbgeaa", sum := "049557c6fd893f31ea10188ce067c270f5af0c7bef791e060afe9392da858a04", func := "loop.example/g03401/laws.FnExactDyckOfMotzkin", spec := "fnExactDyckOfMotzkin", inPlace := ["sync/atomic.LoadUint32", "(*internal/sync.Mutex).Lock", "internal/race.Disable", "sync/atomic.CompareAndSwapInt32", "internal/race.Enable", "internal/race.Acquire", "(*internal/sync.Mutex).lockSlow", "internal/sync.runtime_canSpin", "internal/sync.runtime_doSpin", "internal/sync.throw", "internal/sync.runtime_nanotime", "internal/sync.runtime_SemacquireMutex", "sync/atomic.AddInt32", "(*internal/sync.Mutex).Unlock", "internal/race.ReleaseMerge", "(*internal/sync.Mutex).unlockSlow", "internal/sync.fatal", "internal/sync.runtime_Semrelease", "sync/atomic.StoreUint32"], unfollowed := true, recurses := true, apart := false }
def FnExactDyckOfMotzkinSaid : Prop := fnExactDyckOfMotzkinRow.holds Try.pinned (OpenSpec.ofChange fnExactDyckOfMotzkinSpec)

/-- ITS FALSE NEIGHBOUR: 'it returns false'. Refute it at one input. -/
def fnExactDyckOfMotzkinWrong : ChangeSpec := { name := "fnExactDyckOfMotzkin", fn := fun _ => fun
  | [d] => { results := [.lit (.bool false)], args := [d] }
  | _ => none }
def FnExactDyckOfMotzkinWrongFalsely : Prop := fnExactDyckOfMotzkinRow.holds Try.pinned (OpenSpec.ofChange fnExactDyckOfMotzkinWrong)

/-- 'laws.FnExactLevelSteps': WHATEVER THE INPUT: true; the input reads as it did. -/
def fnExactLevelStepsSpec : ChangeSpec := { name := "fnExactLevelSteps", fn := fun _ => fun
  | [d] => { results := [.lit (.bool true)], args := [d] }
  | _ => none }
def fnExactLevelStepsRow : OpenClaim := { program := "ytcaeedmjmpbgeaa", sum := "049557c6fd893f31ea10188ce067c270f5af0c7bef791e060afe9392da858a04", func := "loop.example/g03401/laws.FnExactLevelSteps", spec := "fnExactLevelSteps", inPlace := ["internal/bytealg.CountString", "internal/bytealg.IndexByteString", "internal/bytealg.IndexString"], unfollowed := true, recurses := true, named := ["internal/bytealg.MaxLen"], apart := false }
def FnExactLevelStepsSaid : Prop := fnExactLevelStepsRow.holds Try.pinned (OpenSpec.ofChange fnExactLevelStepsSpec)

/-- ITS FALSE NEIGHBOUR: 'it returns false'. Refute it at one input. -/
def fnExactLevelStepsWrong : ChangeSpec := { name := "fnExactLevelSteps", fn := fun _ => fun
  | [d] => { results := [.lit (.bool false)], args := [d] }
  | _ => none }
def FnExactLevelStepsWrongFalsely : Prop := fnExactLevelStepsRow.holds Try.pinned (OpenSpec.ofChange fnExactLevelStepsWrong)

/- THE SECOND FORM. 'bulk': how many values and letters a reading holds, each counted each time it is reached (what is shared counts as often as it is met; a slice's spare places count too). A statement '..UptoSaid' is the law's where the arguments, and the package variables that the reading takes, are together of bulk at most 1048576: NARROWER than '..Said'. Prove '..Said' where nothing that the law and all that it calls make is longer than what came in: it says more and counts as full. Else prove '..UptoSaid'. A law counts once. -/
mutual
def uptoBulk {H : Type} : DataW H → Nat
  | .lit (.string bytes) => bytes.length + 1
  | .lit _ => 1
  | .nil => 1
  | .ptr d => uptoBulk d + 1
  | .slice elems spare => uptoBulkAll elems + uptoBulkAll spare + 1
  | .agg parts => uptoBulkAll parts + 1
  | .iface _ d => uptoBulk d + 1
  | .map entries => uptoBulkEntries entries + 1
  | .held _ => 1
def uptoBulkAll {H : Type} : List (DataW H) → Nat
  | [] => 0
  | d :: r => uptoBulk d + uptoBulkAll r
def uptoBulkEntries {H : Type} : List (Lit × DataW H) → Nat
  | [] => 0
  | x :: r => uptoBulkEntry x + uptoBulkEntries r
def uptoBulkEntry {H : Type} : Lit × DataW H → Nat
  | (.string bytes, d) => bytes.length + uptoBulk d + 1
  | (_, d) => uptoBulk d + 1
 end
def uptoSmall : (H : Type) → List (DataW H) → Bool := fun _ ds => decide (uptoBulkAll ds ≤ 1048576)
def OpenSpec.upto (s : _root_.Go.ChangeSpec) : _root_.Go.OpenSpec := { _root_.Go.OpenSpec.ofChange s with cond := some uptoSmall }

/-- 'laws.FnExactIsMotzkin', WHERE WHAT IT READS IS OF BULK AT MOST 1048576: true; the input reads as it did. -/
def fnExactIsMotzkinUptoRow : OpenClaim := { program := "ytcaeedmjmpbgeaa", sum := "049557c6fd893f31ea10188ce067c270f5af0c7bef791e060afe9392da858a04", func := "loop.example/g03401/laws.FnExactIsMotzkin", spec := "fnExactIsMotzkin", unfollowed := true, recurses := true, apart := false, narrowed := true }
def FnExactIsMotzkinUptoSaid : Prop := fnExactIsMotzkinUptoRow.holds Try.pinned (OpenSpec.upto fnExactIsMotzkinSpec)

/-- 'laws.FnExactMotzkinNumber', WHERE WHAT IT READS IS OF BULK AT MOST 1048576: true; the input reads as it did. -/
def fnExactMotzkinNumberUptoRow : OpenClaim := { program := "ytcaeedmjmpbgeaa", sum := "049557c6fd893f31ea10188ce067c270f5af0c7bef791e060afe9392da858a04", func := "loop.example/g03401/laws.FnExactMotzkinNumber", spec := "fnExactMotzkinNumber", apart := false, narrowed := true }
def FnExactMotzkinNumberUptoSaid : Prop := fnExactMotzkinNumberUptoRow.holds Try.pinned (OpenSpec.upto fnExactMotzkinNumberSpec)

/-- 'laws.FnExactMotzkinPaths', WHERE WHAT IT READS IS OF BULK AT MOST 1048576: true; the input reads as it did. -/
def fnExactMotzkinPathsUptoRow : OpenClaim := { program := "ytcaeedmjmpbgeaa", sum := "049557c6fd893f31ea10188ce067c270f5af0c7bef791e060afe9392da858a04", func := "loop.example/g03401/laws.FnExactMotzkinPaths", spec := "fnExactMotzkinPaths", recurses := true, apart := false, narrowed := true }
def FnExactMotzkinPathsUptoSaid : Prop := fnExactMotzkinPathsUptoRow.holds Try.pinned (OpenSpec.upto fnExactMotzkinPathsSpec)

/-- 'laws.FnExactMotzkinOf', WHERE WHAT IT READS IS OF BULK AT MOST 1048576: true; the input reads as it did. -/
def fnExactMotzkinOfUptoRow : OpenClaim := { program := "ytcaeedmjmpbgeaa", sum := "049557c6fd893f31ea10188ce067c270f5af0c7bef791e060afe9392da858a04", func := "loop.example/g03401/laws.FnExactMotzkinOf", spec := "fnExactMotzkinOf", inPlace := ["internal/abi.NoEscape"], apart := false, narrowed := true }
def FnExactMotzkinOfUptoSaid : Prop := fnExactMotzkinOfUptoRow.holds Try.pinned (OpenSpec.upto fnExactMotzkinOfSpec)

/-- 'laws.FnExactDyckOfMotzkin', WHERE WHAT IT READS IS OF BULK AT MOST 1048576: true; the input reads as it did. -/
def fnExactDyckOfMotzkinUptoRow : OpenClaim := { program := "ytcaeedmjmpbgeaa", sum := "049557c6fd893f31ea10188ce067c270f5af0c7bef791e060afe9392da858a04", func := "loop.example/g03401/laws.FnExactDyckOfMotzkin", spec := "fnExactDyckOfMotzkin", inPlace := ["sync/atomic.LoadUint32", "(*internal/sync.Mutex).Lock", "internal/race.Disable", "sync/atomic.CompareAndSwapInt32", "internal/race.Enable", "internal/race.Acquire", "(*internal/sync.Mutex).lockSlow", "internal/sync.runtime_canSpin", "internal/sync.runtime_doSpin", "internal/sync.throw", "internal/sync.runtime_nanotime", "internal/sync.runtime_SemacquireMutex", "sync/atomic.AddInt32", "(*internal/sync.Mutex).Unlock", "internal/race.ReleaseMerge", "(*internal/sync.Mutex).unlockSlow", "internal/sync.fatal", "internal/sync.runtime_Semrelease", "sync/atomic.StoreUint32"], unfollowed := true, recurses := true, apart := false, narrowed := true }
def FnExactDyckOfMotzkinUptoSaid : Prop := fnExactDyckOfMotzkinUptoRow.holds Try.pinned (OpenSpec.upto fnExactDyckOfMotzkinSpec)

/-- 'laws.FnExactLevelSteps', WHERE WHAT IT READS IS OF BULK AT MOST 1048576: true; the input reads as it did. -/
def fnExactLevelStepsUptoRow : OpenClaim := { program := "ytcaeedmjmpbgeaa", sum := "049557c6fd893f31ea10188ce067c270f5af0c7bef791e060afe9392da858a04", func := "loop.example/g03401/laws.FnExactLevelSteps", spec := "fnExactLevelSteps", inPlace := ["internal/bytealg.CountString", "internal/bytealg.IndexByteString", "internal/bytealg.IndexString"], unfollowed := true, recurses := true, named := ["internal/bytealg.MaxLen"], apart := false, narrowed := true }
def FnExactLevelStepsUptoSaid : Prop := fnExactLevelStepsUptoRow.holds Try.pinned (OpenSpec.upto fnExactLevelStepsSpec)

end Rows
end Go.Proofs.Ytcaeedmjmpbgeaa
