/- The contract of the program's partnersOf at the empty word. -/
import Derived.Test.YtknojbcpjjhegaaPlainKb
import Derived.BigQuiet
namespace Go.Proofs.Ytknojbcpjjhegaa
open Go.ChangeShapes Go.WideShapes Go.ChangeAt Go.RowKit
set_option linter.unusedVariables false

set_option maxRecDepth 100000 in
set_option maxHeartbeats 1600000 in
theorem partnersOf0 (s : ByteArray) (w : World) (h0 : s.size = 0) : Calls Try.prog 121 #[.string s] w (AnsI [] w) := by
  obtain ⟨i0, hi0, hz0, hz1, hz2⟩ := info_parts info3
  go_enter Try.func121, Try.ntmps121
  have hsi : (s.size : Int) = 0 := by omega
  go_wp2_with (at_make; go_must (refine wpList_make_full _ rfl _ _ 24 rfl w.heap.size 3 i0 (.int .i64 0) 1 Try.underlying24 hi0 hz0 hz1 .i64 .i64 (0 : Int) (0 : Int) 0 rfl rfl rfl rfl (by rw [hz2]; omega) (by unfold maxLen; omega) (Nat.le_refl _) ?_); intro w2 hown1 hgrow1)
  have HB2 := Lib.hid ((Below.refl w.heap.size w).grown hgrow1 (Nat.le_refl _) (fun k hk => by cases hk))
  have z2 := (hown1.lt w.heap.size rfl).2
  clear hown1 hgrow1
  go_quiet (fail)
  have HB3 := Lib.hid (below_drewN HB2.out nq)
  have z3 : w.heap.size < (w2.drewN nq).heap.size := z2
  clear HB2 z2
  generalize w2.drewN nq = W2 at *
  have HIT := Lib.hid (World.iter_heap W2 s 0)
  have hnx := fun ty => Lib.run_next_end_at (P := Try.prog) (W2.iter s 0) W2.heap.size s 0 ty HIT.out (by omega)
  go_wp2
  refine wp_loop_rounds 1 ?_
  rw [rounds_succ]
  go_wp2
  go_ret
  exact ⟨_, rfl, ⟨_, _, rfl, .inl rfl⟩, HB3.out.alloc (by omega) _⟩

end Go.Proofs.Ytknojbcpjjhegaa
