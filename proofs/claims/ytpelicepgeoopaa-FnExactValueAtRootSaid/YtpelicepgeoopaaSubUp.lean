/- Parts of a row of ints up to one of its places. -/
import Derived.Test.YtpelicepgeoopaaSpec6F
namespace Go.Proofs.Ytpelicepgeoopaa
open Go.ChangeShapes Go.WideShapes Go.ChangeAt Go.RowKit
set_option linter.unusedVariables false

/-- A part of a row of ints, up to one of its places. -/
theorem run_upto (w : World) (a : Option Addr) (len cap n : Nat) (hn : n ≤ cap) : (Instr.slice 22 (.slice a len cap) none (some (.int .i64 (n : Int))) none).run Try.prog w = .ok (.slice a n cap) w := by
  obtain ⟨i0, hi, hz0, hz1, hz2⟩ := info_parts info3
  have he : Try.prog.elem 22 = 3 := by kernel_rfl
  have hcc : Try.prog.cellsOf 3 = 1 := by kernel_rfl
  have hu : Try.prog.underlying 22 = some (.slice (Try.prog.elem 22)) := by rw [he]; exact Try.underlying22
  rw [run_slice_h w _ _ len cap hu .i64 (n : Int) (by omega) (by omega), he, run_sizeOf w hi, hcc]
  cases a with
  | none => simp [sliced, Result.andThen]
  | some p => simp [sliced, Result.andThen, Addr.add]
theorem SubI.upto {w : World} {A : Option Addr} {cap : Nat} {xs : List Int} (h : SubI w A cap xs) (n : Nat) (hn : n ≤ xs.length) : SubI w A cap (xs.take n) := by
  refine ⟨by rw [List.length_take]; have := h.1; omega, fun j hj => ?_⟩
  rw [List.length_take] at hj
  obtain ⟨g, o, e, hc⟩ := h.2 j (by omega)
  exact ⟨g, o, e, by rw [hc]; simp [List.getD, show j < n by omega]⟩

end Go.Proofs.Ytpelicepgeoopaa
