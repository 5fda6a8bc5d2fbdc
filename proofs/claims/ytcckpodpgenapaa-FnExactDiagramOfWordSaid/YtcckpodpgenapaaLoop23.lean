/- Seen points: what a row of truth values says of the measure. -/
import Derived.Test.YtcckpodpgenapaaFact23
import Derived.Test.YtcckpodpgenapaaTkB
namespace Go.Proofs.Ytcckpodpgenapaa
open Go.ChangeShapes Go.WideShapes Go.ChangeAt Go.RowKit
set_option linter.unusedVariables false

open Classical in
/-- How many of the first n cells of block g are false. -/
noncomputable def unsM (w : World) (g : Nat) : Nat → Nat
  | 0 => 0
  | n + 1 => unsM w g n + if w.cell? ⟨g, n, none⟩ = some (.bool false) then 1 else 0
theorem unsM_eq {w : World} {g m : Nat} {f : Nat → Bool} (h : TkB w g m f) : ∀ n, n ≤ m → unsM w g n = uns f n := by
  intro n
  induction n with
  | zero => intro _; rfl
  | succ n ih =>
    intro hn
    rw [unsM, uns, ih (by omega), (h.cell (q := n) (by omega)).1]
    cases hf : f n <;> simp
theorem TkB.upb {w : World} {g m k : Nat} {f : Nat → Bool} (h : TkB w g m f) (hk : k < m) : TkB (w.setCell ⟨g, k, none⟩ (.bool true)) g m (upb f k) :=
  h.set hk (upb_at f k) (fun q _ hne => upb_ne f hne)
theorem frozen_setB {w : World} {g m k : Nat} {f : Nat → Bool} (h : TkB w g m f) (hk : k < m) : (w.setCell ⟨g, k, none⟩ (.bool true)).heap.size = w.heap.size := by simp [World.setCell]

end Go.Proofs.Ytcckpodpgenapaa
