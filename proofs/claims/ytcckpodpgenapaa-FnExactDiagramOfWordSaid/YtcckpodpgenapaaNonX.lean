/- The program's IsNoncrossingMatching. -/
import Derived.Test.YtcckpodpgenapaaFact9R
namespace Go.Proofs.Ytcckpodpgenapaa
open Go.ChangeShapes Go.WideShapes Go.ChangeAt Go.RowKit
set_option linter.unusedVariables false

theorem noncrossingI (A : Option Addr) (xs : List Int) (cap lo hi : Nat) (w : World) (hv : OwnI w lo hi (.slice A xs.length cap) xs) (hhi : hi ≤ w.heap.size) (hl : xs.length ≤ 1099511627776) :
    Calls Try.prog 44 #[.slice A xs.length cap] w fun e w' => e = .returned (.bool (crossP xs == 0)) ∧ Below w.heap.size w w' := by
  have H := Lib.hid (crossingsOfI A xs cap lo hi w hv hhi hl)
  rw [crA_eq] at H
  obtain ⟨z, hz⟩ : ∃ z, z = crossP xs := ⟨_, rfl⟩
  rw [← hz] at H ⊢
  clear hz hv
  go_enter Try.func44, Try.ntmps44
  go_wp2_with fail
  (with_reducible refine H.out.mono ?_)
  rintro e w' ⟨rfl, hb⟩
  go_wp2
  go_ret
  exact ⟨rfl, hb⟩

end Go.Proofs.Ytcckpodpgenapaa
