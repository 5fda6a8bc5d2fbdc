/- A scope that is jumped back in, with a number that every pass lowers and that no slot holds. -/
import Derived.Test.YtamepojgpeblpaaTbP31
import Derived.Test.YtamepojgpeblpaaAvT31
import Derived.Test.YtamepojgpeblpaaImpl31D
import Derived.WalkMore
import Derived.ScopeJumps
namespace Go.Proofs.Ytamepojgpeblpaa
open Go.ChangeShapes Go.WideShapes Go.ChangeAt Go.RowKit
set_option linter.unusedVariables false

theorem least_one (p : Nat → Prop) (h : ∃ n, p n) : ∃ n, p n ∧ ∀ m, p m → n ≤ m := by
  obtain ⟨n, hn⟩ := h
  induction n using Nat.strongRecOn with
  | _ n ih =>
    by_cases e : ∃ m, m < n ∧ p m
    · obtain ⟨m, hm, hp⟩ := e
      exact ih m hm hp
    · exact ⟨n, hn, fun m hm => by
        by_cases h : n ≤ m
        · exact h
        · exact absurd ⟨m, by omega, hm⟩ e⟩
open Classical in
noncomputable def muG (J : Nat → Act → World → Prop) (a : Act) (w : World) : Nat := if h : ∃ n, J n a w then Classical.choose (least_one _ h) else 0
theorem muG_at {J : Nat → Act → World → Prop} {a : Act} {w : World} (h : ∃ n, J n a w) : J (muG J a w) a w ∧ ∀ m, J m a w → muG J a w ≤ m := by
  unfold muG
  rw [dif_pos h]
  exact Classical.choose_spec (least_one _ h)
theorem scope_ghost {P : Program} {a : Act} {w : World} {Q : Exit → Act → World → Prop} {c rest : Code} (l : Nat) (J : Nat → Act → World → Prop) (hf : findLabel c l = some rest)
    (first : c.wp P (Exit.jump l (fun a w => ∃ n, J n a w) Q) a w)
    (pass : ∀ n a w, J n a w → rest.wp P (Exit.jump l (fun a' w' => ∃ m, m < n ∧ J m a' w') Q) a w) : (Code.scope c).wp P Q a w := by
  refine wp_scope_jumps l (fun a w => ∃ n, J n a w) (muG J) hf first fun a w h => ?_
  refine Code.wp_mono ?_ (pass (muG J a w) a w (muG_at h).1)
  intro e a' w' q
  cases e with
  | goto l' =>
    obtain ⟨e1, m, hm, hJ⟩ := q
    exact ⟨e1, ⟨m, hJ⟩, Nat.lt_of_le_of_lt ((muG_at ⟨m, hJ⟩).2 m hJ) hm⟩
  | normal => exact q
  | exit id => exact q
  | ret => exact q
  | panic ch => exact q
  | outgrown => exact q

end Go.Proofs.Ytamepojgpeblpaa
