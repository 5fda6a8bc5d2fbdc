/- Go's '==' at chords and at the array of a polygon's chords. -/
import Derived.Test.YtkpnfonedfomaaaPg7
import Derived.Laws.StructEq
namespace Go.Proofs.Ytkpnfonedfomaaa
open Go.ChangeShapes Go.WideShapes Go.ChangeAt Go.RowKit
set_option linter.unusedVariables false
set_option linter.unusedSimpArgs false

theorem equalInC (d : Nat) (a b c e : Int) (w : World) : (Op.equalIn (d + 2) 42 (.agg #[.int .i64 a, .int .i64 b]) (.agg #[.int .i64 c, .int .i64 e])).run Try.prog w = .ok (a == c && b == e) w := by
  have u3 := Try.underlying3
  have a3 := Try.isAgg3
  have z3 := Try.sizeOf3
  have hS : Try.prog.underlying 42 = some (.struct (Try.prog.fieldsOf 42)) := by kernel_rfl
  have hp : Try.prog.stoodInHeld 42 = false := by kernel_rfl
  rw [run_equalIn_agg w (d + 1) 42 _ _ hS hp]
  simp only [Program.fieldsOf, Try.underlying42]
  go_simp
  by_cases h1 : a = c <;> by_cases h2 : b = e <;> simp [h1, h2]
theorem eqlC (a b c e : Int) (w : World) : (binOp .eql 42 (.agg #[.int .i64 a, .int .i64 b]) (.agg #[.int .i64 c, .int .i64 e])).run Try.prog w = .ok (.bool (a == c && b == e)) w := by
  rw [run_eql_struct, show (10000 : Nat) = 9998 + 2 from rfl, equalInC]; rfl
abbrev arA (f : Nat → Int) : Array Value := #[.int .i64 (f 0), .int .i64 (f 1), .int .i64 (f 2), .int .i64 (f 3), .int .i64 (f 4), .int .i64 (f 5), .int .i64 (f 6), .int .i64 (f 7), .int .i64 (f 8), .int .i64 (f 9), .int .i64 (f 10), .int .i64 (f 11), .int .i64 (f 12), .int .i64 (f 13)]
def eq7 (f g : Nat → Int) : Bool := (f 0 == g 0 && f 1 == g 1) && ((f 2 == g 2 && f 3 == g 3) && ((f 4 == g 4 && f 5 == g 5) && ((f 6 == g 6 && f 7 == g 7) && ((f 8 == g 8 && f 9 == g 9) && ((f 10 == g 10 && f 11 == g 11) && (f 12 == g 12 && f 13 == g 13))))))
theorem partC (f : Nat → Int) (w : World) :
    (part 42 (arA f) 0).run Try.prog w = .ok (.agg #[.int .i64 (f 0), .int .i64 (f 1)]) w ∧ (part 42 (arA f) 2).run Try.prog w = .ok (.agg #[.int .i64 (f 2), .int .i64 (f 3)]) w ∧ (part 42 (arA f) 4).run Try.prog w = .ok (.agg #[.int .i64 (f 4), .int .i64 (f 5)]) w ∧ (part 42 (arA f) 6).run Try.prog w = .ok (.agg #[.int .i64 (f 6), .int .i64 (f 7)]) w ∧ (part 42 (arA f) 8).run Try.prog w = .ok (.agg #[.int .i64 (f 8), .int .i64 (f 9)]) w ∧ (part 42 (arA f) 10).run Try.prog w = .ok (.agg #[.int .i64 (f 10), .int .i64 (f 11)]) w ∧ (part 42 (arA f) 12).run Try.prog w = .ok (.agg #[.int .i64 (f 12), .int .i64 (f 13)]) w := by
  refine ⟨?_, ?_, ?_, ?_, ?_, ?_, ?_⟩ <;> kernel_rfl
theorem eqLC (d : Nat) (xs ys : Array Value) (w : World) (f g : Nat → Int) (L : List Nat) (hx : ∀ q ∈ L, (part 42 xs (q * 2)).run Try.prog w = .ok (.agg #[.int .i64 (f (2 * q)), .int .i64 (f (2 * q + 1))]) w) (hy : ∀ q ∈ L, (part 42 ys (q * 2)).run Try.prog w = .ok (.agg #[.int .i64 (g (2 * q)), .int .i64 (g (2 * q + 1))]) w) :
    (forIn (m := Sem) L ((none : Option Bool), ()) fun i __s => do
            let __do_lift ← part 42 xs (i * 2)
            let __do_lift_1 ← part 42 ys (i * 2)
            let __do_lift ← Op.equalIn (d + 2) 42 __do_lift __do_lift_1
            if __do_lift = false then pure (ForInStep.done (some false, ())) else pure (ForInStep.yield (none, ()))).run Try.prog w =
      .ok (if (L.all fun q => f (2 * q) == g (2 * q) && f (2 * q + 1) == g (2 * q + 1)) = true then (none, ()) else (some false, ())) w := by
  induction L with
  | nil => simp
  | cons q L ih =>
    have h1 := hx q (by simp)
    have h2 := hy q (by simp)
    have ih' := ih (fun p hp => hx p (by simp [hp])) (fun p hp => hy p (by simp [hp]))
    rw [List.forIn_cons]
    rcases e : (f (2 * q) == g (2 * q) && f (2 * q + 1) == g (2 * q + 1)) with _ | _
    · simp only [Sem.run_bind, h1, h2, Result.andThen_ok, equalInC, e, List.all_cons, Bool.false_and]
      simp
    · simp only [Sem.run_bind, h1, h2, Result.andThen_ok, equalInC, e, List.all_cons, Bool.true_and]
      simp only [Bool.true_eq_false, if_false, Sem.run_pure, Result.andThen_ok]
      exact ih'
theorem equalInA (f g : Nat → Int) (w : World) : (Op.equalIn 10000 43 (.agg (arA f)) (.agg (arA g))).run Try.prog w = .ok (eq7 f g) w := by
  have hp : ∀ f : Nat → Int, ∀ q ∈ List.range' 0 7, (part 42 (arA f) (q * 2)).run Try.prog w = .ok (.agg #[.int .i64 (f (2 * q)), .int .i64 (f (2 * q + 1))]) w := fun f q hq => by
    obtain ⟨f0, f1, f2, f3, f4, f5, f6⟩ := partC f w
    have : q < 7 := by simp [List.mem_range'] at hq; omega
    match q, this with
    | 0, _ => exact f0
    | 1, _ => exact f1
    | 2, _ => exact f2
    | 3, _ => exact f3
    | 4, _ => exact f4
    | 5, _ => exact f5
    | 6, _ => exact f6
  have hL := eqLC 9997 (arA f) (arA g) w f g (List.range' 0 7) (hp f) (hp g)
  have hz := Try.sizeOf42
  rw [show (10000 : Nat) = 9997 + 2 + 1 from rfl, Op.equalIn]
  simp only [Sem.run_bind, run_underlying Try.underlying43, Result.andThen_ok, hz]
  simp only [Std.Legacy.Range.forIn_eq_forIn_range', Std.Legacy.Range.size]
  simp only [Bool.not_eq_true', Nat.sub_zero, Nat.reduceAdd, Nat.reduceSub, Nat.div_one] at hL ⊢
  rw [hL]
  simp only [Result.andThen_ok]
  have hE : ((List.range' 0 7).all fun q => f (2 * q) == g (2 * q) && f (2 * q + 1) == g (2 * q + 1)) = eq7 f g := by
    simp only [List.range', List.all_cons, List.all_nil, Bool.and_true]; rfl
  rw [hE]
  cases eq7 f g <;> rfl
theorem neqA (f g : Nat → Int) (w : World) : (binOp .neq 43 (.agg (arA f)) (.agg (arA g))).run Try.prog w = .ok (.bool (!(eq7 f g))) w := by
  rw [run_neq_struct, equalInA]; rfl
theorem eq7_iff (f g : Nat → Int) : eq7 f g = true ↔ ∀ j, j < 14 → f j = g j := by
  unfold eq7
  simp only [Bool.and_eq_true, beq_iff_eq]
  constructor
  · rintro ⟨⟨h0, h1⟩, ⟨h2, h3⟩, ⟨h4, h5⟩, ⟨h6, h7⟩, ⟨h8, h9⟩, ⟨h10, h11⟩, h12, h13⟩ j hj
    match j, hj with
    | 0, _ => exact h0
    | 1, _ => exact h1
    | 2, _ => exact h2
    | 3, _ => exact h3
    | 4, _ => exact h4
    | 5, _ => exact h5
    | 6, _ => exact h6
    | 7, _ => exact h7
    | 8, _ => exact h8
    | 9, _ => exact h9
    | 10, _ => exact h10
    | 11, _ => exact h11
    | 12, _ => exact h12
    | 13, _ => exact h13
  · intro h
    exact ⟨⟨h 0 (by omega), h 1 (by omega)⟩, ⟨h 2 (by omega), h 3 (by omega)⟩, ⟨h 4 (by omega), h 5 (by omega)⟩, ⟨h 6 (by omega), h 7 (by omega)⟩, ⟨h 8 (by omega), h 9 (by omega)⟩, ⟨h 10 (by omega), h 11 (by omega)⟩, h 12 (by omega), h 13 (by omega)⟩
/-- Equal cells, equal lists of as many diagonals. -/
theorem eq7_lists {cs ds : List Ch} (hl : cs.length = ds.length) (h7 : cs.length ≤ 7) : eq7 (flF cs) (flF ds) = decide (cs = ds) := by
  by_cases h : cs = ds
  · subst h; rw [decide_eq_true rfl]; exact (eq7_iff _ _).2 fun j _ => rfl
  · rw [decide_eq_false h, ← Bool.not_eq_true, eq7_iff]
    exact fun h2 => h (flF_inj hl fun j hj => h2 j (by omega))

end Go.Proofs.Ytkpnfonedfomaaa
