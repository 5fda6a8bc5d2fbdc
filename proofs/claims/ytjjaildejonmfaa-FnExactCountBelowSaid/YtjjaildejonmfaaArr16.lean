/- Two arrays of bytes compared. -/
import Derived.Test.YtjjaildejonmfaaRows
import Derived.WalkKit
import Derived.ProofKit
import Derived.Below
import Derived.Laws.StructEq
namespace Go.Proofs.Ytjjaildejonmfaa
open Go.ChangeShapes Go.WideShapes Go.ChangeAt Go.RowKit
theorem cell16 (cs : Array Value) (v : Value) (q : Nat) (hv : cs[q]? = some v) (w : World) : (part 5 cs q).run Try.prog w = .ok v w := by
  simp [part, Try.isAgg5, hv, Sem.run_bind, go_sem]
theorem eqInt (d : Nat) (a b : Int) (w : World) : (Op.equalIn (d + 1) 5 (.int .u8 a) (.int .u8 b)).run Try.prog w = .ok (a == b) w := run_equalIn_int w d 5 .u8 .u8 a b Try.underlying5
theorem eqL (d : Nat) (xs ys : Array Value) (w : World) (f g : Nat → Int) (L : List Nat) (hx : ∀ q ∈ L, xs[q]? = some (.int .u8 (f q))) (hy : ∀ q ∈ L, ys[q]? = some (.int .u8 (g q))) :
    (forIn (m := Sem) L ((none : Option Bool), ()) fun i __s => do
            let __do_lift ← part 5 xs i
            let __do_lift_1 ← part 5 ys i
            let __do_lift ← Op.equalIn (d + 1) 5 __do_lift __do_lift_1
            if __do_lift = false then pure (ForInStep.done (some false, ())) else pure (ForInStep.yield (none, ()))).run Try.prog w =
      .ok (if (L.all fun q => f q == g q) = true then (none, ()) else (some false, ())) w := by
  induction L with
  | nil => simp
  | cons q L ih =>
    have h1 := cell16 xs _ q (hx q (by simp)) w
    have h2 := cell16 ys _ q (hy q (by simp)) w
    have ih' := ih (fun p hp => hx p (by simp [hp])) (fun p hp => hy p (by simp [hp]))
    rw [List.forIn_cons]
    by_cases e : f q = g q
    · simp only [Sem.run_bind, h1, h2, Result.andThen_ok, eqInt, e, List.all_cons, beq_self_eq_true, Bool.true_and]
      simp only [Bool.true_eq_false, if_false, Sem.run_pure, Result.andThen_ok]
      exact ih'
    · have e' : (f q == g q) = false := by simp [e]
      simp only [Sem.run_bind, h1, h2, Result.andThen_ok, eqInt, e', List.all_cons, Bool.false_and]
      simp
theorem eq16 (d : Nat) (xs ys : Array Value) (w : World) (f g : Nat → Int) (hx : ∀ q, q < 16 → xs[q]? = some (.int .u8 (f q))) (hy : ∀ q, q < 16 → ys[q]? = some (.int .u8 (g q))) :
    (Op.equalIn (d + 2) 99 (.agg xs) (.agg ys)).run Try.prog w = .ok ((List.range' 0 16).all fun q => f q == g q) w := by
  have hz := Try.sizeOf5
  have hL := eqL d xs ys w f g (List.range' 0 16) (fun q hq => hx q (by simp [List.mem_range'] at hq; omega)) (fun q hq => hy q (by simp [List.mem_range'] at hq; omega))
  rw [Op.equalIn]
  simp only [Sem.run_bind, run_underlying Try.underlying99, Result.andThen_ok, hz]
  simp only [Std.Legacy.Range.forIn_eq_forIn_range', Std.Legacy.Range.size]
  simp only [Nat.mul_one, Bool.not_eq_true', Nat.sub_zero, Nat.reduceAdd, Nat.reduceSub, Nat.div_one]
  rw [hL]
  simp only [Result.andThen_ok]
  cases (List.range' 0 16).all fun q => f q == g q <;> rfl
theorem eqlArr (xs ys : Array Value) (w : World) (f g : Nat → Int) (hx : ∀ q, q < 16 → xs[q]? = some (.int .u8 (f q))) (hy : ∀ q, q < 16 → ys[q]? = some (.int .u8 (g q))) :
    (binOp .eql 99 (.agg xs) (.agg ys)).run Try.prog w = .ok (.bool ((List.range' 0 16).all fun q => f q == g q)) w := by
  rw [run_eql_struct, show (10000 : Nat) = 9998 + 2 from rfl, eq16 9998 xs ys w f g hx hy]
  rfl
end Go.Proofs.Ytjjaildejonmfaa
