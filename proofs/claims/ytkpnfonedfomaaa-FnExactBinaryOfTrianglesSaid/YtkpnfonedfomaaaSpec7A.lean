/- The model's l7Before, l7Crosses, IsTriangulation. -/
import Derived.Test.YtkpnfonedfomaaaFact7
import Derived.Test.YtkpnfonedfomaaaTblLZ
import Derived.Test.YtkpnfonedfomaaaSpec2A
import Derived.Lib.MinMax
import Derived.BigQuiet
namespace Go.Proofs.Ytkpnfonedfomaaa
open Go.ChangeShapes Go.WideShapes Go.ChangeAt Go.RowKit
set_option linter.unusedVariables false

theorem still_add7 {P : Program} {f : Nat} {args : Array Value} {w : World} {q n : Nat} {v : Value} (h : Calls P f args (w.drewN (q + n)) fun e w' => e = .returned v ∧ w.drewN (q + n) = w') : Calls P f args (w.drewN (q + n)) fun e w' => e = .returned v ∧ ∃ m, w' = w.drewN (q + m) :=
  h.mono fun e w' h => ⟨h.1, n, h.2.symm⟩
theorem l1In_no7 (x lo hi : Int) (w : World) (h : ¬ (lo ≤ x ∧ x ≤ hi)) : Calls Try.prog 30 #[.int .i64 x, .int .i64 lo, .int .i64 hi] w fun e w' => e = .returned (.bool false) ∧ w = w' := by
  by_cases h1 : x < lo
  · exact l1In_no1 x lo hi w h1
  · exact l1In_no2 x lo hi w (by omega) (by omega)
/-- rv is a row of two numbers. -/
def RwC (w : World) (rv : Value) (x : Ch) : Prop := ∃ g c, rv = .slice (some ⟨g, 0, none⟩) 2 c ∧ w.cell? ⟨g, 0, none⟩ = some (.int .i64 x.1) ∧ w.cell? ⟨g, 1, none⟩ = some (.int .i64 x.2)
theorem RwC.drewN {w : World} {rv : Value} {x : Ch} (h : RwC w rv x) (q : Nat) : RwC (w.drewN q) rv x := by
  obtain ⟨g, c, e, h0, h1⟩ := h
  exact ⟨g, c, e, h0, h1⟩
theorem rowC_at {w : World} {lo hi o c m : Nat} {ls : List (List Int)} (h : OwnT w lo hi (.slice (some ⟨o, 0, none⟩) m c) ls) {r : Nat} (hr : r < ls.length) (hn : (ls.getD r []).length = 2) :
    ∃ rv, w.cell? ⟨o, r, none⟩ = some rv ∧ RwC w rv (rwC (ls.getD r [])) := by
  obtain ⟨o', rv, e, -, -, hc, ho⟩ := h.cell hr
  obtain rfl : o = o' := by simpa using e
  obtain ⟨A, c', e2, -⟩ := id ho
  obtain ⟨g, c'', e3, -, -, h3, -⟩ := ho.cell (j := 0) (by omega)
  obtain ⟨g2, c2, e4, -, -, h4, -⟩ := ho.cell (j := 1) (by omega)
  rw [e3] at e4
  simp only [Value.slice.injEq, Option.some.injEq, Addr.mk.injEq] at e4
  obtain ⟨⟨rfl, -, -⟩, -, -⟩ := e4
  exact ⟨rv, hc, g, c'', by rw [e3, hn], h3, h4⟩

set_option maxRecDepth 100000 in
set_option maxHeartbeats 1600000 in
theorem l7BeforeS (u v : Value) (x y : Ch) (w : World) (hu : RwC w u x) (hv : RwC w v y) : Calls Try.prog 31 #[u, v] w fun e w' => e = .returned (.bool (bef x y)) ∧ ∃ q, w' = w.drewN q := by
  obtain ⟨g, c, rfl, x0, x1⟩ := hu
  obtain ⟨h, d, rfl, y0, y1⟩ := hv
  obtain ⟨a, b⟩ := x
  obtain ⟨p, q⟩ := y
  simp only [] at x0 x1 y0 y1
  have HB := Lib.hid (bef_iff (a, b) (p, q))
  by_cases h1 : a < p
  · have d1 : decide (a < p) = true := decide_eq_true h1
    have HR := Lib.hid (show true = bef (a, b) (p, q) from (HB.out.2 (.inl h1)).symm)
    go_enter Try.func31, Try.ntmps31
    go_wp2
    go_quiet (fail)
    go_wp2
    go_ret
    exact ⟨ret_bool HR.out, _, by first | rfl | exact World.drewN_drewN _ _ _⟩
  · have d1 : decide (a < p) = false := decide_eq_false h1
    by_cases h2 : a = p
    · subst h2
      have d2 : (a == a) = true := by simp
      have HR := Lib.hid (show decide (b < q) = bef (a, b) (a, q) from by
        unfold bef; congr 1; apply propext; exact ⟨fun h => .inr ⟨rfl, h⟩, fun h => h.elim (fun h => absurd h h1) (·.2)⟩)
      go_enter Try.func31, Try.ntmps31
      go_wp2
      go_quiet (fail)
      go_wp2
      go_ret
      exact ⟨ret_bool HR.out, _, by first | rfl | exact World.drewN_drewN _ _ _⟩
    · have d2 : (a == p) = false := by simp [h2]
      have HR := Lib.hid (show false = bef (a, b) (p, q) from by
        rcases hb : bef (a, b) (p, q) with _ | _
        · rfl
        · have := HB.out.1 hb; omega)
      go_enter Try.func31, Try.ntmps31
      go_wp2
      go_quiet (fail)
      go_wp2
      go_ret
      exact ⟨ret_bool HR.out, _, by first | rfl | exact World.drewN_drewN _ _ _⟩

set_option maxRecDepth 100000 in
set_option maxHeartbeats 3200000 in
theorem l7CrossesS (u v : Value) (x y : Ch) (w : World) (hu : RwC w u x) (hv : RwC w v y) : Calls Try.prog 32 #[u, v] w fun e w' => e = .returned (.bool (crs x y)) ∧ ∃ q, w' = w.drewN q := by
  obtain ⟨g, c, rfl, x0, x1⟩ := hu
  obtain ⟨h, d, rfl, y0, y1⟩ := hv
  obtain ⟨a, b⟩ := x
  obtain ⟨p, q⟩ := y
  simp only [] at x0 x1 y0 y1
  by_cases h1 : a < p
  · have d1 : decide (a < p) = true := decide_eq_true h1
    have e1 : decide (p < a) = false := decide_eq_false (by omega)
    have e1' : ¬ p < a := by omega
    by_cases h2 : p < b
    · have d2 : decide (p < b) = true := decide_eq_true h2
      by_cases h3 : b < q
      · have d3 : decide (b < q) = true := decide_eq_true h3
        have HR := Lib.hid (show true = crs (a, b) (p, q) from (decide_eq_true (.inl ⟨h1, h2, h3⟩)).symm)
        go_enter Try.func32, Try.ntmps32
        go_wp2
        go_quiet (fail)
        go_wp2
        go_ret
        exact ⟨ret_bool HR.out, _, by first | rfl | exact World.drewN_drewN _ _ _⟩
      · have d3 : decide (b < q) = false := decide_eq_false h3
        have HR := Lib.hid (show false = crs (a, b) (p, q) from (decide_eq_false (by omega)).symm)
        go_enter Try.func32, Try.ntmps32
        go_wp2
        go_quiet (fail)
        go_wp2
        go_ret
        exact ⟨ret_bool HR.out, _, by first | rfl | exact World.drewN_drewN _ _ _⟩
    · have d2 : decide (p < b) = false := decide_eq_false h2
      have HR := Lib.hid (show false = crs (a, b) (p, q) from (decide_eq_false (by omega)).symm)
      go_enter Try.func32, Try.ntmps32
      go_wp2
      go_quiet (fail)
      go_wp2
      go_ret
      exact ⟨ret_bool HR.out, _, by first | rfl | exact World.drewN_drewN _ _ _⟩
  · have d1 : decide (a < p) = false := decide_eq_false h1
    by_cases h2 : p < a
    · have d2 : decide (p < a) = true := decide_eq_true h2
      by_cases h3 : a < q
      · have d3 : decide (a < q) = true := decide_eq_true h3
        have HR := Lib.hid (show decide (q < b) = crs (a, b) (p, q) from by
          unfold crs; congr 1; apply propext; exact ⟨fun h => .inr ⟨h2, h3, h⟩, fun h => h.elim (fun h => absurd h.1 h1) (·.2.2)⟩)
        go_enter Try.func32, Try.ntmps32
        go_wp2
        go_quiet (fail)
        go_wp2
        go_ret
        exact ⟨ret_bool HR.out, _, by first | rfl | exact World.drewN_drewN _ _ _⟩
      · have d3 : decide (a < q) = false := decide_eq_false h3
        have HR := Lib.hid (show false = crs (a, b) (p, q) from (decide_eq_false (by omega)).symm)
        go_enter Try.func32, Try.ntmps32
        go_wp2
        go_quiet (fail)
        go_wp2
        go_ret
        exact ⟨ret_bool HR.out, _, by first | rfl | exact World.drewN_drewN _ _ _⟩
    · have d2 : decide (p < a) = false := decide_eq_false h2
      have HR := Lib.hid (show false = crs (a, b) (p, q) from (decide_eq_false (by omega)).symm)
      go_enter Try.func32, Try.ntmps32
      go_wp2
      go_quiet (fail)
      go_wp2
      go_ret
      exact ⟨ret_bool HR.out, _, by first | rfl | exact World.drewN_drewN _ _ _⟩

end Go.Proofs.Ytkpnfonedfomaaa
