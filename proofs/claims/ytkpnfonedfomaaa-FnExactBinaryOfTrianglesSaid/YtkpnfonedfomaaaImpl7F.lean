/- The program's polygonOf, a part (written by tools/mk7e.py). -/
import Derived.Test.YtkpnfonedfomaaaImpl7F1
import Derived.Test.YtkpnfonedfomaaaImpl7F2
import Derived.Test.YtkpnfonedfomaaaImpl7F3
import Derived.Test.YtkpnfonedfomaaaImpl7F4
namespace Go.Proofs.Ytkpnfonedfomaaa
open Go.ChangeShapes Go.WideShapes Go.ChangeAt Go.RowKit
set_option linter.unusedVariables false
set_option linter.unusedSimpArgs false

set_option maxRecDepth 100000 in
set_option maxHeartbeats 12800000 in
theorem pgOut (n : Int) (v : Value) (ls : List (List Int)) (lo hi : Nat) (w : World) (hv : OwnT w lo hi v ls) (hh : hi ≤ w.heap.size) (hl : ls.length ≤ 1048576) (hn : ¬ inN n ls) :
    Calls Try.prog 34 #[.int .i64 n, v] w (AnsPg n ls w) := by
  obtain ⟨A1, c1, rfl, k1⟩ := id hv
  clear k1
  unfold AnsPg
  have HR0 := Lib.hid (Pg.start w 0 0 (fun _ => 0) 45)
  have HB0 := Lib.hid ((Below.refl w.heap.size w).alloc (Nat.le_refl _) (.cells (pgA 0 0 fun _ => 0) 45))
  have HT0 := Lib.hid (tri_no7 hn)
  have HT := Lib.hid (show PgIs n ls (pgV 0 0 fun _ => 0) from .no HT0.out)
  have HG : (decide (n < 2) = true) ∨ (decide (n < 2) = false ∧ decide (10 < n) = true) ∨ (decide (n < 2) = false ∧ decide (10 < n) = false ∧ 2 ≤ n ∧ n ≤ 10 ∧ ((ls.length : Int) != max (n - 3) 0) = true) := by
    by_cases h1 : n < 2
    · exact .inl (decide_eq_true h1)
    · by_cases h2 : 10 < n
      · exact .inr (.inl ⟨decide_eq_false h1, decide_eq_true h2⟩)
      · refine .inr (.inr ⟨decide_eq_false h1, decide_eq_false h2, by omega, by omega, ?_⟩)
        rw [bne_iff_ne, Int.max_comm]
        exact fun h => hn ⟨by omega, by omega, h⟩
  clear hn hv
  rcases HG with d1 | ⟨d1, d2⟩ | ⟨d1, d2, hn1, hn2, d3⟩
  · go_enter Try.func34, Try.ntmps34
    go_wp2
    refine bodyPost_ret (v := .tuple #[pgV 0 0 (fun _ => 0), .bool false]) ?_ rfl ⟨pgV 0 0 (fun _ => 0), by rw [HT0.out], HT.out, HB0.out⟩
    rw [results_cell_tmp rfl]
    go_simp
  · go_enter Try.func34, Try.ntmps34
    go_wp2
    refine bodyPost_ret (v := .tuple #[pgV 0 0 (fun _ => 0), .bool false]) ?_ rfl ⟨pgV 0 0 (fun _ => 0), by rw [HT0.out], HT.out, HB0.out⟩
    rw [results_cell_tmp rfl]
    go_simp
  · go_enter Try.func34, Try.ntmps34
    go_wp2
    refine bodyPost_ret (v := .tuple #[pgV 0 0 (fun _ => 0), .bool false]) ?_ rfl ⟨pgV 0 0 (fun _ => 0), by rw [HT0.out], HT.out, HB0.out⟩
    rw [results_cell_tmp rfl]
    go_simp

theorem polygonOfI (n : Int) (v : Value) (ls : List (List Int)) (lo hi : Nat) (w : World) (hv : OwnT w lo hi v ls) (hh : hi ≤ w.heap.size) (hl : ls.length ≤ 1048576) :
    Calls Try.prog 34 #[.int .i64 n, v] w (AnsPg n ls w) := by
  by_cases hn : inN n ls
  · by_cases hall : ∀ i, i < ls.length → okR n (ls.getD i [])
    · by_cases hs : srt (csT ls) = csT ls
      · rcases hcb : cutB n (csT ls) with _ | _
        · exact pgCut n v ls lo hi w hv hh hl hn hall hs hcb
        · exact pgYes n v ls lo hi w hv hh hl hn hall hs hcb
      · exact pgMix n v ls lo hi w hv hh hl hn hall hs
    · exact pgRow n v ls lo hi w hv hh hl hn hall
  · exact pgOut n v ls lo hi w hv hh hl hn

end Go.Proofs.Ytkpnfonedfomaaa
