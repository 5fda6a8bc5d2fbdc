/- The contracts of the model's l16Node and l16Replace, NodeAt, RotateRight, RotateLeft. -/
import Derived.Test.YtbbbnnkkjgikbaaFact16
import Derived.BigQuiet
namespace Go.Proofs.Ytbbbnnkkjgikbaa
open Go.ChangeShapes Go.WideShapes Go.ChangeAt Go.RowKit
open Go.PlainAid (bt bt_nonneg bt_le get_bt bt_end)
set_option linter.unusedVariables false

theorem sz_sh (t : Tr) : (baL (sh t)).size = 3 * nds t + 1 := by rw [baL_size, sh_len]
/-- A node's text: its parts by places. -/
theorem node_at (a b : Tr) : ∃ x m : Nat, x = 3 * nds a + 2 ∧ m = 3 * nds a + 3 * nds b + 3 ∧ (baL (sh (.node a b))).size = m + 1 ∧ endP (baL (sh (.node a b))) 1 = (x : Int) ∧ (baL (sh (.node a b))).extract 1 x = baL (sh a) ∧ (baL (sh (.node a b))).extract x m = baL (sh b) := by
  obtain ⟨e1, e2, e3⟩ := node_parts a b
  have hs := sz_sh (.node a b)
  simp only [nds] at hs
  have hl := sh_len a
  refine ⟨1 + (sh a).length, 3 * nds a + 3 * nds b + 3, by omega, rfl, by omega, e1, e2, ?_⟩
  rw [← e3]; congr 1; omega

set_option maxRecDepth 100000 in
set_option maxHeartbeats 300000 in
theorem l16NodeF : ∀ (t : Tr) (v : Int), nds t ≤ 8 → 0 ≤ v → v < nds t → ∀ w : World, Calls Try.prog 60 #[.string (baL (sh t)), .int .i64 v] w fun e w' => e = .returned (.string (baL (sh (nat' t v)))) ∧ w = w' := by
  intro t
  induction t with
  | leaf => intro v _ h0 h; simp only [nds] at h; omega
  | node a b ia ib =>
    intro v hn h0 h w
    simp only [nds] at hn h
    obtain ⟨x, m, hx, hm, hs, e1, e2, e3⟩ := node_at a b
    have za := sz_sh a
    have HE := Lib.hid (l6End1 (baL (sh (.node a b))) w (by omega))
    rw [e1] at HE
    have HN := Lib.hid (show nat' (.node a b) v = if v < nds a then nat' a v else if (nds a : Int) < v then nat' b (v - nds a - 1) else .node a b from rfl)
    have HA := Lib.hid (fun h1 h2 => ia v (by omega) h1 h2 w)
    have HB := Lib.hid (fun h1 h2 => ib (v - nds a - 1) (by omega) h1 h2 w)
    have he2 := e2
    have he3 := e3
    clear ia ib e1 e2 e3
    generalize hss : baL (sh (.node a b)) = s at *
    have HSS := Lib.hid hss
    clear hss
    obtain ⟨k, hk⟩ : ∃ k : Nat, k = 3 * nds a := ⟨_, rfl⟩
    have q1 : ((baL (sh a)).size : Int) - 1 = (k : Int) := by omega
    have hsa : ∀ W : World, (Instr.slice 9 (.string s) (some (.int .i64 1)) (some (.int .i64 (x : Int))) none).run Try.prog W = .ok (.string (baL (sh a))) W := fun W => by
      rw [run_slice_string W 9 s .i64 .i64 1 (x : Int) Try.underlying9 (by omega) (by omega) (by omega)]; simp [he2]
    have hsb : ∀ W : World, (Instr.slice 9 (.string s) (some (.int .i64 (x : Int))) (some (.int .i64 (m : Int))) none).run Try.prog W = .ok (.string (baL (sh b))) W := fun W => by
      rw [run_slice_string W 9 s .i64 .i64 (x : Int) (m : Int) Try.underlying9 (by omega) (by omega) (by omega)]; simp [he3]
    have q2 : (k : Int).tdiv 3 = (nds a : Int) := by rw [Int.tdiv_eq_ediv_of_nonneg (by omega)]; omega
    have hk24 : k ≤ 24 := by omega
    have q3 : (k : Int) / 3 = (nds a : Int) := by omega
    have h1x : (1 : Int) ≤ (x : Int) := by omega
    have hxs : (x : Int) ≤ (s.size : Int) := by omega
    have hmi : (s.size : Int) - 1 = (m : Int) := by omega
    have hmb : (m : Int) ≤ 27 := by omega
    have hxm : (x : Int) ≤ (m : Int) := by omega
    have hms : (m : Int) ≤ (s.size : Int) := by omega
    have hk8 : nds a ≤ 8 := by omega
    have HSZ := Lib.hid hs
    have HZA := Lib.hid za
    clear hx hm hs za hk he2 he3
    generalize baL (sh a) = A at *
    generalize baL (sh b) = B at *
    by_cases p : v < nds a
    · have HN2 := Lib.hid (HN.out.trans (if_pos p))
      have HA2 := Lib.hid (HA.out h0 p)
      generalize nds a = na at *
      go_enter Try.func60, Try.ntmps60
      go_wp2_with fail
      (with_reducible refine HE.out.mono ?_)
      rintro e w' ⟨rfl, rfl⟩
      go_wp2_with fail
      (with_reducible refine HA2.out.mono ?_)
      rintro e w' ⟨rfl, rfl⟩
      go_wp2
      go_ret
      exact ⟨ret_str (by rw [HN2.out]), rfl⟩
    · have HN2 := Lib.hid (HN.out.trans (if_neg p))
      by_cases q : (nds a : Int) < v
      · have HN3 := Lib.hid (HN2.out.trans (if_pos q))
        have HB2 := Lib.hid (HB.out (by omega) (by omega))
        have w1 : IntKind.i64.wrap (v - (nds a : Int)) = v - (nds a : Int) := IntWalk.i64_in _ (by omega)
        have w2 : IntKind.i64.wrap (v - (nds a : Int) - 1) = v - (nds a : Int) - 1 := IntWalk.i64_in _ (by omega)
        generalize nds a = na at *
        go_enter Try.func60, Try.ntmps60
        go_wp2_with fail
        (with_reducible refine HE.out.mono ?_)
        rintro e w' ⟨rfl, rfl⟩
        go_wp2_with fail
        (with_reducible refine HB2.out.mono ?_)
        rintro e w' ⟨rfl, rfl⟩
        go_wp2
        go_ret
        exact ⟨ret_str (by rw [HN3.out]), rfl⟩
      · have HN3 := Lib.hid (HN2.out.trans (if_neg q))
        generalize nds a = na at *
        go_enter Try.func60, Try.ntmps60
        go_wp2_with fail
        (with_reducible refine HE.out.mono ?_)
        rintro e w' ⟨rfl, rfl⟩
        go_wp2
        go_ret
        exact ⟨ret_str (by rw [HN3.out, HSS.out]), rfl⟩

end Go.Proofs.Ytbbbnnkkjgikbaa
