/- The model's l7Side. -/
import Derived.Test.YtkpnfonedfomaaaSpec7B
namespace Go.Proofs.Ytkpnfonedfomaaa
open Go.ChangeShapes Go.WideShapes Go.ChangeAt Go.RowKit
set_option linter.unusedVariables false

theorem jn_side {n : Int} {cs : List Ch} {x : Ch} (h : sideB n x = true) : jnB n cs x = true := by unfold jnB; rw [h]; rfl
theorem jn_hit {n : Int} {cs : List Ch} {x : Ch} {i : Nat} (hi : i < cs.length) (h : cs.getD i (0, 0) = x) : jnB n cs x = true := by
  unfold jnB
  rw [Bool.or_eq_true, List.any_eq_true]
  refine .inr ⟨cs.getD i (0, 0), ?_, decide_eq_true h⟩
  rw [getD_elem cs hi]; exact List.getElem_mem hi
theorem jn_no {n : Int} {cs : List Ch} {x : Ch} (hs : sideB n x = false) (h : ∀ i, i < cs.length → cs.getD i (0, 0) ≠ x) : jnB n cs x = false := by
  unfold jnB
  rw [hs, Bool.false_or, ← Bool.not_eq_true, List.any_eq_true]
  rintro ⟨y, hy, he⟩
  obtain ⟨i, hi, rfl⟩ := List.mem_iff_getElem.1 hy
  exact h i hi (by rw [getD_elem cs hi]; exact of_decide_eq_true he)

set_option maxRecDepth 100000 in
set_option maxHeartbeats 3200000 in
theorem l7SideS (n a b : Int) (v : Value) (ls : List (List Int)) (lo hi : Nat) (w : World) (hv : OwnT w lo hi v ls) (hl : ls.length ≤ 1048576) (hrow : ∀ i, i < ls.length → (ls.getD i []).length = 2) (hn : 0 ≤ n ∧ n ≤ 100) (ha : 0 ≤ a ∧ a ≤ 100) (hb : 0 ≤ b ∧ b ≤ 100) :
    Calls Try.prog 45 #[.int .i64 n, v, .int .i64 a, .int .i64 b] w fun e w' => e = .returned (.bool (jnB n (csT ls) (a, b))) ∧ w = w' := by
  obtain ⟨A1, c1, rfl, k1⟩ := id hv
  clear k1
  have HV := Lib.hid hv
  have HRW := Lib.hid hrow
  have hn1 := hn.1
  have hn2 := hn.2
  have ha1 := ha.1
  have ha2 := ha.2
  clear hv hrow hn ha
  by_cases h1 : b = a + 1
  · have d1 : (b == a + 1) = true := by simp [h1]
    have HR := Lib.hid (jn_side (cs := csT ls) (show sideB n (a, b) = true from decide_eq_true (.inl (by show b - a = 1; omega))))
    clear h1 hb
    go_enter Try.func45, Try.ntmps45
    go_wp2
    go_ret
    exact ⟨ret_bool HR.out.symm, rfl⟩
  · have d1 : (b == a + 1) = false := by simp [h1]
    by_cases h2 : a = 0 ∧ b = n - 1
    · have d2 : (a == 0) = true := by simp [h2.1]
      have d3 : (b == n - 1) = true := by simp [h2.2]
      have HR := Lib.hid (jn_side (cs := csT ls) (show sideB n (a, b) = true from decide_eq_true (.inr h2)))
      clear h1 h2 hb
      go_enter Try.func45, Try.ntmps45
      go_wp2
      go_ret
      exact ⟨ret_bool HR.out.symm, rfl⟩
    · have HS := Lib.hid (show sideB n (a, b) = false from decide_eq_false (by show ¬ (b - a = 1 ∨ (a = 0 ∧ b = n - 1)); omega))
      have HJN := Lib.hid (show (∀ i, i < ls.length → (csT ls).getD i (0, 0) ≠ (a, b)) → jnB n (csT ls) (a, b) = false from fun h => jn_no HS.out (by rw [csT_len]; exact h))
      have HJH := Lib.hid (fun i (hi : i < ls.length) (h : (csT ls).getD i (0, 0) = (a, b)) => jn_hit (n := n) (cs := csT ls) (x := (a, b)) (i := i) (by rw [csT_len]; exact hi) h)
      have HGT := Lib.hid (fun i (hi : i < ls.length) => csT_get ls hi)
      have HE : (a == 0) = false ∨ ((a == 0) = true ∧ (b == n - 1) = false) := by
        by_cases e : a = 0
        · subst e; exact .inr ⟨rfl, by simp; omega⟩
        · exact .inl (by simp [e])
      clear h1 h2 hb
      generalize jnB n (csT ls) (a, b) = J at *
      rcases HE with d2 | ⟨d2, d3⟩
      · go_enter Try.func45, Try.ntmps45
        go_wp2
        go_loopw [9] (fun x wr => ∃ i : Nat, i ≤ ls.length ∧ x = .int .i64 i ∧ wr = w ∧ ∀ q, q < i → (csT ls).getD q (0, 0) ≠ (a, b)) (fun x _ => ls.length - (intOf x).toNat)
        case atStart => exact ⟨0, Nat.zero_le _, rfl, rfl, fun q hq => absurd hq (Nat.not_lt_zero _)⟩
        case round =>
          obtain ⟨i, hi1, rfl, rfl, hall⟩ := hrel
          have HALL := Lib.hid hall
          clear hall
          by_cases hlt : i < ls.length
          · have hii : (i : Int) < (ls.length : Int) := by omega
            obtain ⟨o2, rv2, rfl, -, -, -, -⟩ := HV.out.cell hlt
            obtain ⟨rv, hc, hrw⟩ := rowC_at HV.out hlt (HRW.out i hlt)
            obtain ⟨g, cg, rfl, x0, x1⟩ := hrw
            have hx0 : wr.cell? ⟨g, 0, none⟩ = some (.int .i64 ((ls.getD i []).getD 0 0)) := x0
            have hx1 : wr.cell? ⟨g, 1, none⟩ = some (.int .i64 ((ls.getD i []).getD 1 0)) := x1
            have HGI := Lib.hid (show (csT ls).getD i (0, 0) = ((ls.getD i []).getD 0 0, (ls.getD i []).getD 1 0) from HGT.out i hlt)
            have HJI := Lib.hid (HJH.out i hlt)
            have HA2 := Lib.hid (show (csT ls).getD i (0, 0) ≠ (a, b) → ∀ q, q < i + 1 → (csT ls).getD q (0, 0) ≠ (a, b) from fun h q hq => by
              by_cases e : q < i
              · exact HALL.out q e
              · obtain rfl : q = i := by omega
                exact h)
            rw [HGI.out] at HJI HA2
            clear x0 x1 HGI
            generalize (ls.getD i []).getD 0 0 = c at *
            generalize (ls.getD i []).getD 1 0 = d at *
            by_cases e1 : c = a
            · have f1 : (c == a) = true := by simp [e1]
              by_cases e2 : d = b
              · have f2 : (d == b) = true := by simp [e2]
                have HT := Lib.hid (HJI.out (by rw [e1, e2]))
                clear HJI HA2 e1 e2
                go_wp2
                go_ret
                exact ⟨ret_bool HT.out.symm, rfl⟩
              · have f2 : (d == b) = false := by simp [e2]
                have HA3 := Lib.hid (HA2.out fun h => e2 (by rw [Prod.mk.injEq] at h; exact h.2))
                clear HJI HA2 e1 e2
                go_wp2
                exact ⟨⟨i + 1, by omega, by simp, trivial, HA3.out⟩, by simp [intOf]; omega⟩
            · have f1 : (c == a) = false := by simp [e1]
              have HA3 := Lib.hid (HA2.out fun h => e1 (by rw [Prod.mk.injEq] at h; exact h.1))
              clear HJI HA2 e1
              go_wp2
              exact ⟨⟨i + 1, by omega, by simp, trivial, HA3.out⟩, by simp [intOf]; omega⟩
          · obtain rfl : i = ls.length := by omega
            have hii : ¬ ((ls.length : Int) < (ls.length : Int)) := by omega
            have HT := Lib.hid (HJN.out HALL.out)
            go_wp2
            go_ret
            exact ⟨ret_bool HT.out.symm, rfl⟩
      · go_enter Try.func45, Try.ntmps45
        go_wp2
        go_loopw [9] (fun x wr => ∃ i : Nat, i ≤ ls.length ∧ x = .int .i64 i ∧ wr = w ∧ ∀ q, q < i → (csT ls).getD q (0, 0) ≠ (a, b)) (fun x _ => ls.length - (intOf x).toNat)
        case atStart => exact ⟨0, Nat.zero_le _, rfl, rfl, fun q hq => absurd hq (Nat.not_lt_zero _)⟩
        case round =>
          obtain ⟨i, hi1, rfl, rfl, hall⟩ := hrel
          have HALL := Lib.hid hall
          clear hall
          by_cases hlt : i < ls.length
          · have hii : (i : Int) < (ls.length : Int) := by omega
            obtain ⟨o2, rv2, rfl, -, -, -, -⟩ := HV.out.cell hlt
            obtain ⟨rv, hc, hrw⟩ := rowC_at HV.out hlt (HRW.out i hlt)
            obtain ⟨g, cg, rfl, x0, x1⟩ := hrw
            have hx0 : wr.cell? ⟨g, 0, none⟩ = some (.int .i64 ((ls.getD i []).getD 0 0)) := x0
            have hx1 : wr.cell? ⟨g, 1, none⟩ = some (.int .i64 ((ls.getD i []).getD 1 0)) := x1
            have HGI := Lib.hid (show (csT ls).getD i (0, 0) = ((ls.getD i []).getD 0 0, (ls.getD i []).getD 1 0) from HGT.out i hlt)
            have HJI := Lib.hid (HJH.out i hlt)
            have HA2 := Lib.hid (show (csT ls).getD i (0, 0) ≠ (a, b) → ∀ q, q < i + 1 → (csT ls).getD q (0, 0) ≠ (a, b) from fun h q hq => by
              by_cases e : q < i
              · exact HALL.out q e
              · obtain rfl : q = i := by omega
                exact h)
            rw [HGI.out] at HJI HA2
            clear x0 x1 HGI
            generalize (ls.getD i []).getD 0 0 = c at *
            generalize (ls.getD i []).getD 1 0 = d at *
            by_cases e1 : c = a
            · have f1 : (c == a) = true := by simp [e1]
              by_cases e2 : d = b
              · have f2 : (d == b) = true := by simp [e2]
                have HT := Lib.hid (HJI.out (by rw [e1, e2]))
                clear HJI HA2 e1 e2
                go_wp2
                go_ret
                exact ⟨ret_bool HT.out.symm, rfl⟩
              · have f2 : (d == b) = false := by simp [e2]
                have HA3 := Lib.hid (HA2.out fun h => e2 (by rw [Prod.mk.injEq] at h; exact h.2))
                clear HJI HA2 e1 e2
                go_wp2
                exact ⟨⟨i + 1, by omega, by simp, trivial, HA3.out⟩, by simp [intOf]; omega⟩
            · have f1 : (c == a) = false := by simp [e1]
              have HA3 := Lib.hid (HA2.out fun h => e1 (by rw [Prod.mk.injEq] at h; exact h.1))
              clear HJI HA2 e1
              go_wp2
              exact ⟨⟨i + 1, by omega, by simp, trivial, HA3.out⟩, by simp [intOf]; omega⟩
          · obtain rfl : i = ls.length := by omega
            have hii : ¬ ((ls.length : Int) < (ls.length : Int)) := by omega
            have HT := Lib.hid (HJN.out HALL.out)
            go_wp2
            go_ret
            exact ⟨ret_bool HT.out.symm, rfl⟩
end Go.Proofs.Ytkpnfonedfomaaa
