/- The model's TrianglesOf. -/
import Derived.Test.YtkpnfonedfomaaaSide7
import Derived.Test.YtkpnfonedfomaaaFact7C
import Derived.Test.YtkpnfonedfomaaaTbR7
namespace Go.Proofs.Ytkpnfonedfomaaa
open Go.ChangeShapes Go.WideShapes Go.ChangeAt Go.RowKit
set_option linter.unusedVariables false

set_option maxRecDepth 100000 in
set_option maxHeartbeats 6400000 in
theorem trianglesS (n : Int) (v : Value) (ls : List (List Int)) (lo hi : Nat) (w : World) (hv : OwnT w lo hi v ls) (hh : hi ≤ w.heap.size) (hl : ls.length ≤ 1048576) :
    Calls Try.prog 20 #[.int .i64 n, v] w fun e w' => ∃ r vs, e = .returned (.tuple #[r, .bool (triB n ls)]) ∧ Tb w' w.heap.size r vs (tri3 n ls) ∧ Below w.heap.size w w' := by
  have HM := Lib.hid (Tb.made w w.heap.size (Nat.le_refl _))
  have HB0 := Lib.hid ((Below.refl w.heap.size w).alloc (Nat.le_refl _) (.cells #[] 35))
  have HIT := Lib.hid (isTriS n v ls lo hi _ (hv.keep HB0.out hh) hl)
  rcases ht : triB n ls with _ | _
  · have HE := Lib.hid (show tri3 n ls = [] from if_neg (by rw [ht]; simp))
    rw [ht] at HIT
    go_enter Try.func20, Try.ntmps20
    go_wp2_with fail
    (with_reducible refine HIT.out.mono ?_)
    rintro e w2 ⟨rfl, q, rfl⟩
    go_wp2
    go_ret2
    exact ⟨_, _, rfl, by rw [HE.out]; exact HM.out.drewN q, below_drewN HB0.out _⟩
  · obtain ⟨⟨hn1, hn2, hn3⟩, hl7, hok⟩ := tri_bd ht
    obtain ⟨m, rfl⟩ : ∃ m : Nat, n = (m : Int) := ⟨n.toNat, by omega⟩
    have HE := Lib.hid (show tri3 (m : Int) ls = t3A (jnB (m : Int) (csT ls)) m m from if_pos ht)
    have HSI := Lib.hid (fun a b ha hb W (h : OwnT W lo hi v ls) => l7SideS (m : Int) a b v ls lo hi W h hl (fun i hi => (hok i hi).1) ⟨by omega, by omega⟩ ha hb)
    have HV := Lib.hid hv
    rw [ht] at HIT
    clear hn3 hok hv
    generalize jnB (m : Int) (csT ls) = J at *
    go_enter Try.func20, Try.ntmps20
    go_wp2_with fail
    (with_reducible refine HIT.out.mono ?_)
    rintro e w2 ⟨rfl, q, rfl⟩
    go_wp2
    go_loopw [6, 7] (fun o x wr => ∃ (a : Nat) (vs : List Value), a ≤ m ∧ x = .int .i64 a ∧ Tb wr w.heap.size o vs (t3A J m a) ∧ Below w.heap.size w wr) (fun _ x _ => m - (intOf x).toNat)
    case atStart => exact ⟨0, _, Nat.zero_le _, rfl, HM.out.drewN q, below_drewN HB0.out _⟩
    case round =>
      obtain ⟨a, vs, ha1, rfl, htb, hb⟩ := hrel
      have HTB := Lib.hid htb
      have HB := Lib.hid hb
      clear htb hb
      by_cases ham : a < m
      · have hai : (a : Int) < (m : Int) := by omega
        have hA1 := t3A_len J m a
        have HAS := Lib.hid (show t3A J m (a + 1) = t3A J m a ++ t3B J m a m from rfl)
        have HBL := Lib.hid (t3B_low J m a)
        generalize t3A J m a = LA at *
        have hA2 : LA.length ≤ 1000 := by
          have : a * (m * m) ≤ 10 * (10 * 10) := Nat.mul_le_mul (by omega) (Nat.mul_le_mul (by omega) (by omega))
          omega
        clear hA1
        go_wp2
        go_loopw [6, 8] (fun o x wr => ∃ (b : Nat) (vs : List Value), a + 1 ≤ b ∧ b ≤ m ∧ x = .int .i64 b ∧ Tb wr w.heap.size o vs (LA ++ t3B J m a b) ∧ Below w.heap.size w wr) (fun _ x _ => m - (intOf x).toNat)
        case atStart => exact ⟨a + 1, _, Nat.le_refl _, by omega, by simp, by rw [HBL.out (a + 1) (Nat.le_refl _), List.append_nil]; exact HTB.out, HB.out⟩
        case round =>
          obtain ⟨b, vs, hb1, hb2, rfl, htb, hb⟩ := hrel
          have HTB2 := Lib.hid htb
          have HB2 := Lib.hid hb
          clear htb hb
          by_cases hbm : b < m
          · have hbi : (b : Int) < (m : Int) := by omega
            have hB1 := t3B_len J m a b
            have HBS := Lib.hid (show t3B J m a (b + 1) = t3B J m a b ++ t3C J a b m from by rw [t3B, if_pos (by omega)])
            have HCL := Lib.hid (t3C_low J a b)
            generalize t3B J m a b = LB at *
            have hB2 : LB.length ≤ 100 := by
              have : b * m ≤ 10 * 10 := Nat.mul_le_mul (by omega) (by omega)
              omega
            clear hB1
            go_wp2
            go_loopw [6, 9] (fun o x wr => ∃ (c : Nat) (vs : List Value), b + 1 ≤ c ∧ c ≤ m ∧ x = .int .i64 c ∧ Tb wr w.heap.size o vs (LA ++ LB ++ t3C J a b c) ∧ Below w.heap.size w wr) (fun _ x _ => m - (intOf x).toNat)
            case atStart => exact ⟨b + 1, _, Nat.le_refl _, by omega, by simp, by rw [HCL.out (b + 1) (Nat.le_refl _), List.append_nil]; exact HTB2.out, HB2.out⟩
            case round =>
              obtain ⟨c, vs, hc1, hc2, rfl, htb, hb⟩ := hrel
              have HTB3 := Lib.hid htb
              have HB3 := Lib.hid hb
              have z3 := hb.size
              by_cases hcm : c < m
              · have hci : (c : Int) < (m : Int) := by omega
                have hC1 := t3C_len J a b c
                have HS1 := Lib.hid (HSI.out (a : Int) (b : Int) ⟨by omega, by omega⟩ ⟨by omega, by omega⟩ wr (HV.out.keep HB3.out hh))
                have HS2 := Lib.hid (HSI.out (b : Int) (c : Int) ⟨by omega, by omega⟩ ⟨by omega, by omega⟩ wr (HV.out.keep HB3.out hh))
                have HS3 := Lib.hid (HSI.out (a : Int) (c : Int) ⟨by omega, by omega⟩ ⟨by omega, by omega⟩ wr (HV.out.keep HB3.out hh))
                have HCY := Lib.hid (show J ((a : Int), (b : Int)) = true → J ((b : Int), (c : Int)) = true → J ((a : Int), (c : Int)) = true → t3C J a b (c + 1) = t3C J a b c ++ [[(a : Int), (b : Int), (c : Int)]] from fun h1 h2 h3 => by rw [t3C, if_pos ⟨by omega, h1, h2, h3⟩])
                have HCN := Lib.hid (show ¬ (J ((a : Int), (b : Int)) = true ∧ J ((b : Int), (c : Int)) = true ∧ J ((a : Int), (c : Int)) = true) → t3C J a b (c + 1) = t3C J a b c from fun h => by rw [t3C, if_neg (fun h2 => h h2.2), List.append_nil])
                clear htb hb
                generalize t3C J a b c = LC at *
                obtain ⟨A6, c6, e6⟩ := HTB3.out.form
                have hlen : (LA ++ LB ++ LC).length ≤ 1099511627776 := by simp only [List.length_append]; omega
                have HLEN := Lib.hid hlen
                clear hlen
                generalize (LA ++ LB ++ LC).length = L6 at e6
                subst e6
                generalize J ((a : Int), (b : Int)) = j1 at *
                generalize J ((b : Int), (c : Int)) = j2 at *
                generalize J ((a : Int), (c : Int)) = j3 at *
                rcases j1 with _ | _
                · have HX := Lib.hid (HCN.out (by simp))
                  clear HCY HCN
                  go_wp2_with fail
                  (with_reducible refine HS1.out.mono ?_)
                  rintro e w' ⟨rfl, rfl⟩
                  go_wp2
                  exact ⟨⟨c + 1, vs, by omega, by omega, by simp, by rw [HX.out]; exact HTB3.out, HB3.out⟩, by simp [intOf]; omega⟩
                · rcases j2 with _ | _
                  · have HX := Lib.hid (HCN.out (by simp))
                    clear HCY HCN
                    go_wp2_with fail
                    (with_reducible refine HS1.out.mono ?_)
                    rintro e w' ⟨rfl, rfl⟩
                    go_wp2_with fail
                    (with_reducible refine HS2.out.mono ?_)
                    rintro e w' ⟨rfl, rfl⟩
                    go_wp2
                    exact ⟨⟨c + 1, vs, by omega, by omega, by simp, by rw [HX.out]; exact HTB3.out, HB3.out⟩, by simp [intOf]; omega⟩
                  · rcases j3 with _ | _
                    · have HX := Lib.hid (HCN.out (by simp))
                      clear HCY HCN
                      go_wp2_with fail
                      (with_reducible refine HS1.out.mono ?_)
                      rintro e w' ⟨rfl, rfl⟩
                      go_wp2_with fail
                      (with_reducible refine HS2.out.mono ?_)
                      rintro e w' ⟨rfl, rfl⟩
                      go_wp2_with fail
                      (with_reducible refine HS3.out.mono ?_)
                      rintro e w' ⟨rfl, rfl⟩
                      go_wp2
                      exact ⟨⟨c + 1, vs, by omega, by omega, by simp, by rw [HX.out]; exact HTB3.out, HB3.out⟩, by simp [intOf]; omega⟩
                    · have HX := Lib.hid (HCY.out rfl rfl rfl)
                      clear HCY HCN
                      have HR3 := Lib.hid ((row3 wr w.heap.size (a : Int) (b : Int) (c : Int) z3).alloc (.cells #[.slice (some ⟨wr.heap.size, 0, none⟩) 3 3] 35))
                      have HT3 := Lib.hid ((HTB3.out.alloc (.cells #[.int .i64 (a : Int), .int .i64 (b : Int), .int .i64 (c : Int)] 3)).alloc (.cells #[.slice (some ⟨wr.heap.size, 0, none⟩) 3 3] 35))
                      have zA : (wr.alloc (.cells #[.int .i64 (a : Int), .int .i64 (b : Int), .int .i64 (c : Int)] 3)).heap.size = wr.heap.size + 1 := by simp
                      have HC3 := Lib.hid (show ((wr.alloc (.cells #[.int .i64 (a : Int), .int .i64 (b : Int), .int .i64 (c : Int)] 3)).alloc (.cells #[.slice (some ⟨wr.heap.size, 0, none⟩) 3 3] 35)).cell? ⟨wr.heap.size + 1, 0, none⟩ = some (.slice (some ⟨wr.heap.size, 0, none⟩) 3 3) from by rw [World.cell?_alloc_at _ _ _ _ zA.symm]; rfl)
                      have HBB := Lib.hid ((HB3.out.alloc z3 (.cells #[.int .i64 (a : Int), .int .i64 (b : Int), .int .i64 (c : Int)] 3)).alloc (by rw [zA]; omega) (.cells #[.slice (some ⟨wr.heap.size, 0, none⟩) 3 3] 35))
                      go_wp2_with fail
                      (with_reducible refine HS1.out.mono ?_)
                      rintro e w' ⟨rfl, rfl⟩
                      go_wp2_with fail
                      (with_reducible refine HS2.out.mono ?_)
                      rintro e w' ⟨rfl, rfl⟩
                      go_wp2_with fail
                      (with_reducible refine HS3.out.mono ?_)
                      rintro e w' ⟨rfl, rfl⟩
                      go_wp2_with (at_builtin; go_must (refine wpAppTbR rfl _ _ rfl w.heap.size _ vs _ rfl HT3.out (wr.heap.size + 1) 1 _ rfl HC3.out rfl (l := [(a : Int), (b : Int), (c : Int)]) HR3.out (HTB3.out.far (Nat.le_refl _)) HLEN.out (by simp; omega) ?_); intro v' w' htb' hg')
                      have HZ := Lib.hid (hg'.size)
                      exact ⟨⟨c + 1, _, by omega, by omega, by simp, by rw [HX.out, ← List.append_assoc]; exact htb', HBB.out.grown hg' (by simp; omega) (fun k hk => (HTB3.out.own.lt k hk).1)⟩, by simp [intOf]; omega⟩
              · obtain rfl : c = m := by omega
                have hci : ¬ ((c : Int) < (c : Int)) := by omega
                clear htb hb
                go_wp2
                exact ⟨⟨b + 1, vs, by omega, by omega, by simp, by rw [HBS.out, ← List.append_assoc]; exact HTB3.out, HB3.out⟩, by simp [intOf]; omega⟩
          · obtain rfl : b = m := by omega
            have hbi : ¬ ((b : Int) < (b : Int)) := by omega
            go_wp2
            exact ⟨⟨a + 1, vs, by omega, by simp, by rw [HAS.out]; exact HTB2.out, HB2.out⟩, by simp [intOf]; omega⟩
      · obtain rfl : a = m := by omega
        have hai : ¬ ((a : Int) < (a : Int)) := by omega
        go_wp2
        go_ret2
        exact ⟨_, rfl, ⟨_, by rw [HE.out]; exact HTB.out⟩, HB.out⟩

end Go.Proofs.Ytkpnfonedfomaaa
