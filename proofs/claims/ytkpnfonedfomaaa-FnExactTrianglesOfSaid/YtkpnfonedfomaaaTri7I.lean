/- The program's TrianglesOf. -/
import Derived.Test.YtkpnfonedfomaaaImpl7G
import Derived.Test.YtkpnfonedfomaaaFact7C
import Derived.Test.YtkpnfonedfomaaaTbR7
namespace Go.Proofs.Ytkpnfonedfomaaa
open Go.ChangeShapes Go.WideShapes Go.ChangeAt Go.RowKit
set_option linter.unusedVariables false

set_option maxRecDepth 100000 in
set_option maxHeartbeats 12800000 in
theorem trianglesI (n : Int) (v : Value) (ls : List (List Int)) (lo hi : Nat) (w : World) (hv : OwnT w lo hi v ls) (hh : hi ≤ w.heap.size) (hl : ls.length ≤ 1048576) :
    Calls Try.prog 21 #[.int .i64 n, v] w fun e w' => ∃ r vs, e = .returned (.tuple #[r, .bool (triB n ls)]) ∧ Tb w' w.heap.size r vs (tri3 n ls) ∧ Below w.heap.size w w' := by
  have HPO := Lib.hid (polygonOfI n v ls lo hi w hv hh hl)
  clear hv
  go_enter Try.func21, Try.ntmps21
  go_wp2_with fail
  (with_reducible refine HPO.out.mono ?_)
  rintro e w1 ⟨v1, rfl, hpi, hb1⟩
  have HB1 := Lib.hid hb1
  have z1 := hb1.size
  have HS := Lib.hid (Pg.start w1 0 0 (fun _ => 0) 45)
  have HBA := Lib.hid ((Below.refl w1.heap.size w1).alloc (Nat.le_refl _) (.cells (pgA 0 0 fun _ => 0) 45))
  clear hb1
  rcases hpi with ⟨ht, rfl⟩ | ⟨ht, rfl⟩
  · rw [ht]
    have HTT := Lib.hid ht
    obtain ⟨⟨hn1, hn2, hn3⟩, hl7, -⟩ := tri_bd ht
    obtain ⟨m, rfl⟩ : ∃ m : Nat, n = (m : Int) := ⟨n.toNat, by omega⟩
    have HE := Lib.hid (show tri3 (m : Int) ls = t3A (jnB (m : Int) (csT ls)) m m from if_pos ht)
    have HSI := Lib.hid (fun a b ha hb W => joinsI (m : Int) a b (csT ls) W (by rw [csT_len]; exact hl7) ⟨by omega, by omega⟩ ha hb)
    rw [csT_len] at HSI
    clear hn3 ht
    generalize jnB (m : Int) (csT ls) = J at *
    go_wp2_with (refine wpStPg rfl _ _ rfl w1.heap.size (m : Int) ls.length (flF (csT ls)) 0 0 (fun _ => 0) HS.out rfl rfl ?_; intro w2 hP2 hO2; have HP2 := Lib.hid hP2; have HB2 := Lib.hid (HB1.out.trans ((HBA.out.trans (hO2.below _ (Nat.le_refl _))).mono z1)); clear hP2 hO2 HS HBA HB1)
    have zq := HP2.out.lt
    go_loopw [8, 21] (fun o x wr => ∃ (a : Nat) (vs : List Value), a ≤ m ∧ x = .int .i64 a ∧ Tb wr (w1.heap.size + 1) o vs (t3A J m a) ∧ Pg wr w1.heap.size (m : Int) ls.length (flF (csT ls)) ∧ Below w.heap.size w wr) (fun _ x _ => m - (intOf x).toNat)
    case atStart => exact ⟨0, _, Nat.zero_le _, rfl, Tb.nil _ _, HP2.out, HB2.out⟩
    case round =>
      obtain ⟨a, vs, ha1, rfl, htb, hpg, hb⟩ := hrel
      have HTB := Lib.hid htb
      have HPG := Lib.hid hpg
      have HB := Lib.hid hb
      clear htb hb hpg HP2 HB2
      by_cases ham : a < m
      · have hai : (a : Int) < (m : Int) := by omega
        have hA1 := t3A_len J m a
        have HAS := Lib.hid (show t3A J m (a + 1) = t3A J m a ++ t3B J m a m from rfl)
        have HBL := Lib.hid (t3B_low J m a)
        generalize t3A J m a = LA at *
        have hA2 : LA.length ≤ 1000 := by
          have : a * (m * m) ≤ 10 * (10 * 10) := Nat.mul_le_mul (by omega) (Nat.mul_le_mul (by omega) (by omega))
          omega
        clear hA1
        go_wp2
        go_loopw [8, 10] (fun o x wr => ∃ (b : Nat) (vs : List Value), a + 1 ≤ b ∧ b ≤ m ∧ x = .int .i64 b ∧ Tb wr (w1.heap.size + 1) o vs (LA ++ t3B J m a b) ∧ Pg wr w1.heap.size (m : Int) ls.length (flF (csT ls)) ∧ Below w.heap.size w wr) (fun _ x _ => m - (intOf x).toNat)
        case atStart => exact ⟨a + 1, _, Nat.le_refl _, by omega, by simp, by rw [HBL.out (a + 1) (Nat.le_refl _), List.append_nil]; exact HTB.out, HPG.out, HB.out⟩
        case round =>
          obtain ⟨b, vs, hb1, hb2, rfl, htb, hpg, hb⟩ := hrel
          have HTB2 := Lib.hid htb
          have HPG2 := Lib.hid hpg
          have HB2 := Lib.hid hb
          clear htb hb hpg
          by_cases hbm : b < m
          · have hbi : (b : Int) < (m : Int) := by omega
            have hB1 := t3B_len J m a b
            have HBS := Lib.hid (show t3B J m a (b + 1) = t3B J m a b ++ t3C J a b m from by rw [t3B, if_pos (by omega)])
            have HCL := Lib.hid (t3C_low J a b)
            generalize t3B J m a b = LB at *
            have hB2 : LB.length ≤ 100 := by
              have : b * m ≤ 10 * 10 := Nat.mul_le_mul (by omega) (by omega)
              omega
            clear hB1
            go_wp2
            go_loopw [8, 11] (fun o x wr => ∃ (c : Nat) (vs : List Value), b + 1 ≤ c ∧ c ≤ m ∧ x = .int .i64 c ∧ Tb wr (w1.heap.size + 1) o vs (LA ++ LB ++ t3C J a b c) ∧ Pg wr w1.heap.size (m : Int) ls.length (flF (csT ls)) ∧ Below w.heap.size w wr) (fun _ x _ => m - (intOf x).toNat)
            case atStart => exact ⟨b + 1, _, Nat.le_refl _, by omega, by simp, by rw [HCL.out (b + 1) (Nat.le_refl _), List.append_nil]; exact HTB2.out, HPG2.out, HB2.out⟩
            case round =>
              obtain ⟨c, vs, hc1, hc2, rfl, htb, hpg, hb⟩ := hrel
              have HTB3 := Lib.hid htb
              have HPG3 := Lib.hid hpg
              have HB3 := Lib.hid hb
              have z3 := hb.size
              have zp := hpg.lt
              by_cases hcm : c < m
              · have hci : (c : Int) < (m : Int) := by omega
                have hC1 := t3C_len J a b c
                have HS1 := Lib.hid (HSI.out (a : Int) (b : Int) ⟨by omega, by omega⟩ ⟨by omega, by omega⟩)
                have HS2 := Lib.hid (HSI.out (b : Int) (c : Int) ⟨by omega, by omega⟩ ⟨by omega, by omega⟩)
                have HS3 := Lib.hid (HSI.out (a : Int) (c : Int) ⟨by omega, by omega⟩ ⟨by omega, by omega⟩)
                have HCY := Lib.hid (show J ((a : Int), (b : Int)) = true → J ((b : Int), (c : Int)) = true → J ((a : Int), (c : Int)) = true → t3C J a b (c + 1) = t3C J a b c ++ [[(a : Int), (b : Int), (c : Int)]] from fun h1 h2 h3 => by rw [t3C, if_pos ⟨by omega, h1, h2, h3⟩])
                have HCN := Lib.hid (show ¬ (J ((a : Int), (b : Int)) = true ∧ J ((b : Int), (c : Int)) = true ∧ J ((a : Int), (c : Int)) = true) → t3C J a b (c + 1) = t3C J a b c from fun h => by rw [t3C, if_neg (fun h2 => h h2.2), List.append_nil])
                clear htb hb hpg
                generalize t3C J a b c = LC at *
                obtain ⟨A6, c6, e6⟩ := HTB3.out.form
                have hlen : (LA ++ LB ++ LC).length ≤ 1099511627776 := by simp only [List.length_append]; omega
                have HLEN := Lib.hid hlen
                clear hlen
                generalize (LA ++ LB ++ LC).length = L6 at e6
                subst e6
                generalize J ((a : Int), (b : Int)) = j1 at *
                generalize J ((b : Int), (c : Int)) = j2 at *
                generalize J ((a : Int), (c : Int)) = j3 at *
                go_wp2_with (refine wpLdPg rfl _ rfl _ _ _ _ HPG3.out rfl ?_)
                (with_reducible refine (HS1.out _).mono ?_)
                rintro e w3 ⟨rfl, hb3⟩
                have y3 := hb3.size
                have HT3 := Lib.hid (HTB3.out.bel hb3)
                have HP3 := Lib.hid (HPG3.out.keep hb3 zp)
                have HX3 := Lib.hid (HB3.out.trans (hb3.mono z3))
                clear hb3
                rcases j1 with _ | _
                · have HX := Lib.hid (HCN.out (by simp))
                  clear HCY HCN
                  go_wp2
                  exact ⟨⟨c + 1, vs, by omega, by omega, by simp, by rw [HX.out]; exact HT3.out, HP3.out, HX3.out⟩, by simp [intOf]; omega⟩
                · obtain ⟨p0, p1, p2, p3, p4, p5, p6, p7, p8, p9, p10, p11, p12, p13, p14, p15⟩ := HP3.out.all
                  go_wp2_with fail
                  (with_reducible refine (HS2.out _).mono ?_)
                  rintro e w4 ⟨rfl, hb4⟩
                  clear p0 p1 p2 p3 p4 p5 p6 p7 p8 p9 p10 p11 p12 p13 p14 p15
                  have y4 := hb4.size
                  have HT4 := Lib.hid (HT3.out.bel hb4)
                  have HP4 := Lib.hid (HP3.out.keep hb4 HP3.out.lt)
                  have HX4 := Lib.hid (HX3.out.trans (hb4.mono (by omega)))
                  clear hb4
                  rcases j2 with _ | _
                  · have HX := Lib.hid (HCN.out (by simp))
                    clear HCY HCN
                    go_wp2
                    exact ⟨⟨c + 1, vs, by omega, by omega, by simp, by rw [HX.out]; exact HT4.out, HP4.out, HX4.out⟩, by simp [intOf]; omega⟩
                  · obtain ⟨p0, p1, p2, p3, p4, p5, p6, p7, p8, p9, p10, p11, p12, p13, p14, p15⟩ := HP4.out.all
                    go_wp2_with fail
                    (with_reducible refine (HS3.out _).mono ?_)
                    rintro e w5 ⟨rfl, hb5⟩
                    clear p0 p1 p2 p3 p4 p5 p6 p7 p8 p9 p10 p11 p12 p13 p14 p15
                    have y5 := hb5.size
                    have HT5 := Lib.hid (HT4.out.bel hb5)
                    have HP5 := Lib.hid (HP4.out.keep hb5 HP4.out.lt)
                    have HX5 := Lib.hid (HX4.out.trans (hb5.mono (by omega)))
                    clear hb5
                    rcases j3 with _ | _
                    · have HX := Lib.hid (HCN.out (by simp))
                      clear HCY HCN
                      go_wp2
                      exact ⟨⟨c + 1, vs, by omega, by omega, by simp, by rw [HX.out]; exact HT5.out, HP5.out, HX5.out⟩, by simp [intOf]; omega⟩
                    · have HX := Lib.hid (HCY.out (by first | rfl | trivial) (by first | rfl | trivial) (by first | rfl | trivial))
                      clear HCY HCN
                      as_aux_lemma =>
                        have zz : w1.heap.size + 1 ≤ w5.heap.size := HP5.out.lt
                        have HR3 := Lib.hid ((row3 w5 (w1.heap.size + 1) (a : Int) (b : Int) (c : Int) zz).alloc (.cells #[.slice (some ⟨w5.heap.size, 0, none⟩) 3 3] 35))
                        have HT6 := Lib.hid ((HT5.out.alloc (.cells #[.int .i64 (a : Int), .int .i64 (b : Int), .int .i64 (c : Int)] 3)).alloc (.cells #[.slice (some ⟨w5.heap.size, 0, none⟩) 3 3] 35))
                        have zA : (w5.alloc (.cells #[.int .i64 (a : Int), .int .i64 (b : Int), .int .i64 (c : Int)] 3)).heap.size = w5.heap.size + 1 := by simp
                        have HC3 := Lib.hid (show ((w5.alloc (.cells #[.int .i64 (a : Int), .int .i64 (b : Int), .int .i64 (c : Int)] 3)).alloc (.cells #[.slice (some ⟨w5.heap.size, 0, none⟩) 3 3] 35)).cell? ⟨w5.heap.size + 1, 0, none⟩ = some (.slice (some ⟨w5.heap.size, 0, none⟩) 3 3) from by rw [World.cell?_alloc_at _ _ _ _ zA.symm]; rfl)
                        have HBB := Lib.hid ((HX5.out.alloc (by omega) (.cells #[.int .i64 (a : Int), .int .i64 (b : Int), .int .i64 (c : Int)] 3)).alloc (by rw [zA]; omega) (.cells #[.slice (some ⟨w5.heap.size, 0, none⟩) 3 3] 35))
                        have HBP := Lib.hid (((Below.refl (w1.heap.size + 1) w5).alloc zz (.cells #[.int .i64 (a : Int), .int .i64 (b : Int), .int .i64 (c : Int)] 3)).alloc (by rw [zA]; omega) (.cells #[.slice (some ⟨w5.heap.size, 0, none⟩) 3 3] 35))
                        go_wp2_with (at_builtin; go_must (refine wpAppTbR rfl _ _ rfl (w1.heap.size + 1) _ vs _ rfl HT6.out (w5.heap.size + 1) 1 _ rfl HC3.out rfl (l := [(a : Int), (b : Int), (c : Int)]) HR3.out (HT5.out.far (Nat.le_refl _)) HLEN.out (by simp; omega) ?_); intro v' w' htb' hg')
                        exact ⟨⟨c + 1, _, by omega, by omega, by simp, by rw [HX.out, ← List.append_assoc]; exact htb', HP5.out.keep (HBP.out.grown hg' (by simp; omega) (fun k hk => (HT5.out.own.lt k hk).1)) (Nat.lt_succ_self _), HBB.out.grown hg' (by simp; omega) (fun k hk => by have := (HT5.out.own.lt k hk).1; omega)⟩, by simp [intOf]; omega⟩
              · obtain rfl : c = m := by omega
                have hci : ¬ ((c : Int) < (c : Int)) := by omega
                clear htb hb hpg
                go_wp2
                exact ⟨⟨b + 1, vs, by omega, by omega, by simp, by rw [HBS.out, ← List.append_assoc]; exact HTB3.out, HPG3.out, HB3.out⟩, by simp [intOf]; omega⟩
          · obtain rfl : b = m := by omega
            have hbi : ¬ ((b : Int) < (b : Int)) := by omega
            go_wp2
            go_roundw
            case rel => exact ⟨a + 1, vs, by omega, by simp, by rw [HAS.out]; exact HTB2.out, HPG2.out, HB2.out⟩
            case measure => simp [intOf]; omega
      · obtain rfl : a = m := by omega
        have hai : ¬ ((a : Int) < (a : Int)) := by omega
        go_wp2
        go_ret2
        exact ⟨_, by rw [HTT.out]; rfl, ⟨_, by rw [HE.out]; exact HTB.out.lower7 (by omega)⟩, HB.out⟩
  · have HE := Lib.hid (show tri3 n ls = [] from if_neg (by rw [ht]; simp))
    have HTT := Lib.hid ht
    rw [ht]
    go_wp2_with (refine wpStPg rfl _ _ rfl w1.heap.size 0 0 (fun _ => 0) 0 0 (fun _ => 0) HS.out rfl rfl ?_; intro w2 hP2 hO2; have HB2 := Lib.hid (HB1.out.trans ((HBA.out.trans (hO2.below _ (Nat.le_refl _))).mono z1)); clear hP2 hO2)
    go_ret2
    exact ⟨_, [], by rw [HTT.out]; rfl, by rw [HE.out]; exact Tb.nil _ _, HB2.out⟩

end Go.Proofs.Ytkpnfonedfomaaa
