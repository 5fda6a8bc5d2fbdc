/- The contract of the model's l10All: all permutations, by recursion. -/
import Derived.Test.YtamepojgpeblpaaTbX31
import Derived.BigQuiet
namespace Go.Proofs.Ytamepojgpeblpaa
open Go.ChangeShapes Go.WideShapes Go.ChangeAt Go.RowKit
set_option linter.unusedVariables false

theorem allX_len (rec : List Int → List (List Int)) (p : List Int) (M : Nat) (h : ∀ q, (rec q).length ≤ M) : ∀ k, (allX rec p k).length ≤ k * M := by
  intro k
  induction k with
  | zero => simp [allX]
  | succ k ih =>
    rw [allX, List.length_append, Nat.add_mul, Nat.one_mul]
    split
    · simp; omega
    · have := h (p ++ [(k : Int)]); omega
theorem allP_len (n : Nat) (hn : n ≤ 5) : ∀ f p, (allP n f p).length ≤ 5 ^ f := by
  intro f
  induction f with
  | zero => intro p; simp [allP]
  | succ f ih =>
    intro p
    show (allX (allP n f) p n).length ≤ _
    refine Nat.le_trans (allX_len _ p (5 ^ f) ih n) ?_
    rw [Nat.pow_succ, Nat.mul_comm]
    exact Nat.mul_le_mul_left _ hn
theorem allX_small (n : Nat) (hn : n ≤ 5) (f : Nat) (hf : f ≤ 5) (p : List Int) (k : Nat) (hk : k ≤ 5) : (allX (allP n f) p k).length ≤ 15625 := by
  have h1 := allX_len (allP n f) p (5 ^ f) (allP_len n hn f) k
  have h2 : (5 : Nat) ^ f ≤ 5 ^ 5 := Nat.pow_le_pow_right (by decide) hf
  have h3 : k * 5 ^ f ≤ 5 * 5 ^ 5 := Nat.mul_le_mul hk h2
  have h4 : (5 : Nat) * 5 ^ 5 = 15625 := by decide
  omega
theorem allP_small (n : Nat) (hn : n ≤ 5) (f : Nat) (hf : f ≤ 5) (p : List Int) : (allP n f p).length ≤ 15625 := by
  have h1 := allP_len n hn f p
  have h2 : (5 : Nat) ^ f ≤ 5 ^ 5 := Nat.pow_le_pow_right (by decide) hf
  have h4 : (5 : Nat) ^ 5 = 3125 := by decide
  omega

set_option maxRecDepth 100000 in
set_option maxHeartbeats 3200000 in
theorem l10All (n : Nat) (hn : n ≤ 5) : ∀ (f : Nat) (p : List Int) (hp : p.length + f = n) (v : Value) (lo hi : Nat) (w : World) (hv : OwnI w lo hi v p) (hhi : hi ≤ w.heap.size) (hlo : lo ≤ w.heap.size),
    Calls Try.prog 60 #[.int .i64 (n : Int), v] w fun e w' => ∃ v' vs, e = .returned v' ∧ TbX w' w.heap.size lo v' vs (allP n f p) ∧ Below w.heap.size w w' := by
  intro f
  induction f with
  | zero =>
    intro p hp v lo hi w hv hhi hlo
    obtain ⟨A1, c1, rfl, k1⟩ := id hv
    clear k1
    have HT := Lib.hid (TbX.one (base := w.heap.size) hv hhi (Nat.le_refl _))
    have hpn : (p.length : Int) = (n : Int) := by omega
    clear hv
    go_enter Try.func60, Try.ntmps60
    go_wp2
    go_ret
    exact ⟨_, _, rfl, HT.out, (Below.refl _ _).alloc (Nat.le_refl _) _⟩
  | succ f ih =>
    intro p hp v lo hi w hv hhi hlo
    have IH := Lib.hid ih
    clear ih
    obtain ⟨A1, c1, rfl, k1⟩ := id hv
    clear k1
    have HV := Lib.hid hv
    have hpn : ¬ (p.length : Int) = (n : Int) := by omega
    have hpb : ((p.length : Int) == (n : Int)) = false := beq_eq_false_iff_ne.2 hpn
    have hpl : p.length ≤ 5 := by omega
    have HF := Lib.hid (show f ≤ 5 by omega)
    have HPF := Lib.hid (show ∀ x : Int, (p ++ [x]).length + f = n from fun x => by rw [List.length_append, List.length_singleton]; omega)
    have HX := Lib.hid (fun k => show allX (allP n f) p (k + 1) = allX (allP n f) p k ++ (if usK p (k : Int) p.length = true then [] else allP n f (p ++ [(k : Int)])) from rfl)
    have HALL := Lib.hid (show allP n (f + 1) p = allX (allP n f) p n from rfl)
    have HSM := Lib.hid (fun k (hk : k ≤ 5) => allX_small n hn f HF.out p k hk)
    have HSQ := Lib.hid (fun q => allP_small n hn f HF.out q)
    clear hv hp
    generalize allP n (f + 1) p = R0 at *
    go_enter Try.func60, Try.ntmps60
    go_wp2
    go_loopw [5, 6] (fun x5 x6 wr => ∃ (k : Nat) (vs : List Value), x6 = .int .i64 (k : Int) ∧ k ≤ n ∧ TbX wr w.heap.size lo x5 vs (allX (allP n f) p k) ∧ Below w.heap.size w wr) (fun _ x6 _ => n - (intOf x6).toNat)
    case atStart => exact ⟨0, [], rfl, Nat.zero_le _, TbX.made w _ _ (Nat.le_refl _), (Below.refl _ _).alloc (Nat.le_refl _) _⟩
    case round =>
      obtain ⟨k, vs, rfl, hk, ht, hb⟩ := hrel
      have HT := Lib.hid ht
      have HB := Lib.hid hb
      have hzB := hb.size
      clear ht hb
      by_cases hlt : k < n
      · have hki : (k : Int) < (n : Int) := by omega
        have HVR := Lib.hid (show OwnI wr lo hi (.slice A1 p.length c1) p from HV.out.keep HB.out hhi)
        have HS := Lib.hid (HX.out k)
        have HSK := Lib.hid (HSM.out k (by omega))
        go_wp2
        go_loopw [7, 8] (fun x7 x8 wq => ∃ j : Nat, j ≤ p.length ∧ x8 = .int .i64 (j : Int) ∧ x7 = .bool (usK p (k : Int) j) ∧ wq = wr) (fun _ x8 _ => p.length - (intOf x8).toNat)
        case atStart => exact ⟨0, Nat.zero_le _, rfl, rfl, rfl⟩
        case round =>
          obtain ⟨j, hj, rfl, rfl, hwq⟩ := hrel
          subst hwq
          by_cases hjl : j < p.length
          · obtain ⟨g1, p1, e1, -, -, hc1, -⟩ := HVR.out.cell hjl
            simp only [Value.slice.injEq] at e1
            obtain ⟨rfl, -, rfl⟩ := e1
            have hji : (j : Int) < (p.length : Int) := by omega
            have HU := Lib.hid (show usK p (k : Int) (j + 1) = (usK p (k : Int) j || (p.getD j 0 == (k : Int))) from rfl)
            generalize p.getD j 0 = y at *
            rcases hb : usK p (k : Int) j with _ | _
            · rw [hb] at HU
              by_cases ey : y = (k : Int)
              · subst ey
                have ey2 : ((k : Int) == (k : Int)) = true := beq_self_eq_true _
                have HB1 := Lib.hid (show usK p (k : Int) (j + 1) = true by rw [HU.out, ey2]; rfl)
                go_wp2
                go_roundw
                case rel => exact ⟨j + 1, by omega, by simp, by simp [HB1.out], by first | rfl | trivial⟩
                case measure => simp [intOf]; omega
              · have ey2 : (y == (k : Int)) = false := beq_eq_false_iff_ne.2 ey
                have HB1 := Lib.hid (show usK p (k : Int) (j + 1) = false by rw [HU.out, ey2]; rfl)
                go_wp2
                go_roundw
                case rel => exact ⟨j + 1, by omega, by simp, by simp [HB1.out], by first | rfl | trivial⟩
                case measure => simp [intOf]; omega
            · rw [hb] at HU
              have HB1 := Lib.hid (show usK p (k : Int) (j + 1) = true by rw [HU.out]; rfl)
              go_wp2
              go_roundw
              case rel => exact ⟨j + 1, by omega, by simp, by simp [HB1.out], by first | rfl | trivial⟩
              case measure => simp [intOf]; omega
          · obtain rfl : j = p.length := by omega
            rcases hu : usK p (k : Int) p.length with _ | _
            · rw [hu] at HS
              have HL1 := Lib.hid (show allX (allP n f) p (k + 1) = allX (allP n f) p k ++ allP n f (p ++ [(k : Int)]) from HS.out)
              have HSQ1 := Lib.hid (HSQ.out (p ++ [(k : Int)]))
              go_wp2_with (at_builtin; first | (refine wpCopy (w := wr) rfl _ _ rfl A1 c1 lo hi p HVR.out (Nat.le_trans hhi hzB) rfl rfl (by omega) ?_; intro g c w1 hr hb1) | (refine wpAppIntAt rfl _ _ rfl wr.heap.size _ _ p rfl (RowN.allocN hr _) _ _ (k : Int) rfl (cell_one w1 _ _) (by omega) (base_up hb1.size) ?_; intro v2 w2 hr2 hg2 hat2))
              have HR1 := Lib.hid hr
              have HB1 := Lib.hid (show Below wr.heap.size wr w1 from hb1)
              have hz1 := HB1.out.size
              clear hr hb1
              have HR2 := Lib.hid (OwnI.of_row hr2)
              have HB2 := Lib.hid (show Below wr.heap.size wr w2 from (HB1.out.alloc hz1 _).grown hg2 (by simp; omega) (fun q hq => (World.ownsRow.lt HR1.out q hq).1))
              have hz2 := HB2.out.size
              clear hr2 hg2 hat2
              go_wp2_with fail
              (with_reducible refine (IH.out (p ++ [(k : Int)]) (HPF.out _) v2 lo w2.heap.size w2 (HR2.out.wide (by omega) (Nat.le_refl _)) (Nat.le_refl _) (by omega)).mono ?_)
              rintro e w3 ⟨v3, vs3, rfl, ht3, hb3⟩
              have HB3 := Lib.hid (show Below wr.heap.size wr w3 from HB2.out.trans (hb3.mono hz2))
              have HT3 := Lib.hid ht3
              have HT0 := Lib.hid (HT.out.below HB3.out)
              have hz3 := HB3.out.size
              clear ht3 hb3
              go_wp2_with (at_builtin; go_must (refine wpAppTX rfl _ _ rfl w.heap.size lo _ vs _ rfl HT0.out _ v3 vs3 _ rfl HT3.out (by have := HSK.out; omega) (by have := HSQ1.out; omega) (by omega) ?_); intro v4 w4 ht4 hg4 hat4)
              have HT4 := Lib.hid ht4
              have HB4 := Lib.hid (show Below w.heap.size w w4 from (HB.out.trans (HB3.out.mono hzB)).grown hg4 (by omega) (fun q hq => (World.ownsRow.lt HT0.out.own q hq).1))
              clear ht4 hg4 hat4
              go_roundw
              case rel => exact ⟨k + 1, _, by simp, by omega, by rw [HL1.out]; exact HT4.out, HB4.out⟩
              case measure => simp [intOf]; omega
            · rw [hu] at HS
              have HL1 := Lib.hid (show allX (allP n f) p (k + 1) = allX (allP n f) p k by rw [HS.out]; exact List.append_nil _)
              go_wp2
              go_roundw
              case rel => exact ⟨k + 1, vs, by simp, by omega, by rw [HL1.out]; exact HT.out, HB.out⟩
              case measure => simp [intOf]; omega
      · obtain rfl : k = n := by omega
        have htr := HT.out
        rw [← HALL.out] at htr
        have HTR := Lib.hid htr
        clear htr
        go_wp2
        go_ret
        exact ⟨_, _, rfl, HTR.out, HB.out⟩

end Go.Proofs.Ytamepojgpeblpaa
