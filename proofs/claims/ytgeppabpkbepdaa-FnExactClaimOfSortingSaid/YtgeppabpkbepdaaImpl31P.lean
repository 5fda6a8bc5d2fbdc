/- The program's PathOfPermutation. -/
import Derived.Test.YtgeppabpkbepdaaImpl31A
import Derived.Test.YtgeppabpkbepdaaFact10Q
import Derived.Test.YtgeppabpkbepdaaBld
import Derived.Test.YtgeppabpkbepdaaShelfB
namespace Go.Proofs.Ytgeppabpkbepdaa
open Go.ChangeShapes Go.WideShapes Go.ChangeAt Go.RowKit
set_option linter.unusedVariables false

theorem OwnI.others {w w' : World} {lo hi b : Nat} {v : Value} {xs : List Int} (h : OwnI w lo hi v xs) (hk : Lib.OthersKept 5 (some b) w w') (hb : b < lo) : OwnI w' lo hi v xs := by
  obtain ⟨A, cap, e, h⟩ := h
  refine ⟨A, cap, e, ?_⟩
  rcases h with h | ⟨g, C, h1, h2, h3, h4, h5⟩
  · exact .inl h
  · exact .inr ⟨g, C, h1, h2, h3, hk g _ h4 (by simp; omega) (fun c fz e => by simp at e), h5⟩
theorem bldAtKeep {T e : TypeId} {B b : Nat} {p : Value} {bs : List Value} {w w' : World} (h : Lib.BuilderAtF T e B b p bs w) (hb : Below w.heap.size w w') : Lib.BuilderAtF T e B b p bs w' := by
  obtain ⟨h1, v, h2, h3, h4⟩ := h
  have hlt : ∀ {g : Nat} {o : Obj}, w.heap[g]? = some o → w'.heap[g]? = some o := fun hg => (hb.block _ (Array.getElem?_eq_some_iff.1 hg).1).trans hg
  refine ⟨h1, v, hlt h2, ⟨h3.1, ?_⟩, h4⟩
  rcases h3.2 with h | ⟨g, cap, cur, fz, a, b', c, d⟩
  · exact .inl h
  · exact .inr ⟨g, cap, cur, fz, a, b', hlt c, d⟩
theorem bldKeep {T e : TypeId} {B b : Nat} {bs : List Value} {w w' : World} (h : Lib.IsBuilderF T e B b bs w) (hb : Below w.heap.size w w') : Lib.IsBuilderF T e B b bs w' :=
  h.elim (fun h => .inl (bldAtKeep h hb)) (fun h => .inr (bldAtKeep h hb))
theorem pop_no {xs : List Int} (h : popOk xs = false) : popP xs = ⟨#[]⟩ := if_neg (by simp [h])
theorem pop_yes {xs : List Int} (h : popOk xs = true) : popP xs = ⟨(ppW (ivL xs xs.length) xs.length).toArray⟩ := if_pos h

set_option maxRecDepth 100000 in
set_option maxHeartbeats 3200000 in
theorem pathOfPermutationI (A1 : Option Addr) (xs : List Int) (lo hi : Nat) (w : World) (hv : OwnI w lo hi (.slice A1 xs.length xs.length) xs) (hhi : hi ≤ w.heap.size) :
    Calls Try.prog 39 #[.slice A1 xs.length xs.length] w fun e w' => e = .returned (.tuple #[.string (popP xs), .bool (popOk xs)]) ∧ Below w.heap.size w w' := by
  have HV := Lib.hid hv
  have HM := Lib.hid (isPermutationI _ xs _ lo hi w hv hhi)
  clear hv
  rcases hm : permB xs with _ | _
  · have HO := Lib.hid (show popOk xs = false by unfold popOk; rw [hm]; rfl)
    have HP := Lib.hid (pop_no HO.out)
    rw [hm] at HM
    clear hm
    go_enter Try.func39, Try.ntmps39
    go_wp2_with fail
    (with_reducible refine HM.out.mono ?_)
    rintro e w' ⟨rfl, hb⟩
    go_wp2
    go_ret2
    exact ⟨ret_sb HP.out.symm HO.out.symm, hb⟩
  · have HC := Lib.hid (fun w hv hhi => contains231I A1 xs xs.length lo hi w hv hhi)
    rcases hc : conB r231 xs with _ | _
    · have HO := Lib.hid (show popOk xs = true by unfold popOk; rw [hm, hc]; rfl)
      have HP := Lib.hid (pop_yes HO.out)
      have HPM := Lib.hid hm
      have h16 := (perm_yes hm).1
      have hivl := ivL_len xs xs.length
      have HIV := Lib.hid (fun k (hk : k < xs.length) => show 0 ≤ (ivL xs xs.length).getD k 0 ∧ (ivL xs xs.length).getD k 0 < (xs.length : Int) from by
        obtain ⟨i, hi, e⟩ := perm_all hm hk
        have := ivL_at hm xs.length (Nat.le_refl _) i hi
        rw [e, Int.toNat_natCast] at this
        rw [this]; omega)
      have HIN := Lib.hid (fun w hv hhi => inverseI A1 xs xs.length lo hi w hv hhi hm)
      rw [hm] at HM
      rw [hc] at HC
      clear hm hc
      generalize ivL xs xs.length = iv at *
      have HLM := Lib.hid (fun k (hk : k ≤ xs.length) => ppM_le (iv := iv) (n := xs.length) (fun k h => (HIV.out k h).2) k hk)
      go_enter Try.func39, Try.ntmps39
      go_wp2_with fail
      (with_reducible refine HM.out.mono ?_)
      rintro e w1 ⟨rfl, hb⟩
      have HB1 := Lib.hid hb
      have z1 := hb.size
      have HV1 := Lib.hid (HV.out.keep hb hhi)
      clear hb
      go_wp2_with fail
      (with_reducible refine (HC.out _ HV1.out (by omega)).mono ?_)
      rintro e w2 ⟨rfl, hb⟩
      have HB2 := Lib.hid (HB1.out.trans (hb.mono z1))
      have z2 := hb.size
      have HV2 := Lib.hid (HV1.out.keep hb (by omega))
      clear hb
      have HBF := Lib.hid (Lib.IsBuilderF.of (Lib.fresh_isBuilder 58 5 w2))
      have HBA := Lib.hid ((Below.refl w2.heap.size w2).alloc (Nat.le_refl _) (.cells #[.pointer none, .slice none 0 0] 58))
      have HV3 := Lib.hid (HV2.out.keep HBA.out (by omega))
      have z3 : (w2.alloc (.cells #[.pointer none, .slice none 0 0] 58)).heap.size = w2.heap.size + 1 := by simp
      go_wp2_with fail
      obtain ⟨w3, hw3⟩ : ∃ w3, w3 = w2.alloc (.cells #[.pointer none, .slice none 0 0] 58) := ⟨_, rfl⟩
      rw [← hw3] at HBF HBA HV3 z3
      (with_reducible refine (HIN.out _ (by rw [← hw3]; exact HV3.out) (by rw [← hw3]; omega)).mono ?_)
      rw [← hw3]
      clear hw3
      rintro e w4 ⟨v4, rfl, ho, hb⟩
      obtain ⟨A4, c4, rfl, -⟩ := id ho
      have z4 := hb.size
      have HBF4 := Lib.hid (bldKeep HBF.out hb)
      have HB4 := Lib.hid (HBA.out.trans (hb.mono (by omega)))
      have HO4 := Lib.hid ho
      rw [hivl] at HO4
      rw [hivl]
      clear hb ho
      go_wp2
      go_loopw [5, 18] (fun x5 x18 wr => ∃ k : Nat, k ≤ xs.length ∧ x18 = .int .i64 k ∧ x5 = .int .i64 (ppM iv k : Nat) ∧ Lib.IsBuilderF 58 5 w2.heap.size w2.heap.size (Lib.byteCells (ppW iv k)) wr ∧ OwnI wr w3.heap.size w4.heap.size (.slice A4 xs.length c4) iv ∧ w2.heap.size ≤ wr.heap.size ∧ Below w2.heap.size w2 wr) (fun _ x18 _ => xs.length - (intOf x18).toNat)
      case atStart => exact ⟨0, Nat.zero_le _, rfl, rfl, HBF4.out, HO4.out, by omega, HB4.out⟩
      case round =>
        obtain ⟨k, hk, rfl, rfl, hbd, ho, hsz, hb⟩ := hrel
        have HBD := Lib.hid hbd
        have HOW := Lib.hid ho
        have HB := Lib.hid hb
        clear hbd ho hb HBF4 HB4 HO4
        by_cases hlt : k < xs.length
        · obtain ⟨g, p, e1, -, -, hc1, -⟩ := HOW.out.cell (j := k) (by rw [hivl]; exact hlt)
          rw [hivl] at e1
          simp only [Value.slice.injEq] at e1
          obtain ⟨rfl, -, -⟩ := e1
          have hki : (k : Int) < (xs.length : Int) := by omega
          obtain ⟨y0, y1⟩ := HIV.out k hlt
          have HM1 := Lib.hid (show ppM iv (k + 1) = max (ppM iv k) ((iv.getD k 0).toNat + 1) from rfl)
          have HW1 := Lib.hid (show ppW iv (k + 1) = ppW iv k ++ List.replicate (ppM iv (k + 1) - ppM iv k) 117 ++ [100] from rfl)
          have hwl := ppW_len iv k
          have hm8 := HLM.out (k + 1) hlt
          have hm0 := HLM.out k hk
          obtain ⟨q, hq⟩ : ∃ q : Nat, iv.getD k 0 = q := ⟨(iv.getD k 0).toNat, by omega⟩
          rw [hq] at hc1 y0 y1 HM1
          rw [Int.toNat_natCast] at HM1
          clear hq
          generalize ppM iv k = m0 at *
          generalize hgm : ppM iv (k + 1) = m1 at *
          have HGM := Lib.hid hgm
          clear hgm
          generalize ppW iv k = W0 at *
          have hmm := HM1.out
          go_wp2
          go_loopw [5] (fun x5 wr => ∃ m : Nat, m0 ≤ m ∧ m ≤ m1 ∧ x5 = .int .i64 m ∧ Lib.IsBuilderF 58 5 w2.heap.size w2.heap.size (Lib.byteCells (W0 ++ List.replicate (m - m0) 117)) wr ∧ OwnI wr w3.heap.size w4.heap.size (.slice (some ⟨g, 0, none⟩) xs.length c4) iv ∧ w2.heap.size ≤ wr.heap.size ∧ Below w2.heap.size w2 wr) (fun x5 _ => m1 - (intOf x5).toNat)
          case atStart => exact ⟨m0, Nat.le_refl _, by omega, rfl, by rw [Nat.sub_self, List.replicate_zero, List.append_nil]; exact HBD.out, HOW.out, hsz, HB.out⟩
          case round =>
            obtain ⟨m, h0m, hm1, rfl, hbd, ho, hsz, hb⟩ := hrel
            have HBD := Lib.hid hbd
            have HOW := Lib.hid ho
            have HB := Lib.hid hb
            clear hbd ho hb
            by_cases hmq : m ≤ q
            · have hmqi : (m : Int) ≤ (q : Int) := by omega
              have HRE := Lib.hid (show (W0 ++ List.replicate (m - m0) 117) ++ [117] = W0 ++ List.replicate (m + 1 - m0) (117 : UInt8) by rw [show m + 1 - m0 = (m - m0) + 1 by omega, List.replicate_succ', List.append_assoc])
              go_wp2_with fail
              refine (writeByte w2.heap.size w2.heap.size _ 117 _ HBD.out (by rw [Lib.byteCells_length, List.length_append, List.length_replicate]; omega) hsz).mono ?_
              rintro e w5 ⟨rfl, h1, b1, k1⟩
              have z5 := b1.size
              go_wp2
              refine ⟨⟨m + 1, by omega, by omega, by simp, ?_, HOW.out.others k1 (by omega), by omega, HB.out.trans b1⟩, by simp [intOf]; omega⟩
              rw [← HRE.out, Lib.byteCells_append]
              exact Or.inr h1
            · have hmqi : ¬ (m : Int) ≤ (q : Int) := by omega
              obtain rfl : m = m1 := by omega
              go_wp2_with fail
              refine (writeByte w2.heap.size w2.heap.size _ 100 _ HBD.out (by rw [Lib.byteCells_length, List.length_append, List.length_replicate]; omega) hsz).mono ?_
              rintro e w5 ⟨rfl, h1, b1, k1⟩
              have z5 := b1.size
              go_wp2
              refine ⟨⟨k + 1, by omega, by simp, by rw [HGM.out]; congr 1; omega, ?_, HOW.out.others k1 (by omega), by omega, HB.out.trans b1⟩, by simp [intOf]; omega⟩
              rw [HW1.out, Lib.byteCells_append]
              exact Or.inr h1
        · obtain rfl : k = xs.length := by omega
          go_wp2_with fail
          refine (Try.Builder_String_any_k w2.heap.size w2.heap.size (ppW iv xs.length) _ HBD.out hsz).mono ?_
          rintro e w5 ⟨rfl, -, b1, -⟩
          go_wp2
          go_ret2
          exact ⟨ret_sb HP.out.symm HO.out.symm, HB2.out.trans ((HB.out.trans b1).mono (by omega))⟩
    · have HO := Lib.hid (show popOk xs = false by unfold popOk; rw [hm, hc]; rfl)
      have HP := Lib.hid (pop_no HO.out)
      rw [hm] at HM
      rw [hc] at HC
      clear hm hc
      go_enter Try.func39, Try.ntmps39
      go_wp2_with fail
      (with_reducible refine HM.out.mono ?_)
      rintro e w1 ⟨rfl, hb⟩
      have HB1 := Lib.hid hb
      have z1 := hb.size
      have HV1 := Lib.hid (HV.out.keep hb hhi)
      clear hb
      go_wp2_with fail
      (with_reducible refine (HC.out _ HV1.out (by omega)).mono ?_)
      rintro e w2 ⟨rfl, hb⟩
      have HB2 := Lib.hid (HB1.out.trans (hb.mono z1))
      clear hb
      go_wp2
      go_ret2
      exact ⟨ret_sb HP.out.symm HO.out.symm, HB2.out⟩

end Go.Proofs.Ytgeppabpkbepdaa
