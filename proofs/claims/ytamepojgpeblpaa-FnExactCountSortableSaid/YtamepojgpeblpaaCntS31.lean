/- The contract of the model's CountSortable. -/
import Derived.Test.YtamepojgpeblpaaAllS31
namespace Go.Proofs.Ytamepojgpeblpaa
open Go.ChangeShapes Go.WideShapes Go.ChangeAt Go.RowKit
set_option linter.unusedVariables false

set_option maxRecDepth 100000 in
set_option maxHeartbeats 3200000 in
theorem countSortable (n m : Int) (w : World) : Calls Try.prog 30 #[.int .i64 n, .int .i64 m] w fun e w' => e = .returned (.int .i64 (csP n m)) ∧ Below w.heap.size w w' := by
  by_cases h : 0 ≤ n ∧ n ≤ 5 ∧ 0 ≤ m ∧ m ≤ 5
  · have HP := Lib.hid (show csP n m = (cnS (pmLs n.toNat) m (pmLs n.toNat).length : Int) from if_pos (decide_eq_true h))
    obtain ⟨a, rfl⟩ : ∃ a : Nat, n = (a : Int) := ⟨n.toNat, by omega⟩
    rw [Int.toNat_natCast] at HP
    have ha5 : a ≤ 5 := by omega
    have HA := Lib.hid (show ∀ W : World, w.heap.size ≤ W.heap.size → Calls Try.prog 60 #[.int .i64 (a : Int), .slice (some ⟨w.heap.size, 0, none⟩) 0 0] W fun e w' => ∃ v' vs, e = .returned v' ∧ TbX w' W.heap.size w.heap.size v' vs (pmLs a) ∧ Below W.heap.size W w' from fun W hW => l10All a ha5 a [] (by simp) _ w.heap.size w.heap.size W ⟨_, _, rfl, .inl rfl⟩ hW hW)
    obtain ⟨f1, f2, f3⟩ := al_first a (by omega)
    have HLE := Lib.hid (al_len a (by omega))
    have HCN := Lib.hid (fun k => cnS_le (pmLs a) m k)
    have HCS := Lib.hid (fun k => show cnS (pmLs a) m (k + 1) = cnS (pmLs a) m k + if passP ((pmLs a).getD k []) ≤ m then 1 else 0 from rfl)
    clear f1
    generalize pmLs a = L at *
    have hm0 : 0 ≤ m := by omega
    have hm5 : m ≤ 5 := by omega
    clear h
    go_enter Try.func30, Try.ntmps30
    go_wp2_with fail
    (with_reducible refine (l1In_yes _ _ _ _ (by omega) (by omega)).mono ?_)
    rintro e w0 ⟨rfl, rfl⟩
    go_wp2_with fail
    (with_reducible refine (l1In_yes _ _ _ _ hm0 hm5).mono ?_)
    rintro e w0 ⟨rfl, rfl⟩
    go_wp2_with fail
    (with_reducible refine (HA.out _ (by simp)).mono ?_)
    rintro e w1 ⟨v1, vs, rfl, ht, hb⟩
    obtain ⟨o, cap, rfl, ho1, ho2, -⟩ := ht.cell f2
    have HT := Lib.hid ht
    have HB1 := Lib.hid (show Below w.heap.size w w1 from ((Below.refl w.heap.size w).alloc (Nat.le_refl _) _).trans (hb.mono (by simp)))
    have hz1 := HB1.out.size
    clear ht hb
    go_wp2
    go_loopw [6, 7] (fun x6 x7 wr => ∃ k : Nat, x7 = .int .i64 (k : Int) ∧ x6 = .int .i64 (cnS L m k : Int) ∧ k ≤ L.length ∧ TbX wr (w.alloc (.cells #[] 3)).heap.size w.heap.size (.slice (some ⟨o, 0, none⟩) L.length cap) vs L ∧ Below w.heap.size w wr) (fun _ x7 _ => L.length - (intOf x7).toNat)
    case atStart => exact ⟨0, rfl, rfl, Nat.zero_le _, HT.out, HB1.out⟩
    case round =>
      obtain ⟨k, rfl, rfl, hk, ht, hb⟩ := hrel
      have HT2 := Lib.hid ht
      have HB := Lib.hid hb
      have hzB := hb.size
      clear ht hb
      by_cases hlt : k < L.length
      · have hki : (k : Int) < (L.length : Int) := by omega
        obtain ⟨o2, c2, e2, -, -, hc⟩ := HT2.out.cell hlt
        simp only [Value.slice.injEq, Option.some.injEq, Addr.mk.injEq] at e2
        obtain ⟨⟨rfl, -⟩, -, rfl⟩ := e2
        have HR := Lib.hid (HT2.out.row k hlt)
        have hl := HLE.out k hlt
        generalize vs.getD k nilX = rv at *
        have HS := Lib.hid (HCS.out k)
        have hc1 := HCN.out k
        have HPA := Lib.hid (passesOf rv (L.getD k []) _ _ wr HR.out (Nat.le_refl _) (by omega))
        generalize passP (L.getD k []) = z at *
        by_cases hle : z ≤ m
        · have HS1 := Lib.hid (show ((cnS L m (k + 1) : Nat) : Int) = (cnS L m k : Int) + 1 by rw [HS.out, if_pos hle]; omega)
          go_wp2_with fail
          (with_reducible refine HPA.out.mono ?_)
          rintro e w2 ⟨rfl, hb2⟩
          have HB2 := Lib.hid (HB.out.trans (hb2.mono hzB))
          have HT3 := Lib.hid (HT2.out.below hb2)
          clear hb2
          go_wp2
          go_roundw
          case rel => exact ⟨k + 1, by simp, by rw [HS1.out], by omega, HT3.out, HB2.out⟩
          case measure => simp [intOf]; omega
        · have HS1 := Lib.hid (show ((cnS L m (k + 1) : Nat) : Int) = (cnS L m k : Int) by rw [HS.out, if_neg hle]; omega)
          go_wp2_with fail
          (with_reducible refine HPA.out.mono ?_)
          rintro e w2 ⟨rfl, hb2⟩
          have HB2 := Lib.hid (HB.out.trans (hb2.mono hzB))
          have HT3 := Lib.hid (HT2.out.below hb2)
          clear hb2
          go_wp2
          go_roundw
          case rel => exact ⟨k + 1, by simp, by rw [HS1.out], by omega, HT3.out, HB2.out⟩
          case measure => simp [intOf]; omega
      · obtain rfl : k = L.length := by omega
        go_wp2
        go_ret
        exact ⟨ret_int31 HP.out.symm, HB.out⟩
  · have HP := Lib.hid (show csP n m = -1 from if_neg (by unfold csOk; rw [decide_eq_false h]; decide))
    by_cases h1 : n < 0
    · clear h
      go_enter Try.func30, Try.ntmps30
      go_wp2_with fail
      (with_reducible refine (l1In_no1 _ _ _ _ h1).mono ?_)
      rintro e w0 ⟨rfl, rfl⟩
      go_wp2
      go_ret
      exact ⟨ret_int31 HP.out.symm, Below.refl _ _⟩
    · by_cases h2 : 5 < n
      · clear h
        go_enter Try.func30, Try.ntmps30
        go_wp2_with fail
        (with_reducible refine (l1In_no2 _ _ _ _ (by omega) h2).mono ?_)
        rintro e w0 ⟨rfl, rfl⟩
        go_wp2
        go_ret
        exact ⟨ret_int31 HP.out.symm, Below.refl _ _⟩
      · by_cases h3 : m < 0
        · clear h
          go_enter Try.func30, Try.ntmps30
          go_wp2_with fail
          (with_reducible refine (l1In_yes _ _ _ _ (by omega) (by omega)).mono ?_)
          rintro e w0 ⟨rfl, rfl⟩
          go_wp2_with fail
          (with_reducible refine (l1In_no1 _ _ _ _ h3).mono ?_)
          rintro e w0 ⟨rfl, rfl⟩
          go_wp2
          go_ret
          exact ⟨ret_int31 HP.out.symm, Below.refl _ _⟩
        · have h4 : 5 < m := by omega
          clear h
          go_enter Try.func30, Try.ntmps30
          go_wp2_with fail
          (with_reducible refine (l1In_yes _ _ _ _ (by omega) (by omega)).mono ?_)
          rintro e w0 ⟨rfl, rfl⟩
          go_wp2_with fail
          (with_reducible refine (l1In_no2 _ _ _ _ (by omega) h4).mono ?_)
          rintro e w0 ⟨rfl, rfl⟩
          go_wp2
          go_ret
          exact ⟨ret_int31 HP.out.symm, Below.refl _ _⟩

end Go.Proofs.Ytamepojgpeblpaa
