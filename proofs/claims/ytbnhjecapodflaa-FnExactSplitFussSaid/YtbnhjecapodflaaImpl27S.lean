/- SplitFuss, the program. -/
import Derived.Test.YtbnhjecapodflaaSplit27
import Derived.Test.YtbnhjecapodflaaIter
namespace Go.Proofs.Ytbnhjecapodflaa
open Go.ChangeShapes Go.WideShapes Go.ChangeAt Go.RowKit
open Go.PlainAid (bt bt_nonneg bt_le get_bt bt_end)
set_option linter.unusedVariables false

theorem cell_two (w : World) (o : Obj) (v : Value) : ((w.alloc o).alloc (.cells #[v] 9)).cell? ⟨w.heap.size + 1, 0, none⟩ = some v := by
  have h := cell_one (w.alloc o) v 9
  rwa [show (w.alloc o).heap.size = w.heap.size + 1 by simp] at h
theorem row_bel27 {w w' : World} {base B n : Nat} {v : Value} {xs : List Value} (h : w.ownsRow base 9 1 v n xs) (hb : Below B w w') (hB : w.heap.size ≤ B) : w'.ownsRow base 9 1 v n xs := by
  refine ⟨h.1, ?_⟩
  rcases h.2 with e | ⟨o, cap, cur, e, h1, h2, h3⟩
  · exact .inl e
  · exact .inr ⟨o, cap, cur, e, h1, (hb.block o (by have := (Array.getElem?_eq_some_iff.1 h2).1; omega)).trans h2, h3⟩

set_option maxRecDepth 100000 in
set_option maxHeartbeats 3200000 in
theorem splitFussI (m : Int) (s : ByteArray) (w : World) (hs : s.size ≤ 1048577) : Calls Try.prog 19 #[.int .i64 m, .string s] w (AnsSB (splP m s) (splOk m s) w) := by
  have HF := Lib.hid (isFussI m s w hs)
  rcases hf : fuB m s with _ | _
  · have HO := Lib.hid (show splOk m s = false by unfold splOk; rw [hf]; rfl)
    have HP := Lib.hid (show splP m s = [] from if_neg (by rw [HO.out]; simp))
    rw [hf] at HF
    clear hf
    go_enter Try.func19, Try.ntmps19
    go_wp2_with fail
    (with_reducible refine HF.out.mono ?_)
    rintro e w1 ⟨rfl, hb⟩
    go_wp2
    go_ret2
    exact ⟨_, ret_spl rfl HO.out.symm, by rw [HP.out]; exact ⟨_, _, rfl, .inl rfl⟩, hb⟩
  · rw [hf] at HF
    by_cases h0 : 0 < s.size
    · have HO := Lib.hid (show splOk m s = true by unfold splOk; rw [hf, decide_eq_true h0]; rfl)
      have HP := Lib.hid (show splP m s = spW m s from if_pos HO.out)
      have hw := fz_word hf
      have HW := Lib.hid hw
      have HBD := Lib.hid (stP_bd hw h0)
      have HS1 := Lib.hid (stP_one hw h0)
      have hm1 := hw.m1
      have hm4 := hw.m4
      have h24 := hw.size
      have hne := str_full s h0
      have hwm : IntKind.i64.wrap (m - 1) = m - 1 := IntWalk.i64_in _ (by omega)
      have HA := Lib.hid (fun W => fussAlphabetI m W hm1 hm4)
      have HK := Lib.hid (fun g x W h => kindOfI (fz m) g 2 x W h rfl (by omega))
      have F117 := Lib.hid (show fnd (fz m) 117 = some (117, m - 1, 1) by rw [fnd_fz]; rfl)
      have F100 := Lib.hid (show fnd (fz m) 100 = some (100, -1, 1) by rw [fnd_fz]; rfl)
      clear hf hw
      go_enter Try.func19, Try.ntmps19
      go_wp2_with fail
      (with_reducible refine HF.out.mono ?_)
      rintro e w1 ⟨rfl, hb⟩
      have HB1 := Lib.hid hb
      have z1 := hb.size
      clear hb
      go_wp2
      go_loopw [6, 7, 8, 9] (fun v x y z wr => ∃ (i b : Nat) (h l : Int) (acc : List ByteArray), x = .int .i64 b ∧ y = .int .i64 h ∧ z = .int .i64 l ∧ i ≤ s.size ∧ Hid (stP m s i = (b, l, acc)) ∧ Hid (hG m s i = h) ∧ AtS wr w1.heap.size s i ∧ wr.ownsRow w.heap.size 9 1 v acc.length (acc.map Value.string) ∧ Below w.heap.size w wr) (fun _ _ _ _ wr => s.size - wr.iterPos w1.heap.size)
      case atStart => exact ⟨0, 1, 0, m - 1, [], rfl, rfl, rfl, Nat.zero_le _, Lib.hid rfl, Lib.hid rfl, World.iter_heap w1 s 0, ⟨rfl, .inl ⟨rfl, rfl⟩⟩, HB1.out.alloc z1 _⟩
      case round =>
        obtain ⟨i, b, h, l, acc, rfl, rfl, rfl, hi, HST, HHG, hit, hown, hb⟩ := hrel
        have HIT := Lib.hid hit
        have hB := hb.size
        have hk := hit.lt
        have hbds : 1 ≤ b ∧ (1 ≤ i → b ≤ i) ∧ 0 ≤ l ∧ l ≤ m - 1 ∧ acc.length ≤ i := by
          by_cases e : i = 0
          · subst e
            have := HST.out
            simp only [stP, Prod.mk.injEq] at this
            obtain ⟨rfl, rfl, rfl⟩ := this
            exact ⟨by omega, by omega, by omega, by omega, Nat.le_refl _⟩
          · have := HBD.out i (by omega) hi
            rw [HST.out] at this
            exact ⟨this.1, fun _ => this.2.1, this.2.2.1, this.2.2.2.1, this.2.2.2.2⟩
        obtain ⟨hb1, hbi, hl0, hlm, hal⟩ := hbds
        have hal4 : acc.length ≤ 1099511627776 := by omega
        have hh0 : 0 ≤ h := by rw [← HHG.out]; exact HW.out.nn i hi
        by_cases hlt : i < s.size
        · have hlet : s[i].toNat = 117 ∨ s[i].toNat = 100 := by
            have := HW.out.letter i hlt
            rw [bt_at s i hlt] at this
            omega
          have HNN := Lib.hid (HW.out.nn (i + 1) hlt)
          have hh72 : Hid (h ≤ 3 * (i : Int)) := by
            refine Lib.hid ?_
            rw [← HHG.out]
            clear hlet hit HIT
            have key : ∀ j : Nat, hG m s j ≤ 3 * (j : Int) := by
              intro j
              induction j with
              | zero => simp [hG]
              | succ j ih => rw [hG]; split <;> omega
            exact key i
          have hh73 := hh72.out
          obtain ⟨W, hW⟩ : ∃ W, W = wr.iterAt w1.heap.size s (i + 1) := ⟨_, rfl⟩
          have HIT1 := Lib.hid (show AtS W w1.heap.size s (i + 1) by rw [hW]; exact HIT.out.move)
          have hownW : W.ownsRow w.heap.size 9 1 u6 acc.length (acc.map Value.string) := by rw [hW]; exact own_iterAt hown HIT.out
          have HBW := Lib.hid (show Below w.heap.size w W by rw [hW]; exact Lib.below_iterAt hb z1 _ _)
          have hBW := HBW.out.size
          have HOWN := Lib.hid hownW
          have hzW : Hid (w1.heap.size < W.heap.size) := Lib.hid HIT1.out.lt
          clear hown hb hit hownW
          have his : (i : Int) ≤ (s.size : Int) := by omega
          have hi3 : ((i : Int) + 1).toNat = i + 1 := by omega
          rcases hlet with e1 | e1
          · have hnx := next_letter (P := Try.prog) wr _ s i 117 HIT.out hlt e1 (by omega)
            rw [← hW] at hnx
            have eb : bt s i = 117 := by rw [bt_at s i hlt, e1]; rfl
            have HU := Lib.hid (hG_up (m := m) eb)
            have HNX := Lib.hid (show ¬ hG m s (i + 1) < l → stP m s (i + 1) = (b, l, acc) from fun hn => stP_not HST.out hn)
            have HLW := Lib.hid (show hG m s (i + 1) < l → stP m s (i + 1) = (i + 1, hG m s (i + 1), acc ++ [s.extract b i]) from fun hn => stP_low HST.out hn)
            have HNE := Lib.hid (show hG m s (i + 1) = h + (m - 1) by rw [HU.out, HHG.out])
            rw [HNE.out] at HNX HLW HNN
            have hx1 : IntKind.i64.wrap (h + (m - 1)) = h + (m - 1) := IntWalk.i64_in _ (by omega)
            have HKK := Lib.hid (fun g W h => HK.out g 117 W h)
            rw [F117.out] at HKK
            unfold kdV at HKK
            dsimp only [Option.getD_some, Option.isSome_some] at HKK
            clear e1 eb hW
            go_wp2_with fail
            (with_reducible refine (HA.out _).mono ?_)
            rintro e w2 ⟨rfl, hal2, hb2⟩
            go_wp2_with fail
            (with_reducible refine (HKK.out _ _ ?h).mono ?_)
            case h => exact hal2
            rintro e w3 ⟨rfl, hb3⟩
            have hbb := hb2.trans (hb3.mono hb2.size)
            have HI3 := Lib.hid (show AtS w3 w1.heap.size s (i + 1) from (hbb.block _ hzW.out).trans HIT1.out)
            have HO3 := Lib.hid (row_bel27 HOWN.out hbb (Nat.le_refl _))
            have HB3 := Lib.hid (HBW.out.trans (hbb.mono hBW))
            have hB3 := HB3.out.size
            clear hal2 hb2 hb3 hbb
            by_cases hl : h + (m - 1) < l
            · have hd : decide (h + (m - 1) < l) = true := decide_eq_true hl
              omega
            · have hd : decide (h + (m - 1) < l) = false := decide_eq_false hl
              go_wp2
              go_roundw
              case rel => exact ⟨i + 1, b, h + (m - 1), l, acc, rfl, rfl, rfl, hlt, Lib.hid (HNX.out hl), HNE, HI3.out.alloc _, HO3.out.alloc _, HB3.out.alloc hB3 _⟩
              case measure => rw [(HI3.out.alloc _).pos, HIT.out.pos]; omega
          · have hnx := next_letter (P := Try.prog) wr _ s i 100 HIT.out hlt e1 (by omega)
            rw [← hW] at hnx
            have eb : bt s i = 100 := by rw [bt_at s i hlt, e1]; rfl
            have HU := Lib.hid (hG_down (m := m) eb)
            have HNX := Lib.hid (show ¬ hG m s (i + 1) < l → stP m s (i + 1) = (b, l, acc) from fun hn => stP_not HST.out hn)
            have HLW := Lib.hid (show hG m s (i + 1) < l → stP m s (i + 1) = (i + 1, hG m s (i + 1), acc ++ [s.extract b i]) from fun hn => stP_low HST.out hn)
            have HNE := Lib.hid (show hG m s (i + 1) = h + -1 by rw [HU.out, HHG.out])
            rw [HNE.out] at HNX HLW HNN
            have hpos := HNN.out
            have hi1 : 1 ≤ i := by
              by_cases e : i = 0
              · subst e
                have := HHG.out
                rw [hG] at this
                omega
              · omega
            have hbi2 := hbi hi1
            have hbii : (b : Int) ≤ (i : Int) := by omega
            have hx1 : IntKind.i64.wrap (h + -1) = h + -1 := IntWalk.i64_in _ (by omega)
            have HKK := Lib.hid (fun g W h => HK.out g 100 W h)
            rw [F100.out] at HKK
            unfold kdV at HKK
            dsimp only [Option.getD_some, Option.isSome_some] at HKK
            clear e1 eb hW
            go_wp2_with fail
            (with_reducible refine (HA.out _).mono ?_)
            rintro e w2 ⟨rfl, hal2, hb2⟩
            go_wp2_with fail
            (with_reducible refine (HKK.out _ _ ?h).mono ?_)
            case h => exact hal2
            rintro e w3 ⟨rfl, hb3⟩
            have hbb := hb2.trans (hb3.mono hb2.size)
            have HI3 := Lib.hid (show AtS w3 w1.heap.size s (i + 1) from (hbb.block _ hzW.out).trans HIT1.out)
            have HO3 := Lib.hid (row_bel27 HOWN.out hbb (Nat.le_refl _))
            have HB3 := Lib.hid (HBW.out.trans (hbb.mono hBW))
            have hB3 := HB3.out.size
            clear hal2 hb2 hb3 hbb
            by_cases hl : h + -1 < l
            · have hd : decide (h + -1 < l) = true := decide_eq_true hl
              have HNEI := Lib.hid (own_ne_iter HO3.out HI3.out)
              go_wp2_with (at_builtin; go_must (refine wpAppStr rfl _ _ rfl w.heap.size _ _ _ rfl ((HO3.out.alloc _).alloc _) (w3.heap.size + 1) _ _ rfl (cell_two w3 _ _) hal4 (base_up (base_up hB3)) ?_); intro v' w' hown' hg')
              have HI5 := Lib.hid (((HI3.out.alloc _).alloc _).grown hg' HNEI.out)
              go_roundw
              case rel => exact ⟨i + 1, i + 1, h + -1, h + -1, acc ++ [s.extract b i], by simp, rfl, rfl, hlt, Lib.hid (HLW.out hl), HNE, HI5.out, by simpa using hown', ((HB3.out.alloc hB3 _).alloc (by simp; omega) _).grown hg' (base_up (base_up hB3)) (fun k hk => (HO3.out.lt k hk).1)⟩
              case measure => rw [HI5.out.pos, HIT.out.pos]; omega
            · have hd : decide (h + -1 < l) = false := decide_eq_false hl
              go_wp2
              go_roundw
              case rel => exact ⟨i + 1, b, h + -1, l, acc, rfl, rfl, rfl, hlt, Lib.hid (HNX.out hl), HNE, HI3.out.alloc _, HO3.out.alloc _, HB3.out.alloc hB3 _⟩
              case measure => rw [(HI3.out.alloc _).pos, HIT.out.pos]; omega
        · have hnx := fun ty => Lib.run_next_end_at (P := Try.prog) wr _ s i ty HIT.out hlt
          obtain rfl : i = s.size := by omega
          have hbs := hbi h0
          have hbss : (b : Int) ≤ (s.size : Int) := by omega
          have HFIN := Lib.hid (spW_is HST.out)
          have HOWN := Lib.hid hown
          have HB := Lib.hid hb
          clear hit hown hb
          go_wp2_with (at_builtin; go_must (refine wpAppStr rfl _ _ rfl w.heap.size _ _ _ rfl (HOWN.out.alloc _) wr.heap.size _ _ rfl (cell_one _ _ _) hal4 (base_up hB) ?_); intro v' w' hown' hg')
          go_ret2
          exact ⟨_, ret_spl rfl HO.out.symm, by rw [HP.out, HFIN.out]; exact OwnS.of_row (by simpa using hown'), (HB.out.alloc hB _).grown hg' (base_up hB) (fun k hk => (HOWN.out.lt k hk).1)⟩
    · have HO := Lib.hid (show splOk m s = false by unfold splOk; rw [decide_eq_false h0]; simp)
      have HP := Lib.hid (show splP m s = [] from if_neg (by rw [HO.out]; simp))
      have hne := str_none s (by omega)
      clear hf
      go_enter Try.func19, Try.ntmps19
      go_wp2_with fail
      (with_reducible refine HF.out.mono ?_)
      rintro e w1 ⟨rfl, hb⟩
      go_wp2
      go_ret2
      exact ⟨_, ret_spl rfl HO.out.symm, by rw [HP.out]; exact ⟨_, _, rfl, .inl rfl⟩, hb⟩

end Go.Proofs.Ytbnhjecapodflaa
