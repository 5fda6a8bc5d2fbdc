/- The model's TableauOf. -/
import Derived.Test.YtefbbkogfoongaaFact11
import Derived.Test.YtefbbkogfoongaaTblTwo
import Derived.BigQuiet
namespace Go.Proofs.Ytefbbkogfoongaa
open Go.ChangeShapes Go.WideShapes Go.ChangeAt Go.RowKit
open Go.PlainAid (bt bt_nonneg bt_le get_bt)
set_option linter.unusedVariables false

set_option maxRecDepth 100000 in
set_option maxHeartbeats 3200000 in
theorem tableauOf (s : ByteArray) (w : World) (hs : s.size ≤ 1099511627776) : Calls Try.prog 36 #[.string s] w fun e w' => ∃ v vs, e = .returned (.tuple #[v, .bool (dyck s)]) ∧ Tb w' w.heap.size v vs (tabP s) ∧ Below w.heap.size w w' := by
  have HST := Lib.hid (show ((w.alloc (.cells #[] 3)).alloc (.cells #[] 3)).ownsRow w.heap.size 3 1 (.slice (some ⟨w.heap.size, 0, none⟩) 0 0) 0 (([] : List Int).map (Value.int .i64)) ∧ ((w.alloc (.cells #[] 3)).alloc (.cells #[] 3)).ownsRow w.heap.size 3 1 (.slice (some ⟨w.heap.size + 1, 0, none⟩) 0 0) 0 (([] : List Int).map (Value.int .i64)) ∧ Below w.heap.size w ((w.alloc (.cells #[] 3)).alloc (.cells #[] 3)) by
    refine ⟨(World.ownsRow_made w #[] 0 (Nat.le_refl _) (Nat.zero_le _) (by simp) : (w.alloc (.cells #[] 3)).ownsRow w.heap.size 3 1 (.slice (some ⟨w.heap.size, 0, none⟩) 0 0) 0 (([] : List Int).map (Value.int .i64))).alloc _, ?_, ((Below.refl _ w).alloc (Nat.le_refl _) _).alloc (by simp) _⟩
    have h : ((w.alloc (.cells #[] 3)).alloc (.cells #[] 3)).ownsRow w.heap.size 3 1 (.slice (some ⟨(w.alloc (.cells #[] 3)).heap.size, 0, none⟩) 0 0) 0 (([] : List Int).map (Value.int .i64)) := World.ownsRow_made (w.alloc (.cells #[] 3)) #[] 0 (by simp) (Nat.zero_le _) (by simp)
    rwa [show (w.alloc (.cells #[] 3)).heap.size = w.heap.size + 1 by simp] at h)
  rcases hd : dyck s with _ | _
  · have HP := Lib.hid (show tabP s = [] from if_neg (by simp [hd]))
    have HD := Lib.hid hd
    have h0 : 0 < s.size := by
      rcases Nat.eq_zero_or_pos s.size with h | h
      · have e : s = ⟨#[]⟩ := by
          apply str_ext (by rw [h]; rfl)
          intro k hk; omega
        rw [e] at hd; simp [dyck, df_nil] at hd; exact absurd hd (by decide)
      · exact h
    have h0i : (0 : Int) < (s.size : Int) := by omega
    clear hd
    go_enter Try.func36, Try.ntmps36
    go_wp2
    refine wp_loop_rounds 1 ?_
    rw [rounds_succ]
    go_wp2_with fail
    (with_reducible refine (isDyck_no s _ hs HD.out).mono ?_)
    rintro e w' ⟨rfl, rfl⟩
    go_wp2_with fail
    (with_reducible refine (isDyck_no s _ hs HD.out).mono ?_)
    rintro e w' ⟨rfl, rfl⟩
    go_wp2
    go_ret2
    exact ⟨_, _, rfl, by rw [HP.out]; have h := Tb.made ((w.alloc (.cells #[] 3)).alloc (.cells #[] 3)) w.heap.size (by simp; omega); rw [show ((w.alloc (.cells #[] 3)).alloc (.cells #[] 3)).heap.size = w.heap.size + 1 + 1 by simp] at h; exact h, HST.out.2.2.alloc (by simp; omega) _⟩
  · have HP := Lib.hid (show tabP s = [plU s s.size, plD s s.size] from if_pos hd)
    have HD := Lib.hid hd
    have h16 := dyck_size hd
    clear hd
    go_enter Try.func36, Try.ntmps36
    go_wp2
    go_loopw [4, 5, 6] (fun a b x wr => ∃ i : Nat, i ≤ s.size ∧ x = .int .i64 i ∧ wr.ownsRow w.heap.size 3 1 a (plU s i).length ((plU s i).map (Value.int .i64)) ∧ wr.ownsRow w.heap.size 3 1 b (plD s i).length ((plD s i).map (Value.int .i64)) ∧ (a.ownBlock = none ∨ a.ownBlock ≠ b.ownBlock) ∧ w.heap.size + 2 ≤ wr.heap.size ∧ Below w.heap.size w wr) (fun _ _ x _ => s.size - (intOf x).toNat)
    case atStart => exact ⟨0, Nat.zero_le _, rfl, HST.out.1, HST.out.2.1, .inr (by simp [Value.ownBlock]), by simp, HST.out.2.2⟩
    case round =>
      obtain ⟨i, hi1, rfl, ha, hbr, hne, hsz, hb⟩ := hrel
      have HA := Lib.hid ha
      have HBR := Lib.hid hbr
      have HNE := Lib.hid hne
      have HB := Lib.hid hb
      clear ha hbr hne hb HST
      by_cases hlt : i < s.size
      · have hbt := get_bt s
        have hji : (i : Int) < (s.size : Int) := by omega
        have hul := plU_len s i
        have hdl := plD_len s i
        have HLA := Lib.hid (fun k (e : u4.ownBlock = some k) => World.ownsRow.lt HA.out k e)
        have HLB := Lib.hid (fun k (e : u5.ownBlock = some k) => World.ownsRow.lt HBR.out k e)
        by_cases e1 : bt s i = 117
        · have b1 : (bt s i == 117) = true := by simp [e1]
          have HU := Lib.hid (show plU s (i + 1) = plU s i ++ [(i : Int) + 1] from if_pos e1)
          have HV := Lib.hid (show plD s (i + 1) = plD s i from if_pos e1)
          clear e1
          generalize plU s i = S at *
          generalize plD s i = T at *
          go_wp2_with fail
          (with_reducible refine (isDyck_yes s _ hs HD.out).mono ?_)
          rintro e w' ⟨rfl, rfl⟩
          go_wp2_with (at_builtin; go_must (refine wpAppIntAt rfl _ _ rfl w.heap.size u4 _ S rfl (World.ownsRow.alloc HA.out _) wr.heap.size _ _ rfl (cell_one _ _ _) (by omega) (by simp; omega) ?_); intro v' w' hown' hg' hat')
          have hz3 := hg'.size
          simp at hz3
          go_roundw
          case rel =>
            refine ⟨i + 1, by omega, by simp, by rw [HU.out]; simpa using hown', by rw [HV.out]; exact (HBR.out.alloc _).kept hg' (sw HNE.out), ?_, by omega, (HB.out.alloc (by omega) _).grown hg' (by simp; omega) (fun k hk => (HLA.out k hk).1)⟩
            rcases hat' with e | e
            · rw [e]; exact HNE.out
            · refine .inr fun e2 => ?_
              rw [e] at e2
              have := (HLB.out _ e2.symm).2
              simp at this
              omega
          case measure => simp [intOf]; omega
        · have b1 : (bt s i == 117) = false := by simp [e1]
          have HU := Lib.hid (show plU s (i + 1) = plU s i from if_neg e1)
          have HV := Lib.hid (show plD s (i + 1) = plD s i ++ [(i : Int) + 1] from if_neg e1)
          clear e1
          generalize plU s i = S at *
          generalize plD s i = T at *
          go_wp2_with fail
          (with_reducible refine (isDyck_yes s _ hs HD.out).mono ?_)
          rintro e w' ⟨rfl, rfl⟩
          go_wp2_with (at_builtin; go_must (refine wpAppIntAt rfl _ _ rfl w.heap.size u5 _ T rfl (World.ownsRow.alloc HBR.out _) wr.heap.size _ _ rfl (cell_one _ _ _) (by omega) (by simp; omega) ?_); intro v' w' hown' hg' hat')
          have hz3 := hg'.size
          simp at hz3
          go_roundw
          case rel =>
            refine ⟨i + 1, by omega, by simp, by rw [HU.out]; exact (HA.out.alloc _).kept hg' HNE.out, by rw [HV.out]; simpa using hown', ?_, by omega, (HB.out.alloc (by omega) _).grown hg' (by simp; omega) (fun k hk => (HLB.out k hk).1)⟩
            rcases hat' with e | e
            · rw [e]; exact HNE.out
            · rcases e3 : u4.ownBlock with _ | k
              · exact .inl rfl
              · refine .inr fun e2 => ?_
                rw [e] at e2
                have := (HLA.out _ e3).2
                simp at e2
                omega
          case measure => simp [intOf]; omega
      · obtain rfl : i = s.size := by omega
        obtain ⟨A1, c1, e1, -⟩ := OwnI.of_row HA.out
        obtain ⟨A2, c2, e2, -⟩ := OwnI.of_row HBR.out
        have HTT := Lib.hid (Tb.two HA.out HBR.out HNE.out (show w.heap.size ≤ wr.heap.size by omega))
        have HB4 := Lib.hid (HB.out.alloc (show w.heap.size ≤ wr.heap.size by omega) (.cells #[u4, u5] 31))
        subst e1 e2
        go_wp2_with fail
        (with_reducible refine (isDyck_yes s _ hs HD.out).mono ?_)
        rintro e w' ⟨rfl, rfl⟩
        go_wp2
        go_ret2
        exact ⟨_, _, rfl, by rw [HP.out]; exact HTT.out, HB4.out⟩

end Go.Proofs.Ytefbbkogfoongaa
