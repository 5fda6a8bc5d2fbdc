/- The model's PathOfPermutation. -/
import Derived.Test.YtgeppabpkbepdaaSpec10B
import Derived.Test.YtgeppabpkbepdaaFact10Q
import Derived.Test.YtgeppabpkbepdaaRow10
namespace Go.Proofs.Ytgeppabpkbepdaa
open Go.ChangeShapes Go.WideShapes Go.ChangeAt Go.RowKit
set_option linter.unusedVariables false

theorem popS_no {xs : List Int} (h : popOk xs = false) : popP xs = ⟨#[]⟩ := if_neg (by simp [h])
theorem popS_yes {xs : List Int} (h : popOk xs = true) : popP xs = ⟨(ppW (ivL xs xs.length) xs.length).toArray⟩ := if_pos h
theorem skL_end {xs : List Int} {i c : Nat} (h0 : 0 < (skL xs i c).length) : ∃ T y, skL xs i c = T ++ [y] ∧ y = (skL xs i c).getD ((skL xs i c).length - 1) 0 := by
  rcases List.eq_nil_or_concat (skL xs i c) with e | ⟨T, y, e⟩
  · rw [e] at h0; simp at h0
  · rw [List.concat_eq_append] at e
    refine ⟨T, y, e, ?_⟩
    rw [e]; simp [List.getD]
theorem pkR_len {xs : List Int} {i c : Nat} {V : List UInt8} (h : PkR xs i c V) (hi : i < xs.length) : V.length ≤ 2 * xs.length := by
  have := h.top
  have h2 := ppW_len (ivL xs xs.length) c
  have h3 := h.le
  rw [h.word, List.length_append, List.length_replicate, h2]; omega
theorem pkS_len {xs : List Int} {i c : Nat} {V : List UInt8} (h : PkS xs i c V) (hi : i ≤ xs.length) : V.length ≤ 2 * xs.length := by
  have := h.top
  have h2 := ppW_len (ivL xs xs.length) c
  have h3 := h.le
  rw [h.word, List.length_append, List.length_replicate, h2]; omega

set_option maxRecDepth 100000 in
set_option maxHeartbeats 3200000 in
theorem pathOfPermutation (v : Value) (xs : List Int) (lo hi : Nat) (w : World) (hv : OwnI w lo hi v xs) (hhi : hi ≤ w.heap.size) (hl : xs.length ≤ 1099511627776) :
    Calls Try.prog 34 #[v] w fun e w' => e = .returned (.tuple #[.string (popP xs), .bool (popOk xs)]) ∧ Below w.heap.size w w' := by
  obtain ⟨A1, c1, rfl, k1⟩ := id hv
  clear k1
  have HV := Lib.hid hv
  have HM := Lib.hid (isPermutation _ xs lo hi w hv hl)
  clear hv
  rcases hm : permB xs with _ | _
  · have HO := Lib.hid (show popOk xs = false by unfold popOk; rw [hm]; rfl)
    have HP := Lib.hid (popS_no HO.out)
    rw [hm] at HM
    clear hm
    go_enter Try.func34, Try.ntmps34
    go_wp2_with fail
    (with_reducible refine HM.out.mono ?_)
    rintro e w' ⟨rfl, q0, rfl⟩
    go_wp2
    go_ret2
    exact ⟨ret_sb HP.out.symm HO.out.symm, below_drewN (Below.refl _ _) _⟩
  · have HC := Lib.hid (fun w hv => contains231 (.slice A1 xs.length c1) xs lo hi w hv hl)
    have HVD := Lib.hid (fun q => show OwnI (w.drewN q) lo hi (.slice A1 xs.length c1) xs from HV.out)
    rcases hc : conB r231 xs with _ | _
    · have HO := Lib.hid (show popOk xs = true by unfold popOk; rw [hm, hc]; rfl)
      have HP := Lib.hid (popS_yes HO.out)
      have HPM := Lib.hid hm
      have H231 := Lib.hid (show hasT r231 xs = false by unfold conB at hc; rw [hm, Bool.true_and] at hc; exact hc)
      have h16 := (perm_yes hm).1
      have HST0 := Lib.hid (PkS.start xs hm)
      rw [hm] at HM
      rw [hc] at HC
      clear hm hc
      go_enter Try.func34, Try.ntmps34
      go_wp2_with fail
      (with_reducible refine HM.out.mono ?_)
      rintro e w1 ⟨rfl, q0, rfl⟩
      go_wp2_with fail
      (with_reducible refine (HC.out _ (HVD.out q0)).mono ?_)
      rintro e w2 ⟨rfl, hb⟩
      have HB2 := Lib.hid (show Below w.heap.size w w2 from (below_drewN (Below.refl w.heap.size w) q0).trans hb)
      have z2 := hb.size
      simp only [World.heap_drewN] at z2
      clear hb
      go_wp2
      go_loopw [4, 5, 6, 7] (fun x4 st x6 x7 wr => ∃ (i c : Nat) (W : List UInt8), i ≤ xs.length ∧ x7 = .int .i64 i ∧ x6 = .int .i64 c ∧ x4 = .string ⟨W.toArray⟩ ∧ PkS xs i c W ∧ RowN wr w2.heap.size st (skL xs i c) ∧ w2.heap.size ≤ wr.heap.size ∧ Below w.heap.size w wr) (fun _ _ _ x7 _ => xs.length - (intOf x7).toNat)
      case atStart => exact ⟨0, 0, [], Nat.zero_le _, rfl, rfl, rfl, HST0.out, World.ownsRow_made w2 #[] 0 (Nat.le_refl _) (Nat.zero_le _) (by simp), by simp, HB2.out.alloc z2 _⟩
      case round =>
        obtain ⟨i, c, W, hi1, rfl, rfl, rfl, hp, hst, hsz, hb⟩ := hrel
        have HPK := Lib.hid hp
        have HST := Lib.hid hst
        have HB := Lib.hid hb
        have hWl := pkS_len hp hi1
        have hWs := str_len W
        have hsl := skL_len xs i c
        clear hp hst hb
        by_cases hlt : i < xs.length
        · obtain ⟨g1, p1, e1, -, -, hc1, -⟩ := (HV.out.keep HB.out hhi).cell hlt
          simp only [Value.slice.injEq] at e1
          obtain ⟨rfl, -, rfl⟩ := e1
          have hii : (i : Int) < (xs.length : Int) := by omega
          obtain ⟨hpk, hss⟩ := HPK.out.push hlt
          have HPK1 := Lib.hid hpk
          have HSS := Lib.hid hss
          clear hpk hss
          have hrw := fun k (e : some k = u5.ownBlock) => (World.ownsRow.lt HST.out k e.symm).1
          have HRW := Lib.hid hrw
          clear hrw
          generalize xs.getD i 0 = y at *
          generalize hS : skL xs i c = S at *
          clear hS
          go_wp2_with (at_builtin; go_must (refine wpAppInt rfl _ _ rfl w2.heap.size u5 _ S rfl (World.ownsRow.alloc HST.out _) wr.heap.size _ _ rfl (cell_one _ _ _) (by omega) (by simp; omega) ?_); intro v' w' hown' hg')
          have HST2 := Lib.hid (show RowN w' w2.heap.size v' (skL xs (i + 1) c) by unfold RowN; rw [HSS.out]; simpa using hown')
          have hz3 : w2.heap.size ≤ w'.heap.size := by have := hg'.size; simp at this; omega
          have HB3 := Lib.hid ((HB.out.alloc (by omega) (.cells #[.int .i64 y] 3)).grown hg' (by simp; omega) (fun k hk => by have := HRW.out k hk.symm; omega))
          clear hown' hg' HST HPK HRW
          rw [str_snoc]
          go_loopw [4, 5, 6] (fun x4 st x6 wr => ∃ (c : Nat) (V : List UInt8), x6 = .int .i64 c ∧ x4 = .string ⟨V.toArray⟩ ∧ PkR xs i c V ∧ RowN wr w2.heap.size st (skL xs (i + 1) c) ∧ w2.heap.size ≤ wr.heap.size ∧ Below w.heap.size w wr) (fun _ _ x6 _ => xs.length - (intOf x6).toNat)
          case atStart => exact ⟨c, _, rfl, rfl, HPK1.out, HST2.out, hz3, HB3.out⟩
          case round =>
            obtain ⟨c, V, rfl, rfl, hp, hst, hsz, hb⟩ := hrel
            have HPK := Lib.hid hp
            have HST := Lib.hid hst
            have HB := Lib.hid hb
            have hVl := pkR_len hp hlt
            have hVs := str_len V
            have hsl := skL_len xs (i + 1) c
            have hcx := hp.le
            clear hp hst hb HPK1 HST2 HB3
            obtain ⟨A2, cap, e2, hA⟩ := HST.out.form
            subst e2
            by_cases hL : 0 < (skL xs (i + 1) c).length
            · obtain ⟨g2, rfl, hg2, hg3, hcp⟩ := hA hL
              obtain ⟨T, z, hT, hz⟩ := skL_end hL
              obtain ⟨hc2, hf2⟩ := HST.out.cell (j := (skL xs (i + 1) c).length - 1) (by omega)
              rw [← hz] at hc2
              have HCUT := Lib.hid HST.out.cut
              have HT := Lib.hid hT
              have HLD := Lib.hid (show (skL xs (i + 1) c).dropLast = T by rw [hT, List.dropLast_concat])
              have HLST := Lib.hid (fun hm => HPK.out.last hm)
              have hLi : (0 : Int) < ((skL xs (i + 1) c).length : Int) := by omega
              clear hz hT hA
              by_cases ez : z = (c : Int)
              · subst ez
                obtain ⟨hp2, hs2, hcl⟩ := HPK.out.pop (W := []) HPM.out H231.out hlt HT.out
                have HPK2 := Lib.hid hp2
                have HS2 := Lib.hid hs2
                rw [HLD.out, ← HS2.out] at HCUT
                clear hp2 hs2 HT HLD HLST
                have hcc : ((c : Int) == (c : Int)) = true := by simp
                generalize hS2 : skL xs (i + 1) (c + 1) = S2 at *
                have HSE := Lib.hid hS2
                clear hS2
                generalize (skL xs (i + 1) c).length = L at *
                obtain ⟨l, hl⟩ : ∃ l, l = L - 1 := ⟨_, rfl⟩
                rw [← hl] at hc2 hf2 HCUT
                have hli : (L : Int) - 1 = (l : Int) := by omega
                have hlL : (l : Int) < (L : Int) := by omega
                have hlc : (l : Int) ≤ (cap : Int) := by omega
                have HL := Lib.hid hl
                clear hl
                go_wp2
                refine ⟨⟨c + 1, V ++ [100], by simp, by rw [str_snoc], HPK2.out, by rw [HSE.out]; exact HCUT.out, hsz, HB.out⟩, by simp [intOf]; omega⟩
              · have hcc : (z == (c : Int)) = false := beq_eq_false_iff_ne.2 ez
                have HPS := Lib.hid (HPK.out.stop (fun hm => by
                  obtain ⟨T', e⟩ := HLST.out hm
                  rw [HT.out] at e
                  exact ez (List.singleton_inj.1 (List.append_inj' e rfl).2)))
                clear HT HLD HLST ez HCUT
                generalize hS : skL xs (i + 1) c = S at *
                have HSE := Lib.hid hS
                clear hS
                generalize hLL : S.length = L at *
                have HLL := Lib.hid hLL
                clear hLL
                obtain ⟨l, hl⟩ : ∃ l, l = L - 1 := ⟨_, rfl⟩
                rw [← hl] at hc2 hf2
                have hli : (L : Int) - 1 = (l : Int) := by omega
                have hlL : (l : Int) < (L : Int) := by omega
                have HL := Lib.hid hl
                clear hl
                go_wp2
                refine ⟨⟨i + 1, c, V, by omega, by simp, rfl, rfl, HPS.out, by rw [HSE.out]; exact HST.out, hsz, HB.out⟩, by simp [intOf]; omega⟩
            · have h0 : (skL xs (i + 1) c).length = 0 := by omega
              have HPS := Lib.hid (HPK.out.stop (fun hm => by rw [List.length_eq_zero_iff.1 h0] at hm; simp at hm))
              have hLi : ¬ (0 : Int) < ((skL xs (i + 1) c).length : Int) := by omega
              generalize hS : skL xs (i + 1) c = S at *
              have HSE := Lib.hid hS
              clear hS
              go_wp2
              refine ⟨⟨i + 1, c, V, by omega, by simp, rfl, rfl, HPS.out, by rw [HSE.out]; exact HST.out, hsz, HB.out⟩, by simp [intOf]; omega⟩
        · obtain rfl : i = xs.length := by omega
          have HD := Lib.hid (HPK.out.done HPM.out)
          go_wp2
          go_ret2
          exact ⟨ret_sb (by rw [HP.out, HD.out]) HO.out.symm, HB.out⟩
    · have HO := Lib.hid (show popOk xs = false by unfold popOk; rw [hm, hc]; rfl)
      have HP := Lib.hid (popS_no HO.out)
      rw [hm] at HM
      rw [hc] at HC
      clear hm hc
      go_enter Try.func34, Try.ntmps34
      go_wp2_with fail
      (with_reducible refine HM.out.mono ?_)
      rintro e w1 ⟨rfl, q0, rfl⟩
      go_wp2_with fail
      (with_reducible refine (HC.out _ (HVD.out q0)).mono ?_)
      rintro e w2 ⟨rfl, hb⟩
      have HB2 := Lib.hid (show Below w.heap.size w w2 from (below_drewN (Below.refl w.heap.size w) q0).trans hb)
      clear hb
      go_wp2
      go_ret2
      exact ⟨ret_sb HP.out.symm HO.out.symm, HB2.out⟩

end Go.Proofs.Ytgeppabpkbepdaa
