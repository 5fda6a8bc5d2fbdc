/- The contract of the model's OutputOf. -/
import Derived.Test.YtamepojgpeblpaaSpec31B
import Derived.Test.YtamepojgpeblpaaSpec10C
namespace Go.Proofs.Ytamepojgpeblpaa
open Go.ChangeShapes Go.WideShapes Go.ChangeAt Go.RowKit
open Go.PlainAid (bt bt_nonneg bt_le get_bt)
set_option linter.unusedVariables false

theorem outOk_d {s : ByteArray} {xs : List Int} (h : dyck s = false) : outOk s xs = false := by unfold outOk; rw [h]; rfl
theorem outOk_p {s : ByteArray} {xs : List Int} (h : permB xs = false) : outOk s xs = false := by unfold outOk; rw [h, Bool.and_false, Bool.false_and]
theorem outOk_l {s : ByteArray} {xs : List Int} (h : s.size ≠ 2 * xs.length) : outOk s xs = false := by unfold outOk; rw [decide_eq_false h, Bool.and_false]
theorem outOk_y {s : ByteArray} {xs : List Int} (h1 : dyck s = true) (h2 : permB xs = true) (h3 : s.size = 2 * xs.length) : outOk s xs = true := by unfold outOk; rw [h1, h2, decide_eq_true h3]; rfl
theorem outP_no {s : ByteArray} {xs : List Int} (h : outOk s xs = false) : outP s xs = [] := if_neg (by simp [h])
theorem outP_yes {s : ByteArray} {xs : List Int} (h : outOk s xs = true) : outP s xs = tkO xs s s.size := if_pos h

set_option maxRecDepth 100000 in
set_option maxHeartbeats 3200000 in
theorem outputOf (s : ByteArray) (v : Value) (xs : List Int) (lo hi : Nat) (w : World) (hv : OwnI w lo hi v xs) (hhi : hi ≤ w.heap.size) (hs : s.size ≤ 1099511627776) (hl : xs.length ≤ 1048576) :
    Calls Try.prog 24 #[.string s, v] w (AnsIB (outP s xs) (outOk s xs) w) := by
  obtain ⟨A1, c1, rfl, k1⟩ := id hv
  clear k1
  have HV := Lib.hid hv
  have HVA := Lib.hid (hv.keep ((Below.refl w.heap.size w).alloc (Nat.le_refl _) (.cells #[] 3)) hhi)
  have HM := Lib.hid (isPermutation _ xs lo hi _ HVA.out (by omega))
  clear hv
  rcases hd : dyck s with _ | _
  · have HO := Lib.hid (outOk_d (xs := xs) hd)
    have HP := Lib.hid (outP_no HO.out)
    have HD := Lib.hid hd
    clear hd
    go_enter Try.func24, Try.ntmps24
    go_wp2_with fail
    (with_reducible refine (isDyck_no s _ hs HD.out).mono ?_)
    rintro e w' ⟨rfl, rfl⟩
    go_wp2
    go_ret2
    exact ⟨_, ret_ib rfl HO.out.symm, by rw [HP.out]; exact ⟨_, _, rfl, .inl rfl⟩, (Below.refl _ _).alloc (Nat.le_refl _) _⟩
  · have HD := Lib.hid hd
    have h16 := dyck_size hd
    rcases hm : permB xs with _ | _
    · have HO := Lib.hid (outOk_p (s := s) hm)
      have HP := Lib.hid (outP_no HO.out)
      rw [hm] at HM
      clear hd hm
      go_enter Try.func24, Try.ntmps24
      go_wp2_with fail
      (with_reducible refine (isDyck_yes s _ hs HD.out).mono ?_)
      rintro e w' ⟨rfl, rfl⟩
      go_wp2_with fail
      (with_reducible refine HM.out.mono ?_)
      rintro e w' ⟨rfl, q0, rfl⟩
      go_wp2
      go_ret2
      exact ⟨_, ret_ib rfl HO.out.symm, by rw [HP.out]; exact ⟨_, _, rfl, .inl rfl⟩, below_drewN ((Below.refl w.heap.size w).alloc (Nat.le_refl _) _) _⟩
    · have h8 := (perm_yes hm).1
      by_cases hsz : s.size = 2 * xs.length
      · have HO := Lib.hid (outOk_y hd hm hsz)
        have HP := Lib.hid (outP_yes HO.out)
        have HSZ := Lib.hid hsz
        have hne : ((s.size : Int) != 2 * (xs.length : Int)) = false := by rw [hsz]; simp
        rw [hm] at HM
        clear hd hm hsz
        go_enter Try.func24, Try.ntmps24
        go_wp2_with fail
        (with_reducible refine (isDyck_yes s _ hs HD.out).mono ?_)
        rintro e w' ⟨rfl, rfl⟩
        go_wp2_with fail
        (with_reducible refine HM.out.mono ?_)
        rintro e w' ⟨rfl, q0, rfl⟩
        go_wp2
        go_loopw [6, 7, 8, 9] (fun x6 x7 x8 x9 wr => ∃ i : Nat, i ≤ s.size ∧ x9 = .int .i64 i ∧ x8 = .int .i64 (psN s i : Nat) ∧ RowN wr w.heap.size x6 (tkO xs s i) ∧ RowN wr w.heap.size x7 (tkS xs s i) ∧ Apt x6 x7 ∧ w.heap.size ≤ wr.heap.size ∧ Below w.heap.size w wr) (fun _ _ _ x9 _ => s.size - (intOf x9).toNat)
        case atStart => exact ⟨0, Nat.zero_le _, rfl, rfl, (RowN.made w _ _ rfl (Nat.le_refl _)).allocN _, RowN.made (w.alloc _) _ _ (by simp) (by omega), by intro k e e2; simp [Value.ownBlock] at e e2; omega, by simp; omega, (below_drewN ((Below.refl w.heap.size w).alloc (Nat.le_refl _) _) q0).alloc (by simp) _⟩
        case round =>
          obtain ⟨i, hi1, rfl, rfl, ho, hst, hap, hz, hb⟩ := hrel
          have HRO := Lib.hid ho
          have HRS := Lib.hid hst
          have HAP := Lib.hid hap
          have HB := Lib.hid hb
          have hol := tkO_len xs s i
          clear ho hst hap hb
          by_cases hlt : i < s.size
          · have hbt := get_bt s
            have hji : (i : Int) < (s.size : Int) := by omega
            obtain ⟨r1, r2⟩ := ps_room HD.out (i := i) hi1
            have hsl := tkS_len xs s i
            by_cases e1 : bt s i = 117
            · have b1 : (bt s i == 117) = true := by simp [e1]
              have hlx := ps_lt HD.out hlt e1
              have HSS := Lib.hid (tkS_up xs e1)
              have HSN := Lib.hid (show psN s (i + 1) = psN s i + 1 from if_pos e1)
              have HSO := Lib.hid (show tkO xs s (i + 1) = tkO xs s i from if_pos e1)
              have hn2 : psN s i < xs.length := by have := HSZ.out; omega
              obtain ⟨g1, p1, e2, -, -, hc1, -⟩ := (HV.out.keep HB.out hhi).cell hn2
              simp only [Value.slice.injEq] at e2
              obtain ⟨rfl, -, rfl⟩ := e2
              have hrw := fun k (e : some k = u7.ownBlock) => (World.ownsRow.lt HRS.out k e.symm).1
              have HRW := Lib.hid hrw
              clear e1 hrw hlx
              generalize psN s i = n0 at *
              have hni : (n0 : Int) < (xs.length : Int) := by omega
              generalize xs.getD n0 0 = y at *
              generalize tkS xs s i = S at *
              generalize tkO xs s i = O at *
              go_wp2_with (at_builtin; go_must (refine wpAppIntAt rfl _ _ rfl w.heap.size u7 _ S rfl (HRS.out.allocN _) _ _ y rfl (cell_one wr _ _) (by omega) (by simp; omega) ?_); intro v' w' hown' hg' hat'; go_must (have HT := Lib.hid (RowN.two (w := wr.alloc (.cells #[.int .i64 y] 3)) (w' := w') (HRO.out.allocN _) HAP.out hg' hat')))
              have hz3 := hg'.size
              simp only [World.size_alloc] at hz3
              go_roundw
              case rel => exact ⟨i + 1, by omega, by simp, by rw [HSN.out]; simp, by rw [HSO.out]; exact HT.out.1, by rw [HSS.out]; exact RowN.of_app hown', HT.out.2, by omega, (HB.out.alloc hz _).grown hg' (by simp <;> omega) (fun k hk => by have := HRW.out k hk.symm; omega)⟩
              case measure => simp [intOf]; omega
            · have b1 : (bt s i == 117) = false := by simp [e1]
              obtain ⟨t1, t2, t3, t4, t5, t6⟩ := ps_top HD.out hlt e1
              have HSS := Lib.hid (tkS_down xs e1)
              have HSN := Lib.hid (show psN s (i + 1) = psN s i from if_neg e1)
              have HSO := Lib.hid (show tkO xs s (i + 1) = tkO xs s i ++ [xs.getD (psT s i) 0] from if_neg e1)
              have htop := tkS_top xs s i t1
              obtain ⟨A2, cap, e2, hA⟩ := HRS.out.form
              subst e2
              obtain ⟨g2, rfl, hg2, hg3, hcp⟩ := hA (by omega)
              obtain ⟨hc, hf⟩ := HRS.out.cell (j := (tkS xs s i).length - 1) (by omega)
              rw [htop] at hc
              have HCUT := Lib.hid HRS.out.cut
              rw [← HSS.out] at HCUT
              have hrw := fun k (e : some k = u6.ownBlock) => (World.ownsRow.lt HRO.out k e.symm).1
              have HRW := Lib.hid hrw
              clear HRS e1 t3 hA htop hrw
              generalize xs.getD (psT s i) 0 = z at *
              generalize tkO xs s i = O at *
              generalize psN s i = n0 at *
              generalize hT : tkS xs s (i + 1) = T at *
              have HTT := Lib.hid hT
              clear hT
              have hLL : (tkS xs s i).length ≤ 8 := by omega
              have hL1 : 1 ≤ (tkS xs s i).length := by omega
              clear hsl
              generalize (tkS xs s i).length = L at *
              obtain ⟨l, hl2⟩ : ∃ l, l = L - 1 := ⟨_, rfl⟩
              rw [← hl2] at hc hf HCUT
              have hli : (L : Int) - 1 = (l : Int) := by omega
              have hlL : (l : Int) < (L : Int) := by omega
              have hlc : (l : Int) ≤ (cap : Int) := by omega
              have HL := Lib.hid hl2
              clear hl2
              go_wp2_with (at_builtin; go_must (refine wpAppIntAt rfl _ _ rfl w.heap.size u6 _ O rfl (HRO.out.allocN _) _ _ z rfl (cell_one wr _ _) (by omega) (by simp; omega) ?_); intro v' w' hown' hg' hat'; go_must (have HT := Lib.hid (RowN.two (w := wr.alloc (.cells #[.int .i64 z] 3)) (w' := w') (HCUT.out.allocN _) HAP.out.cut.symm hg' hat')))
              have hz3 := hg'.size
              simp only [World.size_alloc] at hz3
              go_roundw
              case rel => exact ⟨i + 1, by omega, by simp, by rw [HSN.out], by rw [HSO.out]; exact RowN.of_app hown', by rw [HTT.out]; exact HT.out.1, HT.out.2.symm, by omega, (HB.out.alloc hz _).grown hg' (by simp <;> omega) (fun k hk => by have := HRW.out k hk.symm; omega)⟩
              case measure => simp [intOf]; omega
          · obtain rfl : i = s.size := by omega
            go_wp2
            go_ret2
            exact ⟨_, ret_ib rfl HO.out.symm, by rw [HP.out]; exact OwnI.of_row HRO.out, HB.out⟩
      · have HO := Lib.hid (outOk_l (s := s) (xs := xs) hsz)
        have HP := Lib.hid (outP_no HO.out)
        have hne : ((s.size : Int) != 2 * (xs.length : Int)) = true := by simp; omega
        rw [hm] at HM
        clear hd hm hsz
        go_enter Try.func24, Try.ntmps24
        go_wp2_with fail
        (with_reducible refine (isDyck_yes s _ hs HD.out).mono ?_)
        rintro e w' ⟨rfl, rfl⟩
        go_wp2_with fail
        (with_reducible refine HM.out.mono ?_)
        rintro e w' ⟨rfl, q0, rfl⟩
        go_wp2
        go_ret2
        exact ⟨_, ret_ib rfl HO.out.symm, by rw [HP.out]; exact ⟨_, _, rfl, .inl rfl⟩, below_drewN ((Below.refl w.heap.size w).alloc (Nat.le_refl _) _) _⟩

end Go.Proofs.Ytamepojgpeblpaa
