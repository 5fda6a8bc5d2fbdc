/- The contracts of the model's IsSortable, PassesOf, BubbleOnce, PatternOf231. -/
import Derived.Test.YtamepojgpeblpaaSpec31A
import Derived.Test.YtamepojgpeblpaaCopy31
import Derived.Test.YtamepojgpeblpaaFact31B
namespace Go.Proofs.Ytamepojgpeblpaa
open Go.ChangeShapes Go.WideShapes Go.ChangeAt Go.RowKit
set_option linter.unusedVariables false

theorem ret_int31 {a b : Int} (h : a = b) : Ending.returned (.int .i64 a) = .returned (.int .i64 b) := by rw [h]

set_option maxRecDepth 100000 in
set_option maxHeartbeats 1600000 in
theorem isSortable (v : Value) (xs : List Int) (lo hi : Nat) (w : World) (hv : OwnI w lo hi v xs) (hhi : hi ≤ w.heap.size) (hl : xs.length ≤ 1048576) :
    Calls Try.prog 20 #[v] w fun e w' => e = .returned (.bool (sortB xs)) ∧ Below w.heap.size w w' := by
  have HV := Lib.hid hv
  have HM := Lib.hid (isPermutation _ xs lo hi w hv (by omega))
  have HVD := Lib.hid (fun q => show OwnI (w.drewN q) lo hi v xs from HV.out)
  have HHI := Lib.hid (fun q => show hi ≤ (w.drewN q).heap.size from hhi)
  clear hv
  rcases hm : permB xs with _ | _
  · have HP := Lib.hid (show sortB xs = false by unfold sortB; rw [hm]; rfl)
    rw [hm] at HM
    clear hm
    go_enter Try.func20, Try.ntmps20
    go_wp2_with fail
    (with_reducible refine HM.out.mono ?_)
    rintro e w' ⟨rfl, q0, rfl⟩
    go_wp2
    go_ret
    exact ⟨ret_bool HP.out.symm, below_drewN (Below.refl _ _) _⟩
  · have HP := Lib.hid (show sortB xs = idP (sortP xs) by unfold sortB; rw [hm]; rfl)
    rw [hm] at HM
    have HSL := Lib.hid (sort_len xs)
    clear hm
    go_enter Try.func20, Try.ntmps20
    go_wp2_with fail
    (with_reducible refine HM.out.mono ?_)
    rintro e w' ⟨rfl, q0, rfl⟩
    go_wp2_with fail
    (with_reducible refine (l31Sort _ xs lo hi _ (HVD.out q0) (HHI.out q0) hl).mono ?_)
    rintro e w2 ⟨v2, rfl, ho, hb⟩
    have HO := Lib.hid ho
    have HB := Lib.hid hb
    clear ho hb
    go_wp2_with fail
    (with_reducible refine (l31Sorted _ (sortP xs) _ _ _ HO.out (by rw [HSL.out]; exact hl)).mono ?_)
    rintro e w3 ⟨rfl, rfl⟩
    go_wp2
    go_ret
    exact ⟨ret_bool HP.out.symm, (below_drewN (Below.refl _ _) q0).trans HB.out⟩

set_option maxRecDepth 100000 in
set_option maxHeartbeats 1600000 in
theorem passesOf (v : Value) (xs : List Int) (lo hi : Nat) (w : World) (hv : OwnI w lo hi v xs) (hhi : hi ≤ w.heap.size) (hl : xs.length ≤ 1048576) :
    Calls Try.prog 22 #[v] w fun e w' => e = .returned (.int .i64 (passP xs)) ∧ Below w.heap.size w w' := by
  obtain ⟨A1, c1, rfl, k1⟩ := id hv
  clear k1
  have HV := Lib.hid hv
  have HM := Lib.hid (isPermutation _ xs lo hi w hv (by omega))
  have HVD := Lib.hid (fun q => show OwnI (w.drewN q) lo hi (.slice A1 xs.length c1) xs from HV.out)
  have HHI := Lib.hid (fun q => show hi ≤ (w.drewN q).heap.size from hhi)
  clear hv
  rcases hm : permB xs with _ | _
  · have HP := Lib.hid (show passP xs = -1 by unfold passP; rw [hm]; rfl)
    rw [hm] at HM
    clear hm
    go_enter Try.func22, Try.ntmps22
    go_wp2_with fail
    (with_reducible refine HM.out.mono ?_)
    rintro e w' ⟨rfl, q0, rfl⟩
    go_wp2
    go_ret
    exact ⟨ret_int31 HP.out.symm, below_drewN (Below.refl _ _) _⟩
  · have HP := Lib.hid (show passP xs = (psK xs : Int) by unfold passP; rw [hm]; rfl)
    have HPM := Lib.hid hm
    have h8 := (perm_yes hm).1
    rw [hm] at HM
    clear hm
    go_enter Try.func22, Try.ntmps22
    go_wp2_with fail
    (with_reducible refine HM.out.mono ?_)
    rintro e w' ⟨rfl, q0, rfl⟩
    go_wp2_with (at_builtin; go_must (refine wpCopy (w := w.drewN q0) rfl _ _ rfl A1 c1 lo hi xs (HVD.out q0) (HHI.out q0) rfl rfl hl ?_); intro g c w1 hr hb)
    have HR0 := Lib.hid (OwnI.of_row hr)
    have HB0 := Lib.hid (show Below w.heap.size w w1 from (below_drewN (Below.refl w.heap.size w) q0).trans hb)
    clear hr hb
    go_loopw [3, 4] (fun x3 x4 wr => ∃ k : Nat, x4 = .int .i64 k ∧ k ≤ xs.length ∧ OwnI wr w.heap.size wr.heap.size x3 (sortI xs k) ∧ Below w.heap.size w wr ∧ ∀ j, j < k → idP (sortI xs j) = false) (fun _ x4 _ => xs.length - (intOf x4).toNat)
    case atStart => exact ⟨0, rfl, Nat.zero_le _, HR0.out, HB0.out, fun j h => absurd h (Nat.not_lt_zero _)⟩
    case round =>
      obtain ⟨k, rfl, hk, ho, hb, hno⟩ := hrel
      have HO := Lib.hid ho
      have HB := Lib.hid hb
      have HNO := Lib.hid hno
      have HSL := Lib.hid (sortI_len xs k)
      clear ho hb hno HR0 HB0
      rcases hid : idP (sortI xs k) with _ | _
      · have HN1 := Lib.hid (show ∀ j, j < k + 1 → idP (sortI xs j) = false from fun j hj => by
          by_cases e : j < k
          · exact HNO.out j e
          · obtain rfl : j = k := by omega
            exact hid)
        have hkl := psK_lt HPM.out HN1.out
        have HI := Lib.hid hid
        clear hid
        go_wp2_with fail
        (with_reducible refine (l31Sorted _ (sortI xs k) _ _ _ HO.out (by rw [HSL.out]; exact hl)).mono ?_)
        rintro e w3 ⟨rfl, rfl⟩
        rw [HI.out]
        go_wp2_with fail
        (with_reducible refine (l31Sort _ (sortI xs k) _ _ _ HO.out (Nat.le_refl _) (by rw [HSL.out]; exact hl)).mono ?_)
        rintro e w3 ⟨v3, rfl, ho3, hb3⟩
        have HO3 := Lib.hid (show OwnI w3 w.heap.size w3.heap.size v3 (sortI xs (k + 1)) from ho3.wide HB.out.size (Nat.le_refl _))
        have HB3 := Lib.hid (HB.out.trans (hb3.mono HB.out.size))
        clear ho3 hb3
        go_wp2
        go_roundw
        case rel => exact ⟨k + 1, by simp, by omega, HO3.out, HB3.out, HN1.out⟩
        case measure => simp [intOf]; omega
      · have HI := Lib.hid hid
        have HE := Lib.hid (psK_eq HPM.out hid HNO.out)
        clear hid
        go_wp2_with fail
        (with_reducible refine (l31Sorted _ (sortI xs k) _ _ _ HO.out (by rw [HSL.out]; exact hl)).mono ?_)
        rintro e w3 ⟨rfl, rfl⟩
        rw [HI.out]
        go_wp2
        go_ret
        exact ⟨ret_int31 (by rw [HP.out, HE.out]), HB.out⟩

set_option maxRecDepth 100000 in
set_option maxHeartbeats 1600000 in
theorem bubbleOnce (v : Value) (xs : List Int) (lo hi : Nat) (w : World) (hv : OwnI w lo hi v xs) (hhi : hi ≤ w.heap.size) (hl : xs.length ≤ 1048576) :
    Calls Try.prog 28 #[v] w (AnsIB (bubP xs) (permB xs) w) := by
  obtain ⟨A1, c1, rfl, k1⟩ := id hv
  clear k1
  have HV := Lib.hid hv
  have HM := Lib.hid (isPermutation _ xs lo hi w hv (by omega))
  have HVD := Lib.hid (fun q => show OwnI (w.drewN q) lo hi (.slice A1 xs.length c1) xs from HV.out)
  have HHI := Lib.hid (fun q => show hi ≤ (w.drewN q).heap.size from hhi)
  clear hv
  rcases hm : permB xs with _ | _
  · have HP := Lib.hid (show bubP xs = [] from if_neg (by simp [hm]))
    rw [hm] at HM
    clear hm
    go_enter Try.func28, Try.ntmps28
    go_wp2_with fail
    (with_reducible refine HM.out.mono ?_)
    rintro e w' ⟨rfl, q0, rfl⟩
    go_wp2
    go_ret2
    exact ⟨_, rfl, by rw [HP.out]; exact ⟨_, _, rfl, .inl rfl⟩, (below_drewN (Below.refl _ _) _).alloc (Nat.le_refl _) _⟩
  · have HP := Lib.hid (show bubP xs = bbL xs (xs.length - 1) from if_pos hm)
    have h8 := (perm_yes hm).1
    rw [hm] at HM
    clear hm
    go_enter Try.func28, Try.ntmps28
    go_wp2_with fail
    (with_reducible refine HM.out.mono ?_)
    rintro e w' ⟨rfl, q0, rfl⟩
    go_wp2_with (at_builtin; go_must (refine wpCopy (w := w.drewN q0) rfl _ _ rfl A1 c1 lo hi xs (HVD.out q0) (HHI.out q0) rfl rfl hl ?_); intro g c w1 hr hb)
    have hgB := hr.lt
    have HR0 := Lib.hid (OwnI.of_row hr)
    have HB0 := Lib.hid (show Below w.heap.size w w1 from (below_drewN (Below.refl w.heap.size w) q0).trans hb)
    simp only [World.heap_drewN] at hgB
    clear hr hb
    go_loopw [5] (fun x5 wr => ∃ k : Nat, x5 = .int .i64 ((k + 1 : Nat) : Int) ∧ (k = 0 ∨ k + 1 ≤ xs.length) ∧ OwnI wr w.heap.size w1.heap.size (.slice (some ⟨g, 0, none⟩) xs.length c) (bbL xs k) ∧ w1.heap.size = wr.heap.size ∧ Below w.heap.size w wr) (fun x5 _ => xs.length - (intOf x5).toNat)
    case atStart => exact ⟨0, rfl, .inl rfl, HR0.out, rfl, HB0.out⟩
    case round =>
      obtain ⟨k, rfl, hk, ho, hsz, hb⟩ := hrel
      have HO := Lib.hid ho
      have HB := Lib.hid hb
      have HZ := Lib.hid hsz
      have HK := Lib.hid hk
      have HBL := Lib.hid (bbL_len xs k)
      have HSS := Lib.hid (show bbL xs (k + 1) = bbS (bbL xs k) k from rfl)
      have hk9 : k ≤ 9 := by omega
      clear ho hb hsz hk HR0 HB0
      by_cases hlt : k + 1 < xs.length
      · obtain ⟨g1, p1, e1, -, -, hc1, hf1⟩ := HO.out.cell (j := k) (by rw [HBL.out]; omega)
        simp only [Value.slice.injEq, Option.some.injEq, Addr.mk.injEq] at e1
        obtain ⟨⟨rfl, -⟩, -, -⟩ := e1
        obtain ⟨g2, p2, e2, -, -, hc2, hf2⟩ := HO.out.cell (j := k + 1) (by rw [HBL.out]; omega)
        simp only [Value.slice.injEq, Option.some.injEq, Addr.mk.injEq] at e2
        obtain ⟨⟨rfl, -⟩, -, -⟩ := e2
        have hii : ((k + 1 : Nat) : Int) < (xs.length : Int) := by omega
        have hkx : (k : Int) < (xs.length : Int) := by omega
        have hk1 : ((k + 1 : Nat) : Int) - 1 = (k : Int) := by omega
        by_cases hd : (bbL xs k).getD (k + 1) 0 < (bbL xs k).getD k 0
        · have HS := Lib.hid (show bbS (bbL xs k) k = ((bbL xs k).set (k + 1) ((bbL xs k).getD k 0)).set k ((bbL xs k).getD (k + 1) 0) from if_pos hd)
          generalize bbL xs k = L at *
          have HG := Lib.hid (fun j y z => show ((L.set (k + 1) y).getD j 0 = if k + 1 = j then y else L.getD j 0) ∧ ((L.set (k + 1) y).set k z).getD j 0 = if k = j then z else (L.set (k + 1) y).getD j 0 from ⟨getD_set L (k + 1) j y (by rw [HBL.out]; omega), getD_set _ k j z (by rw [List.length_set, HBL.out]; omega)⟩)
          generalize L.getD k 0 = a at *
          generalize L.getD (k + 1) 0 = b at *
          have HO1 := Lib.hid (HO.out.set (j := k + 1) (y := a) (ys := L.set (k + 1) a) (by rw [HBL.out]; omega) (by rw [List.length_set]) (by rw [(HG.out (k + 1) a 0).1, if_pos rfl]) (fun i hi hne => by rw [(HG.out i a 0).1, if_neg (by omega)]))
          have HO2 := Lib.hid (HO1.out.set (j := k) (y := b) (ys := (L.set (k + 1) a).set k b) (by rw [List.length_set, HBL.out]; omega) (by rw [List.length_set]) (by rw [(HG.out k a b).2, if_pos rfl]) (fun i hi hne => by rw [(HG.out i a b).2, if_neg (by omega)]))
          go_wp2
          go_quiet (fail)
          go_wp2
          go_roundw
          case rel => exact ⟨k + 1, by simp, by omega, by rw [HSS.out, HS.out]; exact HO2.out, by simpa [World.setCell] using HZ.out, ((below_drewN HB.out nq).setCell (p := ⟨g, k + 1, none⟩) hgB.1 _).setCell (p := ⟨g, k, none⟩) hgB.1 _⟩
          case measure => simp [intOf]; omega
        · have HS := Lib.hid (show bbS (bbL xs k) k = bbL xs k from if_neg hd)
          generalize bbL xs k = L at *
          generalize L.getD k 0 = a at *
          generalize L.getD (k + 1) 0 = b at *
          go_wp2
          go_quiet (fail)
          go_wp2
          go_roundw
          case rel => exact ⟨k + 1, by simp, by omega, by rw [HSS.out, HS.out]; exact HO.out, HZ.out, below_drewN HB.out nq⟩
          case measure => simp [intOf]; omega
      · have hii : ¬ ((k + 1 : Nat) : Int) < (xs.length : Int) := by omega
        have HE := Lib.hid (show xs.length - 1 = k by have := HK.out; omega)
        go_wp2
        go_ret2
        exact ⟨_, rfl, by rw [HP.out, HE.out, ← HZ.out]; exact HO.out, HB.out⟩

end Go.Proofs.Ytamepojgpeblpaa
