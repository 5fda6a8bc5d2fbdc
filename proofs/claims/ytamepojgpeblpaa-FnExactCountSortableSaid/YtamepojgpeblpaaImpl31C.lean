/- The program's IsSortable, PassesOf; slices.IsSorted. -/
import Derived.Test.YtamepojgpeblpaaImpl31B
import Derived.BigQuiet
namespace Go.Proofs.Ytamepojgpeblpaa
open Go.ChangeShapes Go.WideShapes Go.ChangeAt Go.RowKit
set_option linter.unusedVariables false

theorem still_add31s {P : Program} {f : Nat} {args : Array Value} {w : World} {q n : Nat} {v : Value} (h : Calls P f args (w.drewN (q + n)) fun e w' => e = .returned v ∧ w.drewN (q + n) = w') : Calls P f args (w.drewN (q + n)) fun e w' => e = .returned v ∧ ∃ m, w' = w.drewN (q + m) :=
  h.mono fun e w' h => ⟨h.1, n, h.2.symm⟩
theorem ret_int31I {a b : Int} (h : a = b) : Ending.returned (.int .i64 a) = .returned (.int .i64 b) := by rw [h]
theorem isNaN31 (x : Int) (w : World) : Calls Try.prog 70 #[.int .i64 x] w fun e w' => e = .returned (.bool false) ∧ w = w' := by
  have h : (x != x) = false := by simp
  go_enter Try.func70, Try.ntmps70
  go_wp2
  go_ret
  exact ⟨rfl, rfl⟩
theorem less31 (x y : Int) (w : World) : Calls Try.prog 67 #[.int .i64 x, .int .i64 y] w fun e w' => e = .returned (.bool (decide (x < y))) ∧ w = w' := by
  go_enter Try.func67, Try.ntmps67
  go_wp2_with fail
  (with_reducible refine (isNaN31 x _).mono ?_)
  rintro e w' ⟨rfl, rfl⟩
  go_wp2
  go_ret
  exact ⟨rfl, rfl⟩

set_option maxRecDepth 100000 in
set_option maxHeartbeats 1600000 in
theorem isSortedI (A1 : Option Addr) (xs : List Int) (c1 lo hi : Nat) (w : World) (hv : OwnI w lo hi (.slice A1 xs.length c1) xs) (hl : xs.length ≤ 1048576) :
    Calls Try.prog 51 #[.slice A1 xs.length c1] w fun e w' => e = .returned (.bool (sdB xs)) ∧ Below w.heap.size w w' := by
  have HV := Lib.hid hv
  clear hv
  go_enter Try.func51, Try.ntmps51
  go_wp2
  go_loopw [3] (fun y wr => ∃ (t : Int) (q : Nat), y = .int .i64 t ∧ t ≤ (xs.length : Int) - 1 ∧ -1 ≤ t ∧ wr = w.drewN q ∧ ∀ j : Nat, t ≤ j → j + 1 < xs.length → ¬ xs.getD (j + 1) 0 < xs.getD j 0) (fun y _ => (intOf y).toNat)
  case atStart => exact ⟨_, 0, rfl, Int.le_refl _, by omega, rfl, fun j h1 h2 => by omega⟩
  case round =>
    obtain ⟨t, q, rfl, ht1, ht2, rfl, hno⟩ := hrel
    have HNO := Lib.hid hno
    clear hno
    by_cases hpos : 0 < t
    · obtain ⟨i, rfl⟩ : ∃ i : Nat, t = ((i + 1 : Nat) : Int) := ⟨(t - 1).toNat, by omega⟩
      obtain ⟨g1, p1, e1, -, -, hc1, -⟩ := HV.out.cell (j := i + 1) (by omega)
      simp only [Value.slice.injEq] at e1
      obtain ⟨rfl, -, rfl⟩ := e1
      obtain ⟨g2, p2, e2, -, -, hc2, -⟩ := HV.out.cell (j := i) (by omega)
      obtain rfl : g1 = g2 := by simpa using (Value.slice.inj e2).1
      have hii : ((i + 1 : Nat) : Int) < (xs.length : Int) := by omega
      have hix : (i : Int) < (xs.length : Int) := by omega
      have hi1 : ((i + 1 : Nat) : Int) - 1 = (i : Int) := by omega
      by_cases hd : xs.getD (i + 1) 0 < xs.getD i 0
      · have HE := Lib.hid (sdB_no (xs := xs) (i := i) (by omega) hd)
        generalize xs.getD (i + 1) 0 = x at *
        generalize xs.getD i 0 = y at *
        have HCALL := Lib.hid (fun W => less31 x y W)
        rw [decide_eq_true hd] at HCALL
        go_wp2
        go_quiet ((with_reducible exact still_add31s (HCALL.out _)))
        go_wp2
        go_ret
        exact ⟨ret_bool HE.out.symm, below_drewN (below_drewN (Below.refl w.heap.size w) _) _⟩
      · have HN1 := Lib.hid (show ∀ j : Nat, (i : Int) ≤ j → j + 1 < xs.length → ¬ xs.getD (j + 1) 0 < xs.getD j 0 from fun j h1 h2 => by
          by_cases e : ((i + 1 : Nat) : Int) ≤ j
          · exact HNO.out j e h2
          · obtain rfl : j = i := by omega
            exact hd)
        generalize xs.getD (i + 1) 0 = x at hc1 hd
        generalize xs.getD i 0 = y at hc2 hd
        have HCALL := Lib.hid (fun W => less31 x y W)
        rw [decide_eq_false hd] at HCALL
        go_wp2
        go_quiet ((with_reducible exact still_add31s (HCALL.out _)))
        go_wp2
        exact ⟨⟨(i : Int), q + nq, by simp, by omega, by omega, rfl, fun j h1 h2 => Int.not_lt.2 (HN1.out j h1 h2)⟩, by simp [intOf]⟩
    · have HE := Lib.hid (show sdB xs = true from decide_eq_true fun j hj => HNO.out j (by omega) (by omega))
      go_wp2
      go_ret
      exact ⟨ret_bool HE.out.symm, below_drewN (Below.refl w.heap.size w) _⟩

set_option maxRecDepth 100000 in
set_option maxHeartbeats 1600000 in
theorem isSortableI (A1 : Option Addr) (xs : List Int) (c1 lo hi : Nat) (w : World) (hv : OwnI w lo hi (.slice A1 xs.length c1) xs) (hhi : hi ≤ w.heap.size) :
    Calls Try.prog 21 #[.slice A1 xs.length c1] w fun e w' => e = .returned (.bool (sortB xs)) ∧ Below w.heap.size w w' := by
  have HV := Lib.hid hv
  have HM := Lib.hid (sortOnceI _ xs _ lo hi w hv hhi)
  clear hv
  rcases hm : permB xs with _ | _
  · have HP := Lib.hid (show sortB xs = false by unfold sortB; rw [hm]; rfl)
    rw [hm] at HM
    clear hm
    go_enter Try.func21, Try.ntmps21
    go_wp2_with fail
    (with_reducible refine HM.out.mono ?_)
    rintro e w' ⟨v1, rfl, ho, hb⟩
    go_wp2
    go_ret
    exact ⟨ret_bool HP.out.symm, hb⟩
  · have HP := Lib.hid (show sortB xs = sdB (sortP xs) by unfold sortB; rw [hm, sd_id (sort_ok hm)]; rfl)
    have h8 := (perm_yes hm).1
    have HSO := Lib.hid (show sortOP xs = sortP xs from if_pos hm)
    have HSL := Lib.hid (sort_len xs)
    rw [hm] at HM
    clear hm
    go_enter Try.func21, Try.ntmps21
    go_wp2_with fail
    (with_reducible refine HM.out.mono ?_)
    rintro e w' ⟨v1, rfl, ho, hb⟩
    rw [HSO.out] at ho
    obtain ⟨A2, c2, e2, -⟩ := id ho
    subst e2
    have HO := Lib.hid ho
    have HB := Lib.hid hb
    clear ho hb
    go_wp2_with fail
    (with_reducible refine (isSortedI A2 (sortP xs) c2 _ _ _ HO.out (by rw [HSL.out]; omega)).mono ?_)
    rintro e w2 ⟨rfl, hb2⟩
    have HB2 := Lib.hid (HB.out.trans (hb2.mono HB.out.size))
    clear hb2
    go_wp2
    go_ret
    exact ⟨ret_bool HP.out.symm, HB2.out⟩

set_option maxRecDepth 100000 in
set_option maxHeartbeats 1600000 in
theorem passesOfI (A1 : Option Addr) (xs : List Int) (c1 lo hi : Nat) (w : World) (hv : OwnI w lo hi (.slice A1 xs.length c1) xs) (hhi : hi ≤ w.heap.size) :
    Calls Try.prog 23 #[.slice A1 xs.length c1] w fun e w' => e = .returned (.int .i64 (passP xs)) ∧ Below w.heap.size w w' := by
  have HV := Lib.hid hv
  have HM := Lib.hid (isPermutationI _ xs _ lo hi w hv hhi)
  clear hv
  rcases hm : permB xs with _ | _
  · have HP := Lib.hid (show passP xs = -1 by unfold passP; rw [hm]; rfl)
    rw [hm] at HM
    clear hm
    go_enter Try.func23, Try.ntmps23
    go_wp2_with fail
    (with_reducible refine HM.out.mono ?_)
    rintro e w' ⟨rfl, hb⟩
    go_wp2
    go_ret
    exact ⟨ret_int31I HP.out.symm, hb⟩
  · have HP := Lib.hid (show passP xs = (psK xs : Int) by unfold passP; rw [hm]; rfl)
    have HPM := Lib.hid hm
    have h8 := (perm_yes hm).1
    rw [hm] at HM
    clear hm
    go_enter Try.func23, Try.ntmps23
    go_wp2_with fail
    (with_reducible refine HM.out.mono ?_)
    rintro e w1 ⟨rfl, hb⟩
    have HR0 := Lib.hid (HV.out.keep hb hhi)
    have hz0 := hb.size
    have HB0 := Lib.hid hb
    clear hb
    go_wp2
    go_loopw [0, 3] (fun x0 x3 wr => ∃ k lo' hi' : Nat, x3 = .int .i64 k ∧ k ≤ xs.length ∧ OwnI wr lo' hi' x0 (sortI xs k) ∧ hi' ≤ wr.heap.size ∧ Below w.heap.size w wr ∧ ∀ j, j < k → idP (sortI xs j) = false) (fun _ x3 _ => xs.length - (intOf x3).toNat)
    case atStart => exact ⟨0, lo, hi, rfl, Nat.zero_le _, HR0.out, by omega, HB0.out, fun j h => absurd h (Nat.not_lt_zero _)⟩
    case round =>
      obtain ⟨k, lo', hi', rfl, hk, ho, hh, hb, hno⟩ := hrel
      obtain ⟨A2, c2, e2, -⟩ := id ho
      subst e2
      have HO := Lib.hid ho
      have HB := Lib.hid hb
      have HNO := Lib.hid hno
      have HSL := Lib.hid (sortI_len xs k)
      have hsd := sd_id (sortI_ok HPM.out k)
      have HOK := Lib.hid (sortI_ok HPM.out k)
      have HC := Lib.hid (isSortedI A2 (sortI xs k) c2 _ _ _ HO.out (by rw [HSL.out]; omega))
      rw [hsd] at HC
      clear ho hb hno HR0 HB0 hsd
      rcases hid : idP (sortI xs k) with _ | _
      · have HN1 := Lib.hid (show ∀ j, j < k + 1 → idP (sortI xs j) = false from fun j hj => by
          by_cases e : j < k
          · exact HNO.out j e
          · obtain rfl : j = k := by omega
            exact hid)
        have hkl := psK_lt HPM.out HN1.out
        rw [hid] at HC
        clear hid
        have HSS := Lib.hid (show sortOP (sortI xs k) = sortI xs (k + 1) from if_pos HOK.out)
        go_wp2_with fail
        (with_reducible refine HC.out.mono ?_)
        rintro e w2 ⟨rfl, hb2⟩
        have HB2 := Lib.hid (HB.out.trans (hb2.mono HB.out.size))
        have HO2 := Lib.hid (HO.out.keep hb2 hh)
        have hz2 := hb2.size
        clear hb2
        go_wp2_with fail
        (with_reducible refine (sortOnceI A2 (sortI xs k) c2 _ _ _ HO2.out (by omega)).mono ?_)
        rintro e w3 ⟨v3, rfl, ho3, hb3⟩
        rw [HSS.out] at ho3
        have HO3 := Lib.hid ho3
        have HB3 := Lib.hid (HB2.out.trans (hb3.mono HB2.out.size))
        clear ho3 hb3
        go_wp2
        go_roundw
        case rel => exact ⟨k + 1, _, _, by simp, by omega, HO3.out, Nat.le_refl _, HB3.out, HN1.out⟩
        case measure => simp [intOf]; omega
      · have HE := Lib.hid (psK_eq HPM.out hid HNO.out)
        rw [hid] at HC
        clear hid
        go_wp2_with fail
        (with_reducible refine HC.out.mono ?_)
        rintro e w2 ⟨rfl, hb2⟩
        have HB2 := Lib.hid (HB.out.trans (hb2.mono HB.out.size))
        clear hb2
        go_wp2
        go_ret
        exact ⟨ret_int31I (by rw [HP.out, HE.out]), HB2.out⟩

end Go.Proofs.Ytamepojgpeblpaa
