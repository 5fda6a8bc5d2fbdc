/- The contracts of the program's NestedPairs and DepthOf, and of slices.Max at ints. -/
import Derived.Test.YtdnkddmnijckhaaGreatImpl4A
import Derived.Test.YtdnkddmnijckhaaGreatImpl2D
import Derived.Test.YtdnkddmnijckhaaGreatSpec4B
namespace Go.Proofs.YtdnkddmnijckhaaGreat
open Go.ChangeShapes Go.WideShapes Go.ChangeAt Go.RowKit
open Go.PlainAid (bt bt_nonneg bt_le get_bt)
set_option linter.unusedVariables false

set_option maxRecDepth 100000 in
set_option maxHeartbeats 1600000 in
theorem nestedPairsI (s : ByteArray) (w : World) (hs : s.size ≤ 1099511627776) : Calls Tryz.prog 19 #[.string s] w fun e w' => e = .returned (.int .i64 (nestedP s)) ∧ Below w.heap.size w w' := by
  by_cases hg : pobGood s
  · have HG := Lib.hid (pob_yes hg)
    have hz := pobW_size s
    have HP := Lib.hid (show nestedP s = areaP (pobW s) from if_pos HG.out.1)
    clear hg
    go_enter Tryz.func19, Tryz.ntmps19
    go_wp2_with fail
    refine (pathOfBracketsI s _ hs).mono ?_
    rw [HG.out.1, HG.out.2]
    rintro e w1 ⟨rfl, hb1⟩
    have z1 := hb1.size
    go_wp2_with fail
    refine (areaOfI (pobW s) _ (by omega)).mono ?_
    rintro e w' ⟨rfl, hb⟩
    go_wp2
    go_ret
    exact ⟨ret_int HP.out.symm, hb1.trans (hb.mono z1)⟩
  · have HG := Lib.hid (pob_no hg)
    have HP := Lib.hid (show nestedP s = -1 from if_neg (by rw [HG.out.1]; simp))
    clear hg
    go_enter Tryz.func19, Tryz.ntmps19
    go_wp2_with fail
    refine (pathOfBracketsI s _ hs).mono ?_
    rw [HG.out.1, HG.out.2]
    rintro e w' ⟨rfl, hb⟩
    go_wp2
    go_ret
    exact ⟨ret_int HP.out.symm, hb⟩

set_option maxRecDepth 100000 in
set_option maxHeartbeats 1600000 in
theorem maxOfI (v : Value) (xs : List Int) (lo hi : Nat) (w : World) (hv : OwnI w lo hi v xs) (h0 : 0 < xs.length) (hl : xs.length ≤ 1099511627776) :
    Calls Tryz.prog 40 #[v] w fun e w' => e = .returned (.int .i64 (mxL (xs.getD 0 0) (xs.drop 1))) ∧ w = w' := by
  obtain ⟨A1, c1, rfl, k1⟩ := id hv
  clear k1
  have HO := Lib.hid hv
  obtain ⟨g0, p0, e0, -, -, hc0, -⟩ := hv.cell h0
  simp only [Value.slice.injEq] at e0
  obtain ⟨rfl, -, rfl⟩ := e0
  have hl0 : ¬ (xs.length : Int) < 1 := by omega
  have hl1 : (0 : Int) < (xs.length : Int) := by omega
  generalize hx : xs.getD 0 0 = x0 at *
  clear hv hx
  go_enter Tryz.func40, Tryz.ntmps40
  go_wp2
  clear hc0
  go_loop [3, 4] (fun x y => ∃ (i : Nat) (n : Int), i ≤ xs.length ∧ y = .int .i64 i ∧ x = .int .i64 n ∧ mxL n (xs.drop i) = mxL x0 (xs.drop 1)) (fun _ y => xs.length - (intOf y).toNat)
  case atStart => exact ⟨1, x0, by omega, rfl, rfl, rfl⟩
  case round =>
    obtain ⟨i, n, hi, rfl, rfl, ha⟩ := hrel
    have HA := Lib.hid ha
    clear ha
    by_cases hlt : i < xs.length
    · have HD := Lib.hid (drop_int xs i hlt)
      obtain ⟨g1, p1, e1, -, -, hc1, -⟩ := HO.out.cell hlt
      simp only [Value.slice.injEq] at e1
      obtain ⟨e1, -, -⟩ := e1
      obtain rfl : g0 = g1 := by simpa using e1
      have hii : (i : Int) < (xs.length : Int) := by omega
      generalize xs.getD i 0 = y at hc1 HD
      go_wp2
      refine ⟨⟨i + 1, max n y, by omega, by simp, by rw [show max n y = if n < y then y else n by split <;> omega], ?_⟩, by simp [intOf]; omega⟩
      rw [← HA.out, HD.out, mxL_cons]
    · obtain rfl : i = xs.length := by omega
      go_wp2
      go_ret
      refine ⟨ret_int ?_, rfl⟩
      have h := HA.out
      rw [List.drop_length, mxL_nil] at h
      simpa using h

set_option maxRecDepth 100000 in
set_option maxHeartbeats 1600000 in
theorem depthOfI (s : ByteArray) (w : World) (hs : s.size ≤ 1099511627776) : Calls Tryz.prog 22 #[.string s] w fun e w' => e = .returned (.int .i64 (depthP s)) ∧ Below w.heap.size w w' := by
  by_cases hg : pobGood s
  · have HG := Lib.hid (pob_yes hg)
    have hd := hg.2.2
    have hz := pobW_size s
    have hxl : (heightsP (pobW s)).length = s.size + 1 := by rw [heightsP_yes hd, hsL_len, ← hz]; simp
    have h16 := hg.1
    have HP := Lib.hid (show mxL ((heightsP (pobW s)).getD 0 0) ((heightsP (pobW s)).drop 1) = depthP s by
      have e1 : depthP s = mxL 0 (heightsP (pobW s)) := if_pos HG.out.1
      have e2 : (heightsP (pobW s)).getD 0 0 = 0 := by rw [heightsP_yes hd]; exact hsL_head _ _
      have e3 := drop_int (heightsP (pobW s)) 0 (by omega)
      rw [List.drop_zero, e2] at e3
      rw [e1, e2]
      conv => rhs; rw [e3]
      rw [mxL_cons]; rfl)
    clear hg
    go_enter Tryz.func22, Tryz.ntmps22
    go_wp2_with fail
    refine (pathOfBracketsI s _ hs).mono ?_
    rw [HG.out.1, HG.out.2]
    rintro e w1 ⟨rfl, hb1⟩
    have z1 := hb1.size
    go_wp2_with fail
    (with_reducible refine (heightsOfI (pobW s) _).mono ?_)
    rintro e w2 ⟨v, rfl, ho, hb⟩
    obtain ⟨A1, c1, rfl, k1⟩ := id ho
    clear k1
    have HB := Lib.hid (hb1.trans (hb.mono z1))
    have HM := Lib.hid (maxOfI _ _ _ _ w2 ho (by omega) (by omega))
    rw [HP.out, hxl] at HM
    clear ho hb hb1
    go_wp2_with fail
    (with_reducible refine HM.out.mono ?_)
    rintro e w3 ⟨rfl, rfl⟩
    go_wp2
    go_ret
    exact ⟨rfl, HB.out⟩
  · have HG := Lib.hid (pob_no hg)
    have HP := Lib.hid (show depthP s = -1 from if_neg (by rw [HG.out.1]; simp))
    clear hg
    go_enter Tryz.func22, Tryz.ntmps22
    go_wp2_with fail
    refine (pathOfBracketsI s _ hs).mono ?_
    rw [HG.out.1, HG.out.2]
    rintro e w' ⟨rfl, hb⟩
    go_wp2
    go_ret
    exact ⟨ret_int HP.out.symm, hb⟩

end Go.Proofs.YtdnkddmnijckhaaGreat
