/- The walk of the law FnIntegerEncodings. -/
import Derived.Test.YtamdmflofbpjkaaDoorW
namespace Go.Proofs.YtamdmflofbpjkaaDoor.Num
open Go.ChangeShapes Go.WideShapes Go.ChangeAt Go.RowKit
set_option linter.unusedVariables false

theorem _root_.Go.Proofs.YtamdmflofbpjkaaDoor.Code.carry {w w' : World} {A : Option Addr} {n : Nat} (h : Code w w.heap.size A n) (hb : Below w.heap.size w w') : Code w' w'.heap.size A n := by
  have h1 := h.keep hb.block
  refine ⟨h1.1, fun j hj => ?_⟩
  obtain ⟨b, off, z, e1, e2, e3⟩ := h1.2 j hj
  exact ⟨b, off, z, e1, Nat.lt_of_lt_of_le e2 hb.size, e3⟩
theorem empty_app (T : ByteArray) (h : T.size ≤ 40) : (({ data := #[] } : ByteArray) ++ T).size ≤ 1048576 := by
  have e : (({ data := #[] } : ByteArray)).size = 0 := rfl
  rw [app_size, e]; omega
theorem Gives.now {f : FuncId} {a : Array Value} {v : Value} (h : Gives f a v) (w : World) : Calls Tryd.prog f a w fun e w' => e = .returned v ∧ Below w.heap.size w w' := h w
theorem GivesT.now {f : FuncId} {a : Array Value} {v : Value} (h : GivesT f a v) (w : World) (ht : Tab w) : Calls Tryd.prog f a w fun e w' => e = .returned v ∧ Below w.heap.size w w' := h w ht
theorem ef_some_int (y k : Int) (h1 : 1 ≤ k) (h7 : k ≤ 7) (h0 : 0 ≤ y) (hy : y ≤ 9223372036854775807) (hf : y.toNat / 256 ^ k.toNat = 0) : ∃ F : ByteArray, (F.size : Int) = k ∧ Gives 12 #[.int .i64 y, .int .i64 k] (.string F) ∧ Gives 14 #[.int .i64 y, .int .i64 k] (.string F) ∧
    ∀ T : ByteArray, T.size ≤ 40 → Gives 13 #[.string (F ++ T), .int .i64 k] (.tuple #[.int .i64 y, .bool true]) := by
  obtain ⟨n, rfl⟩ : ∃ n : Nat, y = n := ⟨y.toNat, by omega⟩
  obtain ⟨j, rfl⟩ : ∃ n : Nat, k = n := ⟨k.toNat, by omega⟩
  obtain ⟨F, a, b, c, d⟩ := ef_some n j (by omega) (by omega) (by omega) (by simpa using hf)
  exact ⟨F, by omega, b, c, d⟩
theorem str_full (F : ByteArray) (h : 1 ≤ F.size) : F.toList.isEmpty = false := by
  rw [ByteArray.toList_eq, List.isEmpty_eq_false_iff]
  intro e
  have : F.data.toList.length = F.size := by simp
  rw [e] at this
  simp at this
  omega

set_option maxRecDepth 100000 in
set_option maxHeartbeats 6400000 in
theorem law_walk (A : Option Addr) (n cap : Nat) (w : World) (ht : Tab w) (hc : n ≤ 1048576 → Code w w.heap.size A n) (hn : n ≤ 9223372036854775807) :
    Calls Tryd.prog 3 #[.slice A n cap] w fun e w' => e = .returned (.bool true) ∧ Below w.heap.size w w' := by
  by_cases hbig : 1048576 < n
  · have hd : decide (1048576 < n) = true := by simpa using hbig
    clear hc ht
    go_enter Tryd.func3, Tryd.ntmps3
    go_wp2_with fail
    (with_reducible refine (bigC A n cap _).mono ?_)
    rintro e w1 ⟨rfl, rfl⟩
    go_wp2
    go_ret
    exact ⟨rfl, Below.refl _ _⟩
  · have hd : decide (1048576 < n) = false := by simpa using hbig
    have HC := Lib.hid (hc (by omega))
    have HT := Lib.hid ht
    clear hc ht hbig
    go_enter Tryd.func3, Tryd.ntmps3
    go_wp2_with fail
    (with_reducible refine (bigC A n cap _).mono ?_)
    rintro e w0 ⟨rfl, rfl⟩
    go_wp2_with fail
    (with_reducible refine (drawEV A n cap _ HC.out).mono ?_)
    rintro e w1 ⟨x, hx, rfl, hb⟩
    have Hw1 := Lib.hid hb
    clear hb
    go_wp2_with fail
    (with_reducible refine (drawEH A n cap _ (HC.out.carry Hw1.out)).mono ?_)
    rintro e w2 ⟨T, hT, rfl, hb⟩
    have Hw2 := Lib.hid (Hw1.out.trans (hb.mono (by have := Hw1.out.size; omega)))
    clear hb
    by_cases hr0 : x < 0
    · have HE := Lib.hid (ev_out x (.inl hr0))
      clear hx
      have g1 : decide (0 ≤ x) = false := by simp; omega
      go_wp2_with fail
      (with_reducible refine (HE.out.now _).mono ?_)
      rintro e w3 ⟨rfl, hb⟩
      have Hw3 := Lib.hid (Hw2.out.trans (hb.mono (by have := Hw2.out.size; omega)))
      clear hb
      go_wp2_with fail
      (with_reducible refine (dv_any _ (empty_app T hT) _).mono ?_)
      rintro e w4 ⟨u, v, hDV, rfl, hb⟩
      have Hw4 := Lib.hid (Hw3.out.trans (hb.mono (by have := Hw3.out.size; omega)))
      clear hb hDV
      go_wp2_with fail
      (with_reducible refine (drawEF A n cap _ (HC.out.carry Hw4.out)).mono ?_)
      rintro e w5 ⟨y, z, hy, hz, rfl, hb⟩
      have Hw5 := Lib.hid (Hw4.out.trans (hb.mono (by have := Hw4.out.size; omega)))
      obtain ⟨y0, y1⟩ := hy
      obtain ⟨z0, z1⟩ := hz
      clear hb
      by_cases hv : 1 ≤ z ∧ z ≤ 7 ∧ 0 ≤ y ∧ y.toNat / 256 ^ z.toNat = 0
      · obtain ⟨v1, v2, v3, v4⟩ := hv
        obtain ⟨F, hF, hF1, hF2, hF3⟩ := ef_some_int y z v1 v2 v3 y1 v4
        have HF1 := Lib.hid hF1
        have HF2 := Lib.hid hF2
        have HF3 := Lib.hid (hF3 T hT)
        have hFn := str_full F (by omega)
        have hFs : (F.size : Int) = z := by omega
        clear hF1 hF2 hF3 v4 hF
        go_wp2_with fail
        (with_reducible refine (HF1.out.now _).mono ?_)
        rintro e w6 ⟨rfl, hb⟩
        have Hw6 := Lib.hid (Hw5.out.trans (hb.mono (by have := Hw5.out.size; omega)))
        clear hb
        go_wp2_with fail
        (with_reducible refine (HF3.out.now _).mono ?_)
        rintro e w7 ⟨rfl, hb⟩
        have Hw7 := Lib.hid (Hw6.out.trans (hb.mono (by have := Hw6.out.size; omega)))
        clear hb
        go_wp2_with fail
        (with_reducible refine (HF2.out.now _).mono ?_)
        rintro e w8 ⟨rfl, hb⟩
        have Hw8 := Lib.hid (Hw7.out.trans (hb.mono (by have := Hw7.out.size; omega)))
        clear hb
        obtain ⟨Hx, hH, hX1, hX2⟩ := hex_some T hT
        have HX1 := Lib.hid hX1
        have HX2 := Lib.hid hX2
        clear hX1 hX2
        go_wp2_with fail
        (with_reducible refine (HX1.out.now _).mono ?_)
        rintro e wa ⟨rfl, hb⟩
        have Hwa := Lib.hid (Hw8.out.trans (hb.mono (by have := Hw8.out.size; omega)))
        clear hb
        go_wp2_with fail
        (with_reducible refine (HX2.out.now _).mono ?_)
        rintro e wb ⟨rfl, hb⟩
        have Hwb := Lib.hid (Hwa.out.trans (hb.mono (by have := Hwa.out.size; omega)))
        clear hb
        obtain ⟨Dn, hN1, hN2, hN3⟩ := num_some y y0 y1
        have HN1 := Lib.hid hN1
        have HN2 := Lib.hid hN2
        have HN3 := Lib.hid hN3
        clear hN1 hN2 hN3
        have hTT : (T.toList == T.toList) = true := by simp
        have hDD : (Dn.toList == Dn.toList) = true := by simp
        have hHH : (Hx.size : Int) = 2 * (T.size : Int) := by omega
        go_wp2_with fail
        (with_reducible refine (HN1.out.now _ (HT.out.below Hwb.out HT.out.lt)).mono ?_)
        rintro e wc ⟨rfl, hb⟩
        have Hwc := Lib.hid (Hwb.out.trans (hb.mono (by have := Hwb.out.size; omega)))
        clear hb
        by_cases hsm : -1000000000 < y ∧ y < 1000000000
        · have q1 : decide (-1000000000 < y) = true := by simpa using hsm.1
          have q2 : decide (y < 1000000000) = true := by simpa using hsm.2
          have HN4 := Lib.hid (show GivesT 18 #[.string Dn] (.tuple #[.int .i64 y, .bool true]) by have h := HN3.out; rw [if_pos hsm, decide_eq_true hsm] at h; exact h)
          obtain ⟨p1, p2⟩ := hsm
          go_wp2_with fail
          (with_reducible refine (HN4.out.now _ (HT.out.below Hwc.out HT.out.lt)).mono ?_)
          rintro e wd ⟨rfl, hb⟩
          have Hwd := Lib.hid (Hwc.out.trans (hb.mono (by have := Hwc.out.size; omega)))
          clear hb
          go_wp2_with fail
          (with_reducible refine (HN2.out.now _).mono ?_)
          rintro e we ⟨rfl, hb⟩
          have Hwe := Lib.hid (Hwd.out.trans (hb.mono (by have := Hwd.out.size; omega)))
          clear hb
          go_wp2
          go_ret
          exact ⟨rfl, Hwe.out⟩
        · have HN4 := Lib.hid (show GivesT 18 #[.string Dn] (.tuple #[.int .i64 0, .bool false]) by have h := HN3.out; rw [if_neg hsm, decide_eq_false hsm] at h; exact h)
          go_wp2_with fail
          (with_reducible refine (HN4.out.now _ (HT.out.below Hwc.out HT.out.lt)).mono ?_)
          rintro e wd ⟨rfl, hb⟩
          have Hwd := Lib.hid (Hwc.out.trans (hb.mono (by have := Hwc.out.size; omega)))
          clear hb
          by_cases p1 : -1000000000 < y
          · have p2 : ¬ y < 1000000000 := fun h => hsm ⟨p1, h⟩
            have p3 : decide (y < 1000000000) = false := by simpa using p2
            clear hsm
            go_wp2_with fail
            (with_reducible refine (HN2.out.now _).mono ?_)
            rintro e we ⟨rfl, hb⟩
            have Hwe := Lib.hid (Hwd.out.trans (hb.mono (by have := Hwd.out.size; omega)))
            clear hb
            go_wp2
            go_ret
            exact ⟨rfl, Hwe.out⟩
          · have p3 : decide (-1000000000 < y) = false := by simpa using p1
            clear hsm
            go_wp2_with fail
            (with_reducible refine (HN2.out.now _).mono ?_)
            rintro e we ⟨rfl, hb⟩
            have Hwe := Lib.hid (Hwd.out.trans (hb.mono (by have := Hwd.out.size; omega)))
            clear hb
            go_wp2
            go_ret
            exact ⟨rfl, Hwe.out⟩
      · obtain ⟨hF1, hF2⟩ := ef_none y z y0 y1 hv
        have HF1 := Lib.hid hF1
        have HF2 := Lib.hid hF2
        clear hF1 hF2 hv
        go_wp2_with fail
        (with_reducible refine (HF1.out.now _).mono ?_)
        rintro e w6 ⟨rfl, hb⟩
        have Hw6 := Lib.hid (Hw5.out.trans (hb.mono (by have := Hw5.out.size; omega)))
        clear hb
        obtain ⟨u1, b1, hD1⟩ := df_any (({ data := #[] } : ByteArray) ++ T) z (empty_app T hT)
        have HD1 := Lib.hid hD1
        clear hD1
        go_wp2_with fail
        (with_reducible refine (HD1.out.now _).mono ?_)
        rintro e w7 ⟨rfl, hb⟩
        have Hw7 := Lib.hid (Hw6.out.trans (hb.mono (by have := Hw6.out.size; omega)))
        clear hb
        go_wp2_with fail
        (with_reducible refine (HF2.out.now _).mono ?_)
        rintro e w8 ⟨rfl, hb⟩
        have Hw8 := Lib.hid (Hw7.out.trans (hb.mono (by have := Hw7.out.size; omega)))
        clear hb
        obtain ⟨Hx, hH, hX1, hX2⟩ := hex_some T hT
        have HX1 := Lib.hid hX1
        have HX2 := Lib.hid hX2
        clear hX1 hX2
        go_wp2_with fail
        (with_reducible refine (HX1.out.now _).mono ?_)
        rintro e wa ⟨rfl, hb⟩
        have Hwa := Lib.hid (Hw8.out.trans (hb.mono (by have := Hw8.out.size; omega)))
        clear hb
        go_wp2_with fail
        (with_reducible refine (HX2.out.now _).mono ?_)
        rintro e wb ⟨rfl, hb⟩
        have Hwb := Lib.hid (Hwa.out.trans (hb.mono (by have := Hwa.out.size; omega)))
        clear hb
        obtain ⟨Dn, hN1, hN2, hN3⟩ := num_some y y0 y1
        have HN1 := Lib.hid hN1
        have HN2 := Lib.hid hN2
        have HN3 := Lib.hid hN3
        clear hN1 hN2 hN3
        have hTT : (T.toList == T.toList) = true := by simp
        have hDD : (Dn.toList == Dn.toList) = true := by simp
        have hHH : (Hx.size : Int) = 2 * (T.size : Int) := by omega
        go_wp2_with fail
        (with_reducible refine (HN1.out.now _ (HT.out.below Hwb.out HT.out.lt)).mono ?_)
        rintro e wc ⟨rfl, hb⟩
        have Hwc := Lib.hid (Hwb.out.trans (hb.mono (by have := Hwb.out.size; omega)))
        clear hb
        by_cases hsm : -1000000000 < y ∧ y < 1000000000
        · have q1 : decide (-1000000000 < y) = true := by simpa using hsm.1
          have q2 : decide (y < 1000000000) = true := by simpa using hsm.2
          have HN4 := Lib.hid (show GivesT 18 #[.string Dn] (.tuple #[.int .i64 y, .bool true]) by have h := HN3.out; rw [if_pos hsm, decide_eq_true hsm] at h; exact h)
          obtain ⟨p1, p2⟩ := hsm
          go_wp2_with fail
          (with_reducible refine (HN4.out.now _ (HT.out.below Hwc.out HT.out.lt)).mono ?_)
          rintro e wd ⟨rfl, hb⟩
          have Hwd := Lib.hid (Hwc.out.trans (hb.mono (by have := Hwc.out.size; omega)))
          clear hb
          go_wp2_with fail
          (with_reducible refine (HN2.out.now _).mono ?_)
          rintro e we ⟨rfl, hb⟩
          have Hwe := Lib.hid (Hwd.out.trans (hb.mono (by have := Hwd.out.size; omega)))
          clear hb
          go_wp2
          go_ret
          exact ⟨rfl, Hwe.out⟩
        · have HN4 := Lib.hid (show GivesT 18 #[.string Dn] (.tuple #[.int .i64 0, .bool false]) by have h := HN3.out; rw [if_neg hsm, decide_eq_false hsm] at h; exact h)
          go_wp2_with fail
          (with_reducible refine (HN4.out.now _ (HT.out.below Hwc.out HT.out.lt)).mono ?_)
          rintro e wd ⟨rfl, hb⟩
          have Hwd := Lib.hid (Hwc.out.trans (hb.mono (by have := Hwc.out.size; omega)))
          clear hb
          by_cases p1 : -1000000000 < y
          · have p2 : ¬ y < 1000000000 := fun h => hsm ⟨p1, h⟩
            have p3 : decide (y < 1000000000) = false := by simpa using p2
            clear hsm
            go_wp2_with fail
            (with_reducible refine (HN2.out.now _).mono ?_)
            rintro e we ⟨rfl, hb⟩
            have Hwe := Lib.hid (Hwd.out.trans (hb.mono (by have := Hwd.out.size; omega)))
            clear hb
            go_wp2
            go_ret
            exact ⟨rfl, Hwe.out⟩
          · have p3 : decide (-1000000000 < y) = false := by simpa using p1
            clear hsm
            go_wp2_with fail
            (with_reducible refine (HN2.out.now _).mono ?_)
            rintro e we ⟨rfl, hb⟩
            have Hwe := Lib.hid (Hwd.out.trans (hb.mono (by have := Hwd.out.size; omega)))
            clear hb
            go_wp2
            go_ret
            exact ⟨rfl, Hwe.out⟩
    · by_cases hr1 : 562949953421311 < x
      · have HE := Lib.hid (ev_out x (.inr hr1))
        have g0 : 0 ≤ x := by omega
        clear hx hr0
        go_wp2_with fail
        (with_reducible refine (HE.out.now _).mono ?_)
        rintro e w3 ⟨rfl, hb⟩
        have Hw3 := Lib.hid (Hw2.out.trans (hb.mono (by have := Hw2.out.size; omega)))
        clear hb
        go_wp2_with fail
        (with_reducible refine (dv_any _ (empty_app T hT) _).mono ?_)
        rintro e w4 ⟨u, v, hDV, rfl, hb⟩
        have Hw4 := Lib.hid (Hw3.out.trans (hb.mono (by have := Hw3.out.size; omega)))
        clear hb hDV
        go_wp2_with fail
        (with_reducible refine (drawEF A n cap _ (HC.out.carry Hw4.out)).mono ?_)
        rintro e w5 ⟨y, z, hy, hz, rfl, hb⟩
        have Hw5 := Lib.hid (Hw4.out.trans (hb.mono (by have := Hw4.out.size; omega)))
        obtain ⟨y0, y1⟩ := hy
        obtain ⟨z0, z1⟩ := hz
        clear hb
        by_cases hv : 1 ≤ z ∧ z ≤ 7 ∧ 0 ≤ y ∧ y.toNat / 256 ^ z.toNat = 0
        · obtain ⟨v1, v2, v3, v4⟩ := hv
          obtain ⟨F, hF, hF1, hF2, hF3⟩ := ef_some_int y z v1 v2 v3 y1 v4
          have HF1 := Lib.hid hF1
          have HF2 := Lib.hid hF2
          have HF3 := Lib.hid (hF3 T hT)
          have hFn := str_full F (by omega)
          have hFs : (F.size : Int) = z := by omega
          clear hF1 hF2 hF3 v4 hF
          go_wp2_with fail
          (with_reducible refine (HF1.out.now _).mono ?_)
          rintro e w6 ⟨rfl, hb⟩
          have Hw6 := Lib.hid (Hw5.out.trans (hb.mono (by have := Hw5.out.size; omega)))
          clear hb
          go_wp2_with fail
          (with_reducible refine (HF3.out.now _).mono ?_)
          rintro e w7 ⟨rfl, hb⟩
          have Hw7 := Lib.hid (Hw6.out.trans (hb.mono (by have := Hw6.out.size; omega)))
          clear hb
          go_wp2_with fail
          (with_reducible refine (HF2.out.now _).mono ?_)
          rintro e w8 ⟨rfl, hb⟩
          have Hw8 := Lib.hid (Hw7.out.trans (hb.mono (by have := Hw7.out.size; omega)))
          clear hb
          obtain ⟨Hx, hH, hX1, hX2⟩ := hex_some T hT
          have HX1 := Lib.hid hX1
          have HX2 := Lib.hid hX2
          clear hX1 hX2
          go_wp2_with fail
          (with_reducible refine (HX1.out.now _).mono ?_)
          rintro e wa ⟨rfl, hb⟩
          have Hwa := Lib.hid (Hw8.out.trans (hb.mono (by have := Hw8.out.size; omega)))
          clear hb
          go_wp2_with fail
          (with_reducible refine (HX2.out.now _).mono ?_)
          rintro e wb ⟨rfl, hb⟩
          have Hwb := Lib.hid (Hwa.out.trans (hb.mono (by have := Hwa.out.size; omega)))
          clear hb
          obtain ⟨Dn, hN1, hN2, hN3⟩ := num_some y y0 y1
          have HN1 := Lib.hid hN1
          have HN2 := Lib.hid hN2
          have HN3 := Lib.hid hN3
          clear hN1 hN2 hN3
          have hTT : (T.toList == T.toList) = true := by simp
          have hDD : (Dn.toList == Dn.toList) = true := by simp
          have hHH : (Hx.size : Int) = 2 * (T.size : Int) := by omega
          go_wp2_with fail
          (with_reducible refine (HN1.out.now _ (HT.out.below Hwb.out HT.out.lt)).mono ?_)
          rintro e wc ⟨rfl, hb⟩
          have Hwc := Lib.hid (Hwb.out.trans (hb.mono (by have := Hwb.out.size; omega)))
          clear hb
          by_cases hsm : -1000000000 < y ∧ y < 1000000000
          · have q1 : decide (-1000000000 < y) = true := by simpa using hsm.1
            have q2 : decide (y < 1000000000) = true := by simpa using hsm.2
            have HN4 := Lib.hid (show GivesT 18 #[.string Dn] (.tuple #[.int .i64 y, .bool true]) by have h := HN3.out; rw [if_pos hsm, decide_eq_true hsm] at h; exact h)
            obtain ⟨p1, p2⟩ := hsm
            go_wp2_with fail
            (with_reducible refine (HN4.out.now _ (HT.out.below Hwc.out HT.out.lt)).mono ?_)
            rintro e wd ⟨rfl, hb⟩
            have Hwd := Lib.hid (Hwc.out.trans (hb.mono (by have := Hwc.out.size; omega)))
            clear hb
            go_wp2_with fail
            (with_reducible refine (HN2.out.now _).mono ?_)
            rintro e we ⟨rfl, hb⟩
            have Hwe := Lib.hid (Hwd.out.trans (hb.mono (by have := Hwd.out.size; omega)))
            clear hb
            go_wp2
            go_ret
            exact ⟨rfl, Hwe.out⟩
          · have HN4 := Lib.hid (show GivesT 18 #[.string Dn] (.tuple #[.int .i64 0, .bool false]) by have h := HN3.out; rw [if_neg hsm, decide_eq_false hsm] at h; exact h)
            go_wp2_with fail
            (with_reducible refine (HN4.out.now _ (HT.out.below Hwc.out HT.out.lt)).mono ?_)
            rintro e wd ⟨rfl, hb⟩
            have Hwd := Lib.hid (Hwc.out.trans (hb.mono (by have := Hwc.out.size; omega)))
            clear hb
            by_cases p1 : -1000000000 < y
            · have p2 : ¬ y < 1000000000 := fun h => hsm ⟨p1, h⟩
              have p3 : decide (y < 1000000000) = false := by simpa using p2
              clear hsm
              go_wp2_with fail
              (with_reducible refine (HN2.out.now _).mono ?_)
              rintro e we ⟨rfl, hb⟩
              have Hwe := Lib.hid (Hwd.out.trans (hb.mono (by have := Hwd.out.size; omega)))
              clear hb
              go_wp2
              go_ret
              exact ⟨rfl, Hwe.out⟩
            · have p3 : decide (-1000000000 < y) = false := by simpa using p1
              clear hsm
              go_wp2_with fail
              (with_reducible refine (HN2.out.now _).mono ?_)
              rintro e we ⟨rfl, hb⟩
              have Hwe := Lib.hid (Hwd.out.trans (hb.mono (by have := Hwd.out.size; omega)))
              clear hb
              go_wp2
              go_ret
              exact ⟨rfl, Hwe.out⟩
        · obtain ⟨hF1, hF2⟩ := ef_none y z y0 y1 hv
          have HF1 := Lib.hid hF1
          have HF2 := Lib.hid hF2
          clear hF1 hF2 hv
          go_wp2_with fail
          (with_reducible refine (HF1.out.now _).mono ?_)
          rintro e w6 ⟨rfl, hb⟩
          have Hw6 := Lib.hid (Hw5.out.trans (hb.mono (by have := Hw5.out.size; omega)))
          clear hb
          obtain ⟨u1, b1, hD1⟩ := df_any (({ data := #[] } : ByteArray) ++ T) z (empty_app T hT)
          have HD1 := Lib.hid hD1
          clear hD1
          go_wp2_with fail
          (with_reducible refine (HD1.out.now _).mono ?_)
          rintro e w7 ⟨rfl, hb⟩
          have Hw7 := Lib.hid (Hw6.out.trans (hb.mono (by have := Hw6.out.size; omega)))
          clear hb
          go_wp2_with fail
          (with_reducible refine (HF2.out.now _).mono ?_)
          rintro e w8 ⟨rfl, hb⟩
          have Hw8 := Lib.hid (Hw7.out.trans (hb.mono (by have := Hw7.out.size; omega)))
          clear hb
          obtain ⟨Hx, hH, hX1, hX2⟩ := hex_some T hT
          have HX1 := Lib.hid hX1
          have HX2 := Lib.hid hX2
          clear hX1 hX2
          go_wp2_with fail
          (with_reducible refine (HX1.out.now _).mono ?_)
          rintro e wa ⟨rfl, hb⟩
          have Hwa := Lib.hid (Hw8.out.trans (hb.mono (by have := Hw8.out.size; omega)))
          clear hb
          go_wp2_with fail
          (with_reducible refine (HX2.out.now _).mono ?_)
          rintro e wb ⟨rfl, hb⟩
          have Hwb := Lib.hid (Hwa.out.trans (hb.mono (by have := Hwa.out.size; omega)))
          clear hb
          obtain ⟨Dn, hN1, hN2, hN3⟩ := num_some y y0 y1
          have HN1 := Lib.hid hN1
          have HN2 := Lib.hid hN2
          have HN3 := Lib.hid hN3
          clear hN1 hN2 hN3
          have hTT : (T.toList == T.toList) = true := by simp
          have hDD : (Dn.toList == Dn.toList) = true := by simp
          have hHH : (Hx.size : Int) = 2 * (T.size : Int) := by omega
          go_wp2_with fail
          (with_reducible refine (HN1.out.now _ (HT.out.below Hwb.out HT.out.lt)).mono ?_)
          rintro e wc ⟨rfl, hb⟩
          have Hwc := Lib.hid (Hwb.out.trans (hb.mono (by have := Hwb.out.size; omega)))
          clear hb
          by_cases hsm : -1000000000 < y ∧ y < 1000000000
          · have q1 : decide (-1000000000 < y) = true := by simpa using hsm.1
            have q2 : decide (y < 1000000000) = true := by simpa using hsm.2
            have HN4 := Lib.hid (show GivesT 18 #[.string Dn] (.tuple #[.int .i64 y, .bool true]) by have h := HN3.out; rw [if_pos hsm, decide_eq_true hsm] at h; exact h)
            obtain ⟨p1, p2⟩ := hsm
            go_wp2_with fail
            (with_reducible refine (HN4.out.now _ (HT.out.below Hwc.out HT.out.lt)).mono ?_)
            rintro e wd ⟨rfl, hb⟩
            have Hwd := Lib.hid (Hwc.out.trans (hb.mono (by have := Hwc.out.size; omega)))
            clear hb
            go_wp2_with fail
            (with_reducible refine (HN2.out.now _).mono ?_)
            rintro e we ⟨rfl, hb⟩
            have Hwe := Lib.hid (Hwd.out.trans (hb.mono (by have := Hwd.out.size; omega)))
            clear hb
            go_wp2
            go_ret
            exact ⟨rfl, Hwe.out⟩
          · have HN4 := Lib.hid (show GivesT 18 #[.string Dn] (.tuple #[.int .i64 0, .bool false]) by have h := HN3.out; rw [if_neg hsm, decide_eq_false hsm] at h; exact h)
            go_wp2_with fail
            (with_reducible refine (HN4.out.now _ (HT.out.below Hwc.out HT.out.lt)).mono ?_)
            rintro e wd ⟨rfl, hb⟩
            have Hwd := Lib.hid (Hwc.out.trans (hb.mono (by have := Hwc.out.size; omega)))
            clear hb
            by_cases p1 : -1000000000 < y
            · have p2 : ¬ y < 1000000000 := fun h => hsm ⟨p1, h⟩
              have p3 : decide (y < 1000000000) = false := by simpa using p2
              clear hsm
              go_wp2_with fail
              (with_reducible refine (HN2.out.now _).mono ?_)
              rintro e we ⟨rfl, hb⟩
              have Hwe := Lib.hid (Hwd.out.trans (hb.mono (by have := Hwd.out.size; omega)))
              clear hb
              go_wp2
              go_ret
              exact ⟨rfl, Hwe.out⟩
            · have p3 : decide (-1000000000 < y) = false := by simpa using p1
              clear hsm
              go_wp2_with fail
              (with_reducible refine (HN2.out.now _).mono ?_)
              rintro e we ⟨rfl, hb⟩
              have Hwe := Lib.hid (Hwd.out.trans (hb.mono (by have := Hwd.out.size; omega)))
              clear hb
              go_wp2
              go_ret
              exact ⟨rfl, Hwe.out⟩
      · obtain ⟨m, rfl⟩ : ∃ m : Nat, x = m := ⟨x.toNat, by omega⟩
        obtain ⟨S, hS1, hS7, hS2, hS3⟩ := ev_in m (by omega)
        have HS2 := Lib.hid hS2
        have HS3 := Lib.hid (hS3 T hT)
        have hSn := str_full S hS1
        have g2 : (m : Int) ≤ 562949953421311 := by omega
        clear hS2 hS3 hx hr0 hr1
        go_wp2_with fail
        (with_reducible refine (HS2.out.now _).mono ?_)
        rintro e w3 ⟨rfl, hb⟩
        have Hw3 := Lib.hid (Hw2.out.trans (hb.mono (by have := Hw2.out.size; omega)))
        clear hb
        go_wp2_with fail
        (with_reducible refine (HS3.out.now _).mono ?_)
        rintro e w4 ⟨rfl, hb⟩
        have Hw4 := Lib.hid (Hw3.out.trans (hb.mono (by have := Hw3.out.size; omega)))
        clear hb
        go_wp2_with fail
        (with_reducible refine (drawEF A n cap _ (HC.out.carry Hw4.out)).mono ?_)
        rintro e w5 ⟨y, z, hy, hz, rfl, hb⟩
        have Hw5 := Lib.hid (Hw4.out.trans (hb.mono (by have := Hw4.out.size; omega)))
        obtain ⟨y0, y1⟩ := hy
        obtain ⟨z0, z1⟩ := hz
        clear hb
        by_cases hv : 1 ≤ z ∧ z ≤ 7 ∧ 0 ≤ y ∧ y.toNat / 256 ^ z.toNat = 0
        · obtain ⟨v1, v2, v3, v4⟩ := hv
          obtain ⟨F, hF, hF1, hF2, hF3⟩ := ef_some_int y z v1 v2 v3 y1 v4
          have HF1 := Lib.hid hF1
          have HF2 := Lib.hid hF2
          have HF3 := Lib.hid (hF3 T hT)
          have hFn := str_full F (by omega)
          have hFs : (F.size : Int) = z := by omega
          clear hF1 hF2 hF3 v4 hF
          go_wp2_with fail
          (with_reducible refine (HF1.out.now _).mono ?_)
          rintro e w6 ⟨rfl, hb⟩
          have Hw6 := Lib.hid (Hw5.out.trans (hb.mono (by have := Hw5.out.size; omega)))
          clear hb
          go_wp2_with fail
          (with_reducible refine (HF3.out.now _).mono ?_)
          rintro e w7 ⟨rfl, hb⟩
          have Hw7 := Lib.hid (Hw6.out.trans (hb.mono (by have := Hw6.out.size; omega)))
          clear hb
          go_wp2_with fail
          (with_reducible refine (HF2.out.now _).mono ?_)
          rintro e w8 ⟨rfl, hb⟩
          have Hw8 := Lib.hid (Hw7.out.trans (hb.mono (by have := Hw7.out.size; omega)))
          clear hb
          obtain ⟨Hx, hH, hX1, hX2⟩ := hex_some T hT
          have HX1 := Lib.hid hX1
          have HX2 := Lib.hid hX2
          clear hX1 hX2
          go_wp2_with fail
          (with_reducible refine (HX1.out.now _).mono ?_)
          rintro e wa ⟨rfl, hb⟩
          have Hwa := Lib.hid (Hw8.out.trans (hb.mono (by have := Hw8.out.size; omega)))
          clear hb
          go_wp2_with fail
          (with_reducible refine (HX2.out.now _).mono ?_)
          rintro e wb ⟨rfl, hb⟩
          have Hwb := Lib.hid (Hwa.out.trans (hb.mono (by have := Hwa.out.size; omega)))
          clear hb
          obtain ⟨Dn, hN1, hN2, hN3⟩ := num_some y y0 y1
          have HN1 := Lib.hid hN1
          have HN2 := Lib.hid hN2
          have HN3 := Lib.hid hN3
          clear hN1 hN2 hN3
          have hTT : (T.toList == T.toList) = true := by simp
          have hDD : (Dn.toList == Dn.toList) = true := by simp
          have hHH : (Hx.size : Int) = 2 * (T.size : Int) := by omega
          go_wp2_with fail
          (with_reducible refine (HN1.out.now _ (HT.out.below Hwb.out HT.out.lt)).mono ?_)
          rintro e wc ⟨rfl, hb⟩
          have Hwc := Lib.hid (Hwb.out.trans (hb.mono (by have := Hwb.out.size; omega)))
          clear hb
          by_cases hsm : -1000000000 < y ∧ y < 1000000000
          · have q1 : decide (-1000000000 < y) = true := by simpa using hsm.1
            have q2 : decide (y < 1000000000) = true := by simpa using hsm.2
            have HN4 := Lib.hid (show GivesT 18 #[.string Dn] (.tuple #[.int .i64 y, .bool true]) by have h := HN3.out; rw [if_pos hsm, decide_eq_true hsm] at h; exact h)
            obtain ⟨p1, p2⟩ := hsm
            go_wp2_with fail
            (with_reducible refine (HN4.out.now _ (HT.out.below Hwc.out HT.out.lt)).mono ?_)
            rintro e wd ⟨rfl, hb⟩
            have Hwd := Lib.hid (Hwc.out.trans (hb.mono (by have := Hwc.out.size; omega)))
            clear hb
            go_wp2_with fail
            (with_reducible refine (HN2.out.now _).mono ?_)
            rintro e we ⟨rfl, hb⟩
            have Hwe := Lib.hid (Hwd.out.trans (hb.mono (by have := Hwd.out.size; omega)))
            clear hb
            go_wp2
            go_ret
            exact ⟨rfl, Hwe.out⟩
          · have HN4 := Lib.hid (show GivesT 18 #[.string Dn] (.tuple #[.int .i64 0, .bool false]) by have h := HN3.out; rw [if_neg hsm, decide_eq_false hsm] at h; exact h)
            go_wp2_with fail
            (with_reducible refine (HN4.out.now _ (HT.out.below Hwc.out HT.out.lt)).mono ?_)
            rintro e wd ⟨rfl, hb⟩
            have Hwd := Lib.hid (Hwc.out.trans (hb.mono (by have := Hwc.out.size; omega)))
            clear hb
            by_cases p1 : -1000000000 < y
            · have p2 : ¬ y < 1000000000 := fun h => hsm ⟨p1, h⟩
              have p3 : decide (y < 1000000000) = false := by simpa using p2
              clear hsm
              go_wp2_with fail
              (with_reducible refine (HN2.out.now _).mono ?_)
              rintro e we ⟨rfl, hb⟩
              have Hwe := Lib.hid (Hwd.out.trans (hb.mono (by have := Hwd.out.size; omega)))
              clear hb
              go_wp2
              go_ret
              exact ⟨rfl, Hwe.out⟩
            · have p3 : decide (-1000000000 < y) = false := by simpa using p1
              clear hsm
              go_wp2_with fail
              (with_reducible refine (HN2.out.now _).mono ?_)
              rintro e we ⟨rfl, hb⟩
              have Hwe := Lib.hid (Hwd.out.trans (hb.mono (by have := Hwd.out.size; omega)))
              clear hb
              go_wp2
              go_ret
              exact ⟨rfl, Hwe.out⟩
        · obtain ⟨hF1, hF2⟩ := ef_none y z y0 y1 hv
          have HF1 := Lib.hid hF1
          have HF2 := Lib.hid hF2
          clear hF1 hF2 hv
          go_wp2_with fail
          (with_reducible refine (HF1.out.now _).mono ?_)
          rintro e w6 ⟨rfl, hb⟩
          have Hw6 := Lib.hid (Hw5.out.trans (hb.mono (by have := Hw5.out.size; omega)))
          clear hb
          obtain ⟨u1, b1, hD1⟩ := df_any (({ data := #[] } : ByteArray) ++ T) z (empty_app T hT)
          have HD1 := Lib.hid hD1
          clear hD1
          go_wp2_with fail
          (with_reducible refine (HD1.out.now _).mono ?_)
          rintro e w7 ⟨rfl, hb⟩
          have Hw7 := Lib.hid (Hw6.out.trans (hb.mono (by have := Hw6.out.size; omega)))
          clear hb
          go_wp2_with fail
          (with_reducible refine (HF2.out.now _).mono ?_)
          rintro e w8 ⟨rfl, hb⟩
          have Hw8 := Lib.hid (Hw7.out.trans (hb.mono (by have := Hw7.out.size; omega)))
          clear hb
          obtain ⟨Hx, hH, hX1, hX2⟩ := hex_some T hT
          have HX1 := Lib.hid hX1
          have HX2 := Lib.hid hX2
          clear hX1 hX2
          go_wp2_with fail
          (with_reducible refine (HX1.out.now _).mono ?_)
          rintro e wa ⟨rfl, hb⟩
          have Hwa := Lib.hid (Hw8.out.trans (hb.mono (by have := Hw8.out.size; omega)))
          clear hb
          go_wp2_with fail
          (with_reducible refine (HX2.out.now _).mono ?_)
          rintro e wb ⟨rfl, hb⟩
          have Hwb := Lib.hid (Hwa.out.trans (hb.mono (by have := Hwa.out.size; omega)))
          clear hb
          obtain ⟨Dn, hN1, hN2, hN3⟩ := num_some y y0 y1
          have HN1 := Lib.hid hN1
          have HN2 := Lib.hid hN2
          have HN3 := Lib.hid hN3
          clear hN1 hN2 hN3
          have hTT : (T.toList == T.toList) = true := by simp
          have hDD : (Dn.toList == Dn.toList) = true := by simp
          have hHH : (Hx.size : Int) = 2 * (T.size : Int) := by omega
          go_wp2_with fail
          (with_reducible refine (HN1.out.now _ (HT.out.below Hwb.out HT.out.lt)).mono ?_)
          rintro e wc ⟨rfl, hb⟩
          have Hwc := Lib.hid (Hwb.out.trans (hb.mono (by have := Hwb.out.size; omega)))
          clear hb
          by_cases hsm : -1000000000 < y ∧ y < 1000000000
          · have q1 : decide (-1000000000 < y) = true := by simpa using hsm.1
            have q2 : decide (y < 1000000000) = true := by simpa using hsm.2
            have HN4 := Lib.hid (show GivesT 18 #[.string Dn] (.tuple #[.int .i64 y, .bool true]) by have h := HN3.out; rw [if_pos hsm, decide_eq_true hsm] at h; exact h)
            obtain ⟨p1, p2⟩ := hsm
            go_wp2_with fail
            (with_reducible refine (HN4.out.now _ (HT.out.below Hwc.out HT.out.lt)).mono ?_)
            rintro e wd ⟨rfl, hb⟩
            have Hwd := Lib.hid (Hwc.out.trans (hb.mono (by have := Hwc.out.size; omega)))
            clear hb
            go_wp2_with fail
            (with_reducible refine (HN2.out.now _).mono ?_)
            rintro e we ⟨rfl, hb⟩
            have Hwe := Lib.hid (Hwd.out.trans (hb.mono (by have := Hwd.out.size; omega)))
            clear hb
            go_wp2
            go_ret
            exact ⟨rfl, Hwe.out⟩
          · have HN4 := Lib.hid (show GivesT 18 #[.string Dn] (.tuple #[.int .i64 0, .bool false]) by have h := HN3.out; rw [if_neg hsm, decide_eq_false hsm] at h; exact h)
            go_wp2_with fail
            (with_reducible refine (HN4.out.now _ (HT.out.below Hwc.out HT.out.lt)).mono ?_)
            rintro e wd ⟨rfl, hb⟩
            have Hwd := Lib.hid (Hwc.out.trans (hb.mono (by have := Hwc.out.size; omega)))
            clear hb
            by_cases p1 : -1000000000 < y
            · have p2 : ¬ y < 1000000000 := fun h => hsm ⟨p1, h⟩
              have p3 : decide (y < 1000000000) = false := by simpa using p2
              clear hsm
              go_wp2_with fail
              (with_reducible refine (HN2.out.now _).mono ?_)
              rintro e we ⟨rfl, hb⟩
              have Hwe := Lib.hid (Hwd.out.trans (hb.mono (by have := Hwd.out.size; omega)))
              clear hb
              go_wp2
              go_ret
              exact ⟨rfl, Hwe.out⟩
            · have p3 : decide (-1000000000 < y) = false := by simpa using p1
              clear hsm
              go_wp2_with fail
              (with_reducible refine (HN2.out.now _).mono ?_)
              rintro e we ⟨rfl, hb⟩
              have Hwe := Lib.hid (Hwd.out.trans (hb.mono (by have := Hwd.out.size; omega)))
              clear hb
              go_wp2
              go_ret
              exact ⟨rfl, Hwe.out⟩

end Go.Proofs.YtamdmflofbpjkaaDoor.Num
