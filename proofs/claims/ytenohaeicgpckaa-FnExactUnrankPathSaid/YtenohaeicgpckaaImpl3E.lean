/- The contract of the program's UnrankPath. -/
import Derived.Test.YtenohaeicgpckaaImpl3D
import Derived.Test.YtenohaeicgpckaaBld
import Derived.Test.YtenohaeicgpckaaShelf
namespace Go.Proofs.Ytenohaeicgpckaa
open Go.ChangeShapes Go.WideShapes Go.ChangeAt Go.RowKit
set_option linter.unusedVariables false

set_option maxRecDepth 100000 in
set_option maxHeartbeats 3200000 in
theorem unrankPathI (n k : Int) (w : World) : Calls Try.prog 22 #[.int .i64 n, .int .i64 k] w fun e w' => e = .returned (.tuple #[.string (unrP n k), .bool (unrOk n k)]) ∧ Below w.heap.size w w' := by
  by_cases h0 : n < 0
  · have HN := Lib.hid (unr_no (n := n) (k := k) fun h => by have := h.1; omega)
    go_enter Try.func22, Try.ntmps22
    go_wp2
    go_ret2
    exact ⟨ret_sb HN.out.2.symm HN.out.1.symm, Below.refl _ _⟩
  have h0b : decide (n < 0) = false := by simpa using h0
  by_cases h1 : 8 < n
  · have HN := Lib.hid (unr_no (n := n) (k := k) fun h => by have := h.2.1; omega)
    go_enter Try.func22, Try.ntmps22
    go_wp2
    go_ret2
    exact ⟨ret_sb HN.out.2.symm HN.out.1.symm, Below.refl _ _⟩
  have h1b : decide (8 < n) = false := by simpa using h1
  by_cases k0 : k < 0
  · have HN := Lib.hid (unr_no (n := n) (k := k) fun h => by have := h.2.2.1; omega)
    go_enter Try.func22, Try.ntmps22
    go_wp2
    go_ret2
    exact ⟨ret_sb HN.out.2.symm HN.out.1.symm, Below.refl _ _⟩
  have k0b : decide (k < 0) = false := by simpa using k0
  have k0' : 0 ≤ k := by omega
  obtain ⟨m, rfl⟩ : ∃ m : Nat, n = m := ⟨n.toNat, by omega⟩
  have hm8 : m ≤ 8 := by omega
  have hm8b : decide (8 < m) = false := by simp; omega
  have hcat : catP (m : Int) = wy m m := if_pos (by omega)
  have hG : unrGood m k ↔ k < wy m m := ⟨fun h => h.2.2.2, fun h => ⟨by omega, by omega, k0', h⟩⟩
  by_cases kc : wy m m ≤ k
  · have HN := Lib.hid (unr_no (n := m) (k := k) fun h => by have := hG.1 h; omega)
    have HC := Lib.hid hcat
    clear hcat hG
    go_enter Try.func22, Try.ntmps22
    go_wp2_with fail
    refine (catalanNumberI (m : Int) _).mono ?_
    rw [HC.out]
    rintro e w' ⟨rfl, hb⟩
    go_wp2
    go_ret2
    exact ⟨ret_sb HN.out.2.symm HN.out.1.symm, hb⟩
  · have HN := Lib.hid (unr_yes (n := m) (k := k) (hG.2 (by omega)))
    have HC := Lib.hid hcat
    have kc' : k < wy m m := by omega
    have kcb : decide (wy m m ≤ k) = false := by simpa using kc
    have HK := Lib.hid kc'
    have hz := zeroTab
    have HTS := Lib.hid TabB.stored
    have HSZ := Lib.hid ballot_size
    have HALL := Lib.hid all_ballots
    have HZS := Lib.hid (show Z256.size = 256 by simp [Z256])
    have HZC := Lib.hid (fun w : World => show (w.alloc (.cells Z256 38)).heap[w.heap.size]? = some (.cells Z256 38 (0, 0)) by
      rw [show (w.alloc (.cells Z256 38)).heap = w.heap.push (.cells Z256 38) from rfl]; simp)
    clear hcat hG h0 h1 k0 kc'
    go_enter Try.func22, Try.ntmps22
    go_wp2_with fail
    refine (catalanNumberI (m : Int) _).mono ?_
    rw [HC.out]
    rintro e w1 ⟨rfl, hb⟩
    have HB1 := Lib.hid hb
    have z1 := hb.size
    clear hb
    go_wp2_with fail
    refine (makeBallots _).mono ?_
    rintro e w2 ⟨rfl, hb⟩
    have HB2 := Lib.hid (HB1.out.trans (hb.mono z1))
    have z2 := HB2.out.size
    clear hb
    have HT2 := Lib.hid (HTS.out w2)
    have HZ2 := Lib.hid (HZC.out w2)
    have HB3 := Lib.hid (below_setRow (HB2.out.alloc z2 (.cells Z256 38)) z2 ballotCells)
    generalize Z256 = zz at *
    generalize ballotCells = cs at *
    go_wp2_with (refine wpList_store_row rfl _ _ _ rfl w2.heap.size cs rfl rfl 38 zz HZ2.out (by rw [HSZ.out]; exact sizeTab) (by rw [HZS.out, HSZ.out]) HALL.out ?_)
    have zB2 : ((w2.alloc (.cells zz 38)).setRow w2.heap.size cs).heap.size = w2.heap.size + 1 := by simp
    obtain ⟨g, hg⟩ : ∃ g, g = w2.heap.size := ⟨_, rfl⟩
    rw [← hg] at HT2 HB3 zB2 z2
    rw [← hg]
    clear hg
    generalize hw3 : (w2.alloc (.cells zz 38)).setRow g cs = w3 at *
    have HF := Lib.hid (Lib.IsBuilderF.of (Lib.fresh_isBuilder 45 5 w3))
    rw [zB2] at HF
    have HT3 := Lib.hid (HT2.out.alloc (.cells #[.pointer none, .slice none 0 0] 45))
    have HB4 := Lib.hid (HB3.out.alloc (by omega) (.cells #[.pointer none, .slice none 0 0] 45))
    have hzz : (w3.alloc (.cells #[.pointer none, .slice none 0 0] 45)).heap.size = g + 2 := by simp; omega
    have HZZ := Lib.hid hzz
    clear hw3 hzz
    go_loopw [1, 7, 8, 32] (fun x y z q wr => ∃ (j u d : Nat) (c : Int) (acc : List UInt8), x = .int .i64 c ∧ y = .int .i64 u ∧ z = .int .i64 d ∧ q = .int .i64 j ∧ u + d + j = m + m ∧ u ≤ d ∧ d ≤ m ∧ 0 ≤ c ∧ c < wy u d ∧ acc.length = j ∧ acc ++ unrL (u + d) u d c = unrL (m + m) m m k ∧ Lib.IsBuilderF 45 5 (g + 1) (g + 1) (Lib.byteCells acc) wr ∧ TabB wr g wyQ ∧ Below w.heap.size w wr ∧ g + 1 ≤ wr.heap.size) (fun _ _ _ q _ => m + m - (intOf q).toNat)
    case atStart => exact ⟨0, m, m, k, [], rfl, rfl, rfl, rfl, rfl, Nat.le_refl _, Nat.le_refl _, k0', HK.out, rfl, rfl, HF.out, HT3.out, HB4.out, by rw [HZZ.out]; omega⟩
    case round =>
      obtain ⟨j, u, d, c, acc, rfl, rfl, rfl, rfl, hj, hud, hdm, c0, c1, hl, ha, hbl, ht, hb, hgz⟩ := hrel
      have HA := Lib.hid ha
      have HB := Lib.hid hb
      have HC1 := Lib.hid c1
      have HT := Lib.hid ht
      have HBL := Lib.hid hbl
      have HJ := Lib.hid hj
      have HL := Lib.hid hl
      have hbu := wy_small u d (by omega) (by omega)
      clear ha hb ht hbl
      by_cases hd0 : 0 < d
      · have hji : (j : Int) < 2 * (m : Int) := by omega
        obtain ⟨f, hf⟩ : ∃ f, u + d = f + 1 := ⟨u + d - 1, by omega⟩
        have HF1 := Lib.hid hf
        have hwb : 0 ≤ ways u d ∧ ways u d ≤ 4294967296 := by
          unfold ways
          split
          · exact wy_small _ _ (by omega) (by omega)
          · omega
        have hl16 : acc.length ≤ 16 := by omega
        clear hf hj hl
        by_cases hk : c < ways u d
        · have hu0 : 0 < u := by
            rcases u with _ | u
            · unfold ways at hk; simp at hk; omega
            · omega
          have HU := Lib.hid (unrL_up f u d c (by omega) hk)
          have HW := Lib.hid (show ways u d = wy (u - 1) d from if_pos hu0)
          have HK2 := Lib.hid hk
          have hkb : decide (c < ways u d) = true := by simpa using hk
          go_wp2_with fail
          refine (beginningUp g u d _ HT.out (by omega) (by omega)).mono ?_
          rintro e w4 ⟨rfl, rfl⟩
          go_wp2_with fail
          refine (writeByte (g + 1) (g + 1) _ 117 _ HBL.out (by rw [Lib.byteCells_length]; omega) hgz).mono ?_
          rintro e w5 ⟨rfl, h1, b1, -⟩
          have HBL1 := Lib.hid h1
          have HTN := Lib.hid (HT.out.below b1 (by omega))
          have HBN := Lib.hid (HB.out.trans (b1.mono (by have := z2; omega)))
          have hgz1 : g + 1 ≤ w5.heap.size := Nat.le_trans hgz b1.size
          clear h1 b1
          go_wp2
          refine ⟨⟨j + 1, u - 1, d, c, acc ++ [117], rfl, by congr 1; omega, rfl, by simp, by have := HJ.out; omega, by omega, hdm, c0, by rw [← HW.out]; exact HK2.out, by rw [List.length_append, HL.out]; rfl, ?_, ?_, HTN.out, HBN.out, hgz1⟩, by simp [intOf]; omega⟩
          · rw [← HA.out, HF1.out, HU.out, show u - 1 + d = f by have := HF1.out; omega]; simp
          · rw [Lib.byteCells_append]; exact Or.inr HBL1.out
        · have HU := Lib.hid (unrL_down f u d c (by omega) hk)
          have HR := Lib.hid (ways_rest u d c hd0 hud c0 c1 hk)
          have hkb : decide (c < ways u d) = false := by simpa using hk
          go_wp2_with fail
          refine (beginningUp g u d _ HT.out (by omega) (by omega)).mono ?_
          rintro e w4 ⟨rfl, rfl⟩
          go_wp2_with fail
          refine (writeByte (g + 1) (g + 1) _ 100 _ HBL.out (by rw [Lib.byteCells_length]; omega) hgz).mono ?_
          rintro e w5 ⟨rfl, h1, b1, -⟩
          have HBL1 := Lib.hid h1
          have HTN := Lib.hid (HT.out.below b1 (by omega))
          have HBN := Lib.hid (HB.out.trans (b1.mono (by have := z2; omega)))
          have hgz1 : g + 1 ≤ w5.heap.size := Nat.le_trans hgz b1.size
          clear h1 b1
          go_wp2
          refine ⟨⟨j + 1, u, d - 1, c - ways u d, acc ++ [100], rfl, rfl, by congr 1; omega, by simp, by have := HJ.out; omega, HR.out.1, by omega, HR.out.2.1, HR.out.2.2, by rw [List.length_append, HL.out]; rfl, ?_, ?_, HTN.out, HBN.out, hgz1⟩, by simp [intOf]; omega⟩
          · rw [← HA.out, HF1.out, HU.out, show u + (d - 1) = f by have := HF1.out; omega]; simp
          · rw [Lib.byteCells_append]; exact Or.inr HBL1.out
      · have hji : ¬ (j : Int) < 2 * (m : Int) := by omega
        have HD := Lib.hid (show u = 0 ∧ d = 0 by omega)
        clear hj hl
        go_wp2_with fail
        refine (Try.Builder_String_any_k (g + 1) (g + 1) acc _ HBL.out hgz).mono ?_
        rintro e w5 ⟨rfl, -, b1, -⟩
        go_wp2
        go_ret2
        refine ⟨ret_sb ?_ HN.out.1.symm, HB.out.trans (b1.mono (by have := z2; omega))⟩
        have h := HA.out
        rw [HD.out.2, unrL_end, List.append_nil] at h
        rw [HN.out.2, h]; rfl

end Go.Proofs.Ytenohaeicgpckaa
