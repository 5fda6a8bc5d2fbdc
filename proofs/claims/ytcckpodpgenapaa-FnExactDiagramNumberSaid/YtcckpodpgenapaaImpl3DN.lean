/- The contract of the program's RankPath. -/
import Derived.Test.YtcckpodpgenapaaImpl3B
import Derived.Test.YtcckpodpgenapaaImpl2B
import Derived.Test.YtcckpodpgenapaaImpl2C
namespace Go.Proofs.Ytcckpodpgenapaa
open Go.ChangeShapes Go.WideShapes Go.ChangeAt Go.RowKit
set_option linter.unusedVariables false

theorem TabB.iterAt {w : World} {k g : Nat} {f : Nat → Int} {s : ByteArray} {i j : Nat} (h : TabB w g f) (hk : AtS w k s i) : TabB (w.iterAt k s j) g f := by
  obtain ⟨C, h1, h2⟩ := h
  have hne : g ≠ k := by
    intro e
    unfold AtS at hk
    rw [e, hk] at h1
    simp at h1
  exact ⟨C, (Lib.iterAt_other _ _ _ _ _ hne).trans h1, h2⟩
theorem all_ballots : ballotCells.all (·.oneCell') = true := Array.all_eq_true_iff_forall_mem.2 (fun v hv => by
  simp only [ballotCells, List.mem_toArray, List.mem_map] at hv
  obtain ⟨q, -, rfl⟩ := hv
  rfl)
theorem TabB.stored (w : World) : TabB ((w.alloc (.cells Z256 69)).setRow w.heap.size ballotCells) w.heap.size wyQ := by
  refine TabB.of (setRow_heap _ _ Z256 _ _ (0, 0) ?_)
  rw [show (w.alloc (.cells Z256 69)).heap = w.heap.push (.cells Z256 69) from rfl]
  simp

set_option maxRecDepth 100000 in
set_option maxHeartbeats 1600000 in
theorem rankPathI (s : ByteArray) (w : World) : Calls Try.prog 53 #[.string s] w fun e w' => e = .returned (.int .i64 (rankP s)) ∧ Below w.heap.size w w' := by
  rcases hd : dyck s with _ | _
  · have HP := Lib.hid (show rankP s = -1 from if_neg (by simp [hd]))
    have HD := Lib.hid hd
    clear hd
    go_enter Try.func53, Try.ntmps53
    go_wp2_with fail
    (with_reducible refine (isDyckI_no s _ HD.out).mono ?_)
    rintro e w' ⟨rfl, hb⟩
    go_wp2
    go_ret
    exact ⟨ret_int HP.out.symm, hb⟩
  · have HP := Lib.hid (show rankP s = rkL (rest s 0) (s.size / 2) (s.size / 2) from if_pos hd)
    have HS := Lib.hid (ends_start hd)
    have HD := Lib.hid hd
    have h16 := dyck_size hd
    have hdiv : (s.size : Int) / 2 = ((s.size / 2 : Nat) : Int) := by omega
    have hm8 : s.size / 2 ≤ 8 := by omega
    have hz := zeroTab
    have hz0 : Z256.size = 256 := by simp [Z256]
    have HTS := Lib.hid TabB.stored
    have HSZ := Lib.hid ballot_size
    have HALL := Lib.hid all_ballots
    have HZS := Lib.hid hz0
    have HZC := Lib.hid (fun w : World => show (w.alloc (.cells Z256 69)).heap[w.heap.size]? = some (.cells Z256 69 (0, 0)) by
      rw [show (w.alloc (.cells Z256 69)).heap = w.heap.push (.cells Z256 69) from rfl]; simp)
    clear hd hz0
    generalize s.size / 2 = m at *
    go_enter Try.func53, Try.ntmps53
    go_wp2_with fail
    (with_reducible refine (isDyckI_yes s _ HD.out).mono ?_)
    rintro e w1 ⟨rfl, hb⟩
    have HB1 := Lib.hid hb
    have z1 := hb.size
    clear hb
    go_wp2_with fail
    refine (makeBallots _).mono ?_
    rintro e w2 ⟨rfl, hb⟩
    have HB2 := Lib.hid (HB1.out.trans (hb.mono z1))
    have z2 := HB2.out.size
    clear hb
    have HT2 := Lib.hid (HTS.out w2)
    have HZ2 := Lib.hid (HZC.out w2)
    have HB3 := Lib.hid (below_setRow (HB2.out.alloc z2 (.cells Z256 69)) z2 ballotCells)
    generalize Z256 = zz at *
    generalize ballotCells = cs at *
    go_wp2_with (refine wpList_store_row rfl _ _ _ rfl w2.heap.size cs rfl rfl 69 zz HZ2.out (by rw [HSZ.out]; exact sizeTab) (by rw [HZS.out, HSZ.out]) HALL.out ?_)
    have zB : w2.heap.size < ((w2.alloc (.cells zz 69)).setRow w2.heap.size cs).heap.size := by simp
    have zB2 : ((w2.alloc (.cells zz 69)).setRow w2.heap.size cs).heap.size = w2.heap.size + 1 := by simp
    obtain ⟨g, hg⟩ : ∃ g, g = w2.heap.size := ⟨_, rfl⟩
    rw [← hg] at HT2 HB3 zB zB2 z2
    rw [← hg]
    have HIT := Lib.hid (show AtS (((w2.alloc (.cells zz 69)).setRow g cs).iter s 0) (g + 1) s 0 by rw [← zB2]; exact World.iter_heap _ s 0)
    have HT3 := Lib.hid (HT2.out.alloc (.stringIter s 0))
    have HB4 := Lib.hid (HB3.out.alloc (by omega) (.stringIter s 0))
    clear hg
    go_loopw [4, 5, 6] (fun x y z wr => ∃ (i h u d : Nat) (n : Int), i ≤ s.size ∧ x = .int .i64 u ∧ y = .int .i64 d ∧ z = .int .i64 n ∧ u ≤ 8 ∧ d ≤ 8 ∧ d ≤ m ∧ 0 ≤ n ∧ n ≤ (m - d) * 4294967296 ∧ ends h u d (rest s i) ∧ n + rkL (rest s i) u d = rankP s ∧ AtS wr (g + 1) s i ∧ TabB wr g wyQ ∧ Below w.heap.size w wr) (fun _ _ _ wr => s.size - wr.iterPos (g + 1))
    case atStart => exact ⟨0, 0, m, m, 0, Nat.zero_le _, rfl, rfl, rfl, hm8, hm8, Nat.le_refl _, by omega, by omega, HS.out, by rw [HP.out]; omega, HIT.out, HT3.out, HB4.out⟩
    case round =>
      obtain ⟨i, h, u, d, n, hi, rfl, rfl, rfl, hu8, hd8, hdm, n0, n1, he, hr, hit, ht, hb⟩ := hrel
      have HE := Lib.hid he
      have HR := Lib.hid hr
      have HITR := Lib.hid hit
      have HT := Lib.hid ht
      have HB := Lib.hid hb
      clear he hr hit ht hb
      by_cases hlt : i < s.size
      · obtain ⟨W, hW⟩ : ∃ W, W = wr.iterAt (g + 1) s (i + 1) := ⟨_, rfl⟩
        have HIT1 := Lib.hid (show AtS W (g + 1) s (i + 1) by rw [hW]; exact HITR.out.move)
        have HTW := Lib.hid (show TabB W g wyQ by rw [hW]; exact HT.out.iterAt HITR.out)
        have HBW := Lib.hid (show Below w.heap.size w W by rw [hW]; exact Lib.below_iterAt HB.out (by omega) _ _)
        have hl := dyck_letter HD.out i hlt
        have HC := Lib.hid (rest_cons s i hlt)
        rcases hl with e1 | e1
        · have hnx := next_letter (P := Try.prog) wr _ s i 117 HITR.out hlt e1 (by omega)
          rw [← hW] at hnx
          have HN := Lib.hid (ends_up (by rw [← HC.out]; exact HE.out) e1)
          have HU := Lib.hid (rkL_up s[i] (rest s (i + 1)) u d e1)
          have hu1 := HN.out.1
          clear e1 hW
          go_wp2
          refine ⟨⟨i + 1, h + 1, u - 1, d, n, by omega, by congr 1; omega, rfl, rfl, by omega, by omega, by omega, n0, n1, HN.out.2, ?_, HIT1.out, HTW.out, HBW.out⟩, by rw [HIT1.out.pos, HITR.out.pos]; omega⟩
          rw [← HR.out, HC.out, HU.out]
        · have hnx := next_letter (P := Try.prog) wr _ s i 100 HITR.out hlt e1 (by omega)
          rw [← hW] at hnx
          have HN := Lib.hid (ends_down (by rw [← HC.out]; exact HE.out) (by omega))
          have HU := Lib.hid (show rkL (s[i] :: rest s (i + 1)) u d = ways u d + rkL (rest s (i + 1)) u (d - 1) from rkL_down s[i] (rest s (i + 1)) u d (by omega))
          have hd1 := HN.out.2.1
          have hbd : 0 ≤ ways u d ∧ ways u d ≤ 4294967296 := by
            unfold ways
            split
            · exact wy_small _ _ (by omega) (by omega)
            · omega
          clear e1 hW
          go_wp2_with fail
          refine (beginningUp g u d _ HTW.out (by omega) (by omega)).mono ?_
          rintro e w3 ⟨rfl, rfl⟩
          generalize ways u d = y at *
          have hd' : (d : Int) - 1 = ((d - 1 : Nat) : Int) := by omega
          have HD1 := Lib.hid hd'
          clear hd'
          go_wp2
          refine ⟨⟨i + 1, h - 1, u, d - 1, n + y, by omega, rfl, by congr 1, rfl, by omega, by omega, by omega, by omega, by have := HD1.out; omega, HN.out.2.2, ?_, HIT1.out, HTW.out, HBW.out⟩, by rw [HIT1.out.pos, HITR.out.pos]; omega⟩
          rw [← HR.out, HC.out, HU.out]; omega
      · have hnx := fun ty => Lib.run_next_end_at (P := Try.prog) wr _ s i ty HITR.out hlt
        have HEN := Lib.hid (rest_end s i (by omega))
        go_wp2
        go_ret
        refine ⟨ret_int ?_, HB.out⟩
        rw [← HR.out, HEN.out, rkL_nil]; omega

end Go.Proofs.Ytcckpodpgenapaa
