/- The contracts of the model's l31Sort and SortOnce. -/
import Derived.Test.YtamepojgpeblpaaTwo31
import Derived.Test.YtamepojgpeblpaaSpec10A
import Derived.BigQuiet
namespace Go.Proofs.Ytamepojgpeblpaa
open Go.ChangeShapes Go.WideShapes Go.ChangeAt Go.RowKit
set_option linter.unusedVariables false

set_option maxRecDepth 100000 in
set_option maxHeartbeats 3200000 in
theorem l31Sort (v : Value) (xs : List Int) (lo hi : Nat) (w : World) (hv : OwnI w lo hi v xs) (hhi : hi ≤ w.heap.size) (hl : xs.length ≤ 1048576) :
    Calls Try.prog 44 #[v] w fun e w' => ∃ v', e = .returned v' ∧ OwnI w' w.heap.size w'.heap.size v' (sortP xs) ∧ Below w.heap.size w w' := by
  obtain ⟨A1, c1, rfl, k1⟩ := id hv
  clear k1
  have HV := Lib.hid hv
  clear hv
  go_enter Try.func44, Try.ntmps44
  go_wp2
  go_loopw [3, 4, 5] (fun x3 x4 x5 wr => ∃ i : Nat, i ≤ xs.length ∧ x5 = .int .i64 i ∧ RowN wr w.heap.size x3 (srO xs i) ∧ RowN wr w.heap.size x4 (srS xs i) ∧ Apt x3 x4 ∧ w.heap.size ≤ wr.heap.size ∧ Below w.heap.size w wr) (fun _ _ x5 _ => xs.length - (intOf x5).toNat)
  case atStart => exact ⟨0, Nat.zero_le _, rfl, (RowN.made w _ _ rfl (Nat.le_refl _)).allocN _, RowN.made (w.alloc _) _ _ (by simp) (by omega), by intro k e e2; simp [Value.ownBlock] at e e2; omega, by simp; omega, ((Below.refl _ _).alloc (Nat.le_refl _) _).alloc (by simp) _⟩
  case round =>
    obtain ⟨i, hi1, rfl, ho, hs, hap, hsz, hb⟩ := hrel
    have HO := Lib.hid ho
    have HS := Lib.hid hs
    have HAP := Lib.hid hap
    have HB := Lib.hid hb
    have hln := sr_len xs i hi1
    clear ho hs hap hb
    by_cases hlt : i < xs.length
    · have hii : (i : Int) < (xs.length : Int) := by omega
      have HSO := Lib.hid (show srO xs (i + 1) = srO xs i ++ (srS xs i).reverse.take (tkN (srS xs i) (xs.getD i 0)) from rfl)
      have HSS := Lib.hid (show srS xs (i + 1) = (srS xs i).take ((srS xs i).length - tkN (srS xs i) (xs.getD i 0)) ++ [xs.getD i 0] from rfl)
      have htl := tk_le (srS xs i) (xs.getD i 0)
      have HLT := Lib.hid (fun j => @tk_lt (srS xs i) (xs.getD i 0) j)
      have HEN := Lib.hid (@tk_end (srS xs i) (xs.getD i 0))
      have HX := Lib.hid (show xs.getD i 0 = xs.getD i 0 from rfl)
      have HC := Lib.hid (fun wr (hb : Below w.heap.size w wr) => (HV.out.keep hb hhi).cell hlt)
      generalize xs.getD i 0 = x at HSO HSS htl HLT HEN HC
      generalize srS xs i = S at *
      generalize srO xs i = O at *
      generalize tkN S x = K at *
      go_wp2
      go_loopw [3, 4] (fun x3 x4 wr => ∃ j : Nat, j ≤ K ∧ RowN wr w.heap.size x3 (O ++ S.reverse.take j) ∧ RowN wr w.heap.size x4 (S.take (S.length - j)) ∧ Apt x3 x4 ∧ w.heap.size ≤ wr.heap.size ∧ Below w.heap.size w wr) (fun _ x4 _ => vLen x4)
      case atStart => exact ⟨0, Nat.zero_le _, by simpa using HO.out, by simpa using HS.out, HAP.out, hsz, HB.out⟩
      case round =>
        clear HO HS HAP HB
        obtain ⟨j, hj, ho, hs, hap, hsz, hb⟩ := hrel
        have HO := Lib.hid ho
        have HS := Lib.hid hs
        have HAP := Lib.hid hap
        have HB := Lib.hid hb
        obtain ⟨g1, p1, e1, -, -, hc1, -⟩ := HC.out _ hb
        simp only [Value.slice.injEq] at e1
        obtain ⟨rfl, -, rfl⟩ := e1
        have hll : (S.take (S.length - j)).length = S.length - j := by rw [List.length_take]; omega
        have hol : (O ++ S.reverse.take j).length = O.length + j := by rw [List.length_append, List.length_take, List.length_reverse]; omega
        clear ho hs hap hb
        obtain ⟨A2, cap, e2, hA⟩ := HS.out.form
        subst e2
        by_cases hjS : j < S.length
        · obtain ⟨m1, m2, m3, m4⟩ := sr_mid O hjS
          obtain ⟨g2, rfl, hg2, hg3, hcp⟩ := hA (by omega)
          obtain ⟨hc2, hf2⟩ := HS.out.cell (j := S.length - j - 1) (by omega)
          rw [m2] at hc2
          have HE1 := Lib.hid HEN.out
          have HL1 := Lib.hid (HLT.out j)
          have HCUT := Lib.hid HS.out.cut
          rw [m3] at HCUT
          have HM4 := Lib.hid m4
          have hz1 := fun h : j < K => (HLT.out j h).2
          have hz2 := fun h : K = j => HEN.out (by omega)
          have hz3 : K = j → x ≤ S.getD (S.length - 1 - j) 0 := fun h => by have := hz2 h; rw [h] at this; exact this
          have HZ3 := Lib.hid hz3
          have HZ1 := Lib.hid hz1
          clear m2 m3 m4 hA hz1 hz2 hz3 HE1 HL1
          generalize S.getD (S.length - 1 - j) 0 = z at *
          rw [m1] at hcp HCUT HS HAP ⊢
          have hTl := m1
          clear m1
          generalize hT : S.take (S.length - j) = T at HS hTl hll
          have HTT := Lib.hid hT
          clear hT
          have HJ := Lib.hid (show S.length - (j + 1) = S.length - j - 1 by omega)
          obtain ⟨l, hl2⟩ : ∃ l, l = S.length - j - 1 := ⟨_, rfl⟩
          have hm : S.length - j = l + 1 := by omega
          rw [← hl2] at hc2 hf2
          rw [hm] at hcp HCUT HS HAP ⊢
          have hli : ((l + 1 : Nat) : Int) - 1 = (l : Int) := by omega
          have hlL : (l : Int) < ((l + 1 : Nat) : Int) := by omega
          have hlc : (l : Int) ≤ (cap : Int) := by omega
          have hpos : (0 : Int) < ((l + 1 : Nat) : Int) := by omega
          have HL := Lib.hid hl2
          clear hl2
          by_cases hjk : j < K
          · have hzx := HZ1.out hjk
            have hrw := fun k (e : some k = u3.ownBlock) => (World.ownsRow.lt HO.out k e.symm).1
            have HRW := Lib.hid hrw
            clear hrw
            go_wp2
            go_quiet (fail)
            go_wp2_with (at_builtin; go_must (refine wpAppIntAt rfl _ _ rfl w.heap.size u3 _ (O ++ S.reverse.take j) rfl ((show RowN (wr.drewN nq) w.heap.size u3 (O ++ S.reverse.take j) from HO.out).allocN _) _ _ z rfl (cell_one (wr.drewN nq) _ _) (by omega) (by simp; omega) ?_); intro v' w' hown' hg' hat'; go_must (have HT := Lib.hid (RowN.two (w := (wr.drewN nq).alloc (.cells #[.int .i64 z] 3)) (w' := w') (HCUT.out.allocN _) HAP.out.cut.symm hg' hat')))
            have hz9 := hg'.size
            simp only [World.size_alloc, World.heap_drewN] at hz9
            refine ⟨⟨j + 1, by omega, by rw [HM4.out]; exact RowN.of_app hown', HT.out.1, HT.out.2.symm, by omega, ((below_drewN HB.out nq).alloc (by simpa using hsz) _).grown hg' (by simp <;> omega) (fun k hk => by have := HRW.out k hk.symm; omega)⟩, by simp [vLen] <;> omega⟩
          · obtain rfl : K = j := by omega
            have hzx : ¬ z < x := by have := HZ3.out rfl; omega
            have hrw := fun k (e : some k = (Value.slice (some (⟨g2, 0, none⟩ : Addr)) (l + 1) cap).ownBlock) => by simp [Value.ownBlock] at e; exact (show w.heap.size ≤ k by omega)
            have HRW := Lib.hid hrw
            clear hrw HZ1 HZ3
            go_wp2
            go_quiet (fail)
            go_wp2_with (at_builtin; go_must (refine wpAppIntAt rfl _ _ rfl w.heap.size _ _ T rfl ((show RowN (wr.drewN nq) w.heap.size _ T from HS.out).allocN _) _ _ x rfl (cell_one (wr.drewN nq) _ _) (by omega) (by simp; omega) ?_); intro v' w' hown' hg' hat'; go_must (have HT := Lib.hid (RowN.two (w := (wr.drewN nq).alloc (.cells #[.int .i64 x] 3)) (w' := w') ((show RowN (wr.drewN nq) w.heap.size u3 (O ++ S.reverse.take K) from HO.out).allocN _) HAP.out hg' hat')))
            have hz9 := hg'.size
            simp only [World.size_alloc, World.heap_drewN] at hz9
            refine ⟨⟨i + 1, by omega, by simp, by rw [HSO.out]; exact HT.out.1, by rw [HSS.out, HTT.out]; exact RowN.of_app hown', HT.out.2, by omega, ((below_drewN HB.out nq).alloc (by simpa using hsz) _).grown hg' (by simp <;> omega) (fun k hk => by have := HRW.out k hk.symm; omega)⟩, by simp [intOf]; omega⟩
        · obtain rfl : K = j := by omega
          have hKS : K = S.length := by omega
          have hl0 : (S.take (S.length - K)).length = 0 := by omega
          rw [hl0] at HS HAP ⊢
          have hrw := fun k (e : some k = (Value.slice A2 0 cap).ownBlock) => (World.ownsRow.lt HS.out k e.symm).1
          have HRW := Lib.hid hrw
          have HKS := Lib.hid hKS
          clear hrw hA hKS
          generalize hT : S.take (S.length - K) = T at *
          have HTT := Lib.hid hT
          have HL0 := Lib.hid hl0
          clear hT hl0 hll
          go_wp2
          go_quiet (fail)
          go_wp2_with (at_builtin; go_must (refine wpAppIntAt rfl _ _ rfl w.heap.size _ _ T rfl ((show RowN (wr.drewN nq) w.heap.size _ T from HS.out).allocN _) _ _ x rfl (cell_one (wr.drewN nq) _ _) (by rw [HL0.out]; omega) (by simp; omega) ?_); intro v' w' hown' hg' hat'; go_must (have HT := Lib.hid (RowN.two (w := (wr.drewN nq).alloc (.cells #[.int .i64 x] 3)) (w' := w') ((show RowN (wr.drewN nq) w.heap.size u3 (O ++ S.reverse.take K) from HO.out).allocN _) HAP.out hg' hat')))
          have hz9 := hg'.size
          simp only [World.size_alloc, World.heap_drewN] at hz9
          refine ⟨⟨i + 1, by omega, by simp, by rw [HSO.out]; exact HT.out.1, by rw [HSS.out]; exact RowN.of_app hown', HT.out.2, by omega, ((below_drewN HB.out nq).alloc (by simpa using hsz) _).grown hg' (by simp <;> omega) (fun k hk => by have := HRW.out k hk.symm; omega)⟩, by simp [intOf]; omega⟩
    · obtain rfl : i = xs.length := by omega
      have HP := Lib.hid (show sortP xs = srO xs xs.length ++ (srS xs xs.length).reverse from rfl)
      generalize srS xs xs.length = S at *
      generalize srO xs xs.length = O at *
      go_wp2
      go_loopw [3, 4] (fun x3 x4 wr => ∃ j : Nat, j ≤ S.length ∧ RowN wr w.heap.size x3 (O ++ S.reverse.take j) ∧ RowN wr w.heap.size x4 (S.take (S.length - j)) ∧ Apt x3 x4 ∧ w.heap.size ≤ wr.heap.size ∧ Below w.heap.size w wr) (fun _ x4 _ => vLen x4)
      case atStart => exact ⟨0, Nat.zero_le _, by simpa using HO.out, by simpa using HS.out, HAP.out, hsz, HB.out⟩
      case round =>
        clear HO HS HAP HB
        obtain ⟨j, hj, ho, hs, hap, hsz, hb⟩ := hrel
        have HO := Lib.hid ho
        have HS := Lib.hid hs
        have HAP := Lib.hid hap
        have HB := Lib.hid hb
        have hll : (S.take (S.length - j)).length = S.length - j := by rw [List.length_take]; omega
        have hol : (O ++ S.reverse.take j).length = O.length + j := by rw [List.length_append, List.length_take, List.length_reverse]; omega
        clear ho hs hap hb
        obtain ⟨A2, cap, e2, hA⟩ := HS.out.form
        subst e2
        by_cases hjS : j < S.length
        · obtain ⟨m1, m2, m3, m4⟩ := sr_mid O hjS
          obtain ⟨g2, rfl, hg2, hg3, hcp⟩ := hA (by omega)
          obtain ⟨hc2, hf2⟩ := HS.out.cell (j := S.length - j - 1) (by omega)
          rw [m2] at hc2
          have HCUT := Lib.hid HS.out.cut
          rw [m3] at HCUT
          have HM4 := Lib.hid m4
          clear m2 m3 m4 hA
          generalize S.getD (S.length - 1 - j) 0 = z at *
          rw [m1] at hcp HCUT ⊢
          have HJ := Lib.hid (show S.length - (j + 1) = S.length - j - 1 by omega)
          obtain ⟨l, hl2⟩ : ∃ l, l = S.length - j - 1 := ⟨_, rfl⟩
          have hm : S.length - j = l + 1 := by omega
          rw [← hl2] at hc2 hf2
          rw [hm] at hcp HCUT ⊢
          have hli : ((l + 1 : Nat) : Int) - 1 = (l : Int) := by omega
          have hlL : (l : Int) < ((l + 1 : Nat) : Int) := by omega
          have hlc : (l : Int) ≤ (cap : Int) := by omega
          have hpos : (0 : Int) < ((l + 1 : Nat) : Int) := by omega
          have HL := Lib.hid hl2
          clear hl2
          have hrw := fun k (e : some k = u3.ownBlock) => (World.ownsRow.lt HO.out k e.symm).1
          have HRW := Lib.hid hrw
          clear hrw
          go_wp2_with (at_builtin; go_must (refine wpAppIntAt rfl _ _ rfl w.heap.size u3 _ (O ++ S.reverse.take j) rfl (HO.out.allocN _) _ _ z rfl (cell_one wr _ _) (by omega) (by simp; omega) ?_); intro v' w' hown' hg' hat'; go_must (have HT := Lib.hid (RowN.two (w := wr.alloc (.cells #[.int .i64 z] 3)) (w' := w') (HCUT.out.allocN _) HAP.out.cut.symm hg' hat')))
          have hz9 := hg'.size
          simp only [World.size_alloc] at hz9
          refine ⟨⟨j + 1, by omega, by rw [HM4.out]; exact RowN.of_app hown', HT.out.1, HT.out.2.symm, by omega, (HB.out.alloc hsz _).grown hg' (by simp <;> omega) (fun k hk => by have := HRW.out k hk.symm; omega)⟩, by simp [vLen] <;> omega⟩
        · obtain rfl : j = S.length := by omega
          have hl0 : ¬ (0 : Int) < ((S.take (S.length - S.length)).length : Int) := by omega
          have HR := Lib.hid (show RowN wr w.heap.size u3 (sortP xs) by rw [HP.out, ← (sr_none S O).2]; exact HO.out)
          generalize S.take (S.length - S.length) = T at *
          go_wp2
          go_ret
          exact ⟨_, rfl, OwnI.of_row HR.out, HB.out⟩

set_option maxRecDepth 100000 in
set_option maxHeartbeats 1600000 in
theorem sortOnce (v : Value) (xs : List Int) (lo hi : Nat) (w : World) (hv : OwnI w lo hi v xs) (hhi : hi ≤ w.heap.size) (hl : xs.length ≤ 1048576) :
    Calls Try.prog 14 #[v] w (AnsIB (sortOP xs) (permB xs) w) := by
  have HV := Lib.hid hv
  have HM := Lib.hid (isPermutation _ xs lo hi w hv (by omega))
  clear hv
  rcases hm : permB xs with _ | _
  · have HP := Lib.hid (show sortOP xs = [] from if_neg (by simp [hm]))
    rw [hm] at HM
    clear hm
    go_enter Try.func14, Try.ntmps14
    go_wp2_with fail
    (with_reducible refine HM.out.mono ?_)
    rintro e w' ⟨rfl, q0, rfl⟩
    go_wp2
    go_ret2
    exact ⟨_, rfl, by rw [HP.out]; exact ⟨_, _, rfl, .inl rfl⟩, (below_drewN (Below.refl _ _) _).alloc (Nat.le_refl _) _⟩
  · have HP := Lib.hid (show sortOP xs = sortP xs from if_pos hm)
    have HVD := Lib.hid (fun q => show OwnI (w.drewN q) lo hi v xs from HV.out)
    have HHI := Lib.hid (fun q => show hi ≤ (w.drewN q).heap.size from hhi)
    rw [hm] at HM
    clear hm
    go_enter Try.func14, Try.ntmps14
    go_wp2_with fail
    (with_reducible refine HM.out.mono ?_)
    rintro e w' ⟨rfl, q0, rfl⟩
    go_wp2_with fail
    (with_reducible refine (l31Sort _ xs lo hi _ (HVD.out q0) (HHI.out q0) hl).mono ?_)
    rintro e w2 ⟨v2, rfl, ho, hb⟩
    have HO := Lib.hid ho
    have HB := Lib.hid hb
    clear ho hb
    go_wp2
    go_ret2
    exact ⟨_, rfl, by rw [HP.out]; exact HO.out, (below_drewN (Below.refl _ _) q0).trans HB.out⟩

set_option maxRecDepth 100000 in
set_option maxHeartbeats 1600000 in
theorem l31Sorted (v : Value) (xs : List Int) (lo hi : Nat) (w : World) (hv : OwnI w lo hi v xs) (hl : xs.length ≤ 1048576) :
    Calls Try.prog 50 #[v] w fun e w' => e = .returned (.bool (idP xs)) ∧ w = w' := by
  obtain ⟨A1, c1, rfl, k1⟩ := id hv
  clear k1
  have HV := Lib.hid hv
  clear hv
  go_enter Try.func50, Try.ntmps50
  go_wp2
  go_loop [3] (fun y => ∃ i : Nat, i ≤ xs.length ∧ y = .int .i64 i ∧ ∀ j, j < i → xs.getD j 0 = (j : Int)) (fun y => xs.length - (intOf y).toNat)
  case atStart => exact ⟨0, Nat.zero_le _, rfl, fun j h => absurd h (Nat.not_lt_zero _)⟩
  case round =>
    obtain ⟨i, hi1, rfl, hno⟩ := hrel
    have HNO := Lib.hid hno
    clear hno
    by_cases hlt : i < xs.length
    · obtain ⟨g1, p1, e1, -, -, hc1, -⟩ := HV.out.cell hlt
      simp only [Value.slice.injEq] at e1
      obtain ⟨rfl, -, rfl⟩ := e1
      have hii : (i : Int) < (xs.length : Int) := by omega
      by_cases e : xs.getD i 0 = (i : Int)
      · have HE := Lib.hid e
        rw [e] at hc1
        have hee : ((i : Int) != (i : Int)) = false := by simp
        clear e
        go_wp2
        refine ⟨⟨i + 1, by omega, by simp, fun j hj => ?_⟩, by simp [intOf]; omega⟩
        by_cases e : j < i
        · exact HNO.out j e
        · obtain rfl : j = i := by omega
          exact HE.out
      · have HE := Lib.hid (idP_no hlt e)
        generalize xs.getD i 0 = z at hc1 e
        have hee : (z != (i : Int)) = true := by simpa using e
        clear e
        go_wp2
        go_ret
        exact ⟨ret_bool HE.out.symm, rfl⟩
    · obtain rfl : i = xs.length := by omega
      have HE := Lib.hid (show idP xs = true from decide_eq_true HNO.out)
      go_wp2
      go_ret
      exact ⟨ret_bool HE.out.symm, rfl⟩

end Go.Proofs.Ytamepojgpeblpaa
