/- The program's RankOfPartition, FinerMeet. -/
import Derived.Test.YtpkfgjlbkiiciaaFact19
import Derived.Test.YtpkfgjlbkiiciaaTabA
import Derived.BigRegion
namespace Go.Proofs.Ytpkfgjlbkiiciaa
open Go.ChangeShapes Go.WideShapes Go.ChangeAt Go.RowKit
set_option linter.unusedVariables false

/-- The pairs when the first i have been filled in. -/
def prF (c : Int) (xs ys : List Int) (i : Nat) : Nat → Int := fun q => if q < i then xs.getD q 0 * c + ys.getD q 0 else 0
theorem prF_zero (c : Int) (xs ys : List Int) : prF c xs ys 0 = fun _ => 0 := by funext q; unfold prF; rw [if_neg (by omega)]
theorem prF_succ (c : Int) (xs ys : List Int) (i : Nat) : prF c xs ys (i + 1) = upd (prF c xs ys i) i (xs.getD i 0 * c + ys.getD i 0) := by
  funext q
  unfold prF
  by_cases e : q = i
  · subst e; rw [upd_at, if_pos (by omega)]
  · rw [upd_ne _ _ e]
    by_cases h2 : q < i
    · rw [if_pos h2, if_pos (by omega)]
    · rw [if_neg h2, if_neg (by omega)]

theorem rankI (A : Option Addr) (xs : List Int) (cap lo hi : Nat) (w : World) (hv : OwnI w lo hi (.slice A xs.length cap) xs) (hhi : hi ≤ w.heap.size) (hm : prtB xs = true) :
    Calls Try.prog 28 #[.slice A xs.length cap] w fun e w' => e = .returned (.int .i64 (rkP xs)) ∧ Below w.heap.size w w' := by
  have HB := Lib.hid (blocksOfI A xs cap lo hi w hv hhi (fun y hy => by
    obtain ⟨i, hi, rfl⟩ := List.mem_iff_getElem.1 hy
    have := prt_lt hm hi
    rw [List.getD_eq_getElem?_getD, List.getElem?_eq_getElem hi] at this
    exact wf_small (by simp at this; omega)))
  have HP := Lib.hid (show rkP xs = (xs.length : Int) - (ptN xs xs.length : Int) from if_pos hm)
  have HL := Lib.hid (blP_len hm)
  have h8 := (prt_yes hm).1
  have hle := ptN_le xs xs.length
  clear hm hv
  generalize ptN xs xs.length = m at *
  have v1 : IntKind.i64.wrap ((xs.length : Int) - (m : Int)) = (xs.length : Int) - (m : Int) := IntWalk.i64_in _ (by omega)
  go_enter Try.func28, Try.ntmps28
  go_wp2_with fail
  (with_reducible refine HB.out.mono ?_)
  rintro e w1 ⟨v, vs, rfl, ht, hb⟩
  obtain ⟨B, c, rfl⟩ := ht.form
  rw [HL.out]
  clear ht
  go_wp2
  go_ret
  exact ⟨ret_int HP.out.symm, hb⟩

theorem rankOfPartitionI (A : Option Addr) (xs : List Int) (cap lo hi : Nat) (w : World) (hv : OwnI w lo hi (.slice A xs.length cap) xs) (hhi : hi ≤ w.heap.size) (hwf : ∀ y ∈ xs, (Lit.int .i64 y).wf = true) :
    Calls Try.prog 11 #[.slice A xs.length cap] w fun e w' => e = .returned (.int .i64 (rkP xs)) ∧ Below w.heap.size w w' := by
  have HM := Lib.hid (isPartitionI A xs cap lo hi w hv hhi hwf)
  have HV := Lib.hid hv
  clear hv
  rcases hm : prtB xs with _ | _
  · have HP := Lib.hid (show rkP xs = -1 from if_neg (by simp [hm]))
    rw [hm] at HM
    clear hm
    go_enter Try.func11, Try.ntmps11
    go_wp2_with fail
    (with_reducible refine HM.out.mono ?_)
    rintro e w' ⟨rfl, hb⟩
    go_wp2
    go_ret
    exact ⟨ret_int HP.out.symm, hb⟩
  · have HR := Lib.hid (fun W (h : OwnI W lo hi (.slice A xs.length cap) xs) (hh : hi ≤ W.heap.size) => rankI A xs cap lo hi W h hh hm)
    rw [hm] at HM
    clear hm
    go_enter Try.func11, Try.ntmps11
    go_wp2_with fail
    (with_reducible refine HM.out.mono ?_)
    rintro e w1 ⟨rfl, hb⟩
    have HB := Lib.hid hb
    have HV1 := Lib.hid (HV.out.keep hb hhi)
    have z1 := hb.size
    clear hb
    go_wp2_with fail
    (with_reducible refine (HR.out _ HV1.out (by omega)).mono ?_)
    rintro e w2 ⟨rfl, hb⟩
    have HB2 := Lib.hid (HB.out.trans (hb.mono z1))
    clear hb
    go_wp2
    go_ret
    exact ⟨rfl, HB2.out⟩

set_option maxRecDepth 100000 in
theorem arePartitionsI (A A' : Option Addr) (xs ys : List Int) (cap cap' lo hi lo' hi' : Nat) (w : World) (hv : OwnI w lo hi (.slice A xs.length cap) xs) (hu : OwnI w lo' hi' (.slice A' ys.length cap') ys) (hhi : hi ≤ w.heap.size) (hhu : hi' ≤ w.heap.size) (hwf : ∀ y ∈ xs, (Lit.int .i64 y).wf = true) (hwf' : ∀ y ∈ ys, (Lit.int .i64 y).wf = true) :
    Calls Try.prog 29 #[.slice A xs.length cap, .slice A' ys.length cap'] w fun e w' => e = .returned (.bool (twoB xs ys)) ∧ Below w.heap.size w w' := by
  have HM := Lib.hid (isPartitionI A xs cap lo hi w hv hhi hwf)
  have HN := Lib.hid (fun W (h : OwnI W lo' hi' (.slice A' ys.length cap') ys) (hh : hi' ≤ W.heap.size) => isPartitionI A' ys cap' lo' hi' W h hh hwf')
  have HU := Lib.hid hu
  clear hv hu
  rcases hx : prtB xs with _ | _
  · have HP := Lib.hid (show twoB xs ys = false by unfold twoB; rw [hx]; rfl)
    rw [hx] at HM
    clear hx
    go_enter Try.func29, Try.ntmps29
    go_wp2_with fail
    (with_reducible refine HM.out.mono ?_)
    rintro e w' ⟨rfl, hb⟩
    go_wp2
    go_ret
    exact ⟨ret_bool HP.out.symm, hb⟩
  rcases hy : prtB ys with _ | _
  · have HP := Lib.hid (show twoB xs ys = false by unfold twoB; rw [hx, hy]; rfl)
    rw [hx] at HM
    rw [hy] at HN
    clear hx hy
    go_enter Try.func29, Try.ntmps29
    go_wp2_with fail
    (with_reducible refine HM.out.mono ?_)
    rintro e w1 ⟨rfl, hb⟩
    have HB := Lib.hid hb
    have HU1 := Lib.hid (HU.out.keep hb hhu)
    have z1 := hb.size
    clear hb
    go_wp2_with fail
    (with_reducible refine (HN.out _ HU1.out (by omega)).mono ?_)
    rintro e w2 ⟨rfl, hb⟩
    have HB2 := Lib.hid (HB.out.trans (hb.mono z1))
    clear hb
    go_wp2
    go_ret
    exact ⟨ret_bool HP.out.symm, HB2.out⟩
  · have HP := Lib.hid (show twoB xs ys = ((xs.length : Int) == (ys.length : Int)) by
      unfold twoB; rw [hx, hy]
      by_cases e : xs.length = ys.length
      · rw [decide_eq_true e, e]; simp
      · rw [decide_eq_false e]; symm; simp; omega)
    rw [hx] at HM
    rw [hy] at HN
    clear hx hy
    generalize twoB xs ys = z at *
    go_enter Try.func29, Try.ntmps29
    go_wp2_with fail
    (with_reducible refine HM.out.mono ?_)
    rintro e w1 ⟨rfl, hb⟩
    have HB := Lib.hid hb
    have HU1 := Lib.hid (HU.out.keep hb hhu)
    have z1 := hb.size
    clear hb
    go_wp2_with fail
    (with_reducible refine (HN.out _ HU1.out (by omega)).mono ?_)
    rintro e w2 ⟨rfl, hb⟩
    have HB2 := Lib.hid (HB.out.trans (hb.mono z1))
    clear hb
    go_wp2
    go_ret
    exact ⟨ret_bool HP.out.symm, HB2.out⟩

set_option maxRecDepth 100000 in
set_option maxHeartbeats 1600000 in
theorem meetI (A A' : Option Addr) (xs ys : List Int) (n cap cap' lo hi lo' hi' : Nat) (w : World) (hv : OwnI w lo hi (.slice A n cap) xs) (hu : OwnI w lo' hi' (.slice A' n cap') ys) (hhi : hi ≤ w.heap.size) (hhu : hi' ≤ w.heap.size) (hx : prtB xs = true) (hy : prtB ys = true) (hn : n = xs.length) (hn' : n = ys.length) :
    Calls Try.prog 32 #[.slice A n cap, .slice A' n cap'] w (AnsI (rnO (prL (n : Int) xs ys n) n) w) := by
  have h8 : n ≤ 8 := by rw [hn]; exact (prt_yes hx).1
  have HBX := Lib.hid (fun i (hi : i < n) => prt_lt hx (i := i) (by omega))
  have HBY := Lib.hid (fun i (hi : i < n) => prt_lt hy (i := i) (by omega))
  have HV := Lib.hid hv
  have HU := Lib.hid hu
  have HE := Lib.hid hn
  have HE2 := Lib.hid hn'
  have HREN := Lib.hid (fun A lo hi W (h : OwnI W lo hi (.slice A n n) (prL (n : Int) xs ys n)) (hh : hi ≤ W.heap.size) => renumberBlocksI A (prL (n : Int) xs ys n) n lo hi W (by rw [prL_len]; exact h) hh (by
    intro y hy
    obtain ⟨q, hq, rfl⟩ := List.mem_map.1 hy
    rw [List.mem_range] at hq
    have a := HBX.out q hq
    have b := HBY.out q hq
    refine wf_small ?_
    have : xs.getD q 0 * (n : Int) ≤ 8 * 8 := Int.mul_le_mul (by omega) (by omega) (by omega) (by omega)
    have : 0 ≤ xs.getD q 0 * (n : Int) := Int.mul_nonneg (by omega) (by omega)
    omega))
  have HRP := Lib.hid (show renP (prL (n : Int) xs ys n) = rnO (prL (n : Int) xs ys n) n by unfold renP; rw [prL_len, if_pos h8])
  have HRO := Lib.hid (show renOk (prL (n : Int) xs ys n) = true by unfold renOk; rw [prL_len]; exact decide_eq_true h8)
  rw [prL_len, HRP.out, HRO.out] at HREN
  clear hv hu hx hy hn hn'
  obtain ⟨i0, hi0, hz0, hz1, hz2⟩ := info_parts info3
  go_enter Try.func32, Try.ntmps32
  go_wp2_with (at_make; go_must (refine wpList_make_full _ rfl _ _ 22 rfl w.heap.size 3 i0 (.int .i64 0) 1 Try.underlying22 hi0 hz0 hz1 .i64 .i64 (n : Int) (n : Int) n rfl rfl rfl rfl (by rw [hz2]; omega) (by unfold maxLen; omega) (Nat.le_refl _) ?_); intro w2 hown1 hgrow1)
  have HT0 := Lib.hid (show TabI w2 w.heap.size n (prF (n : Int) xs ys 0) by rw [prF_zero]; exact TabI.made hown1)
  have HB2 := Lib.hid ((Below.refl w.heap.size w).grown hgrow1 (Nat.le_refl _) (fun k hk => by cases hk))
  clear hown1 hgrow1
  go_wp2
  go_loopw [14] (fun y wr => ∃ i : Nat, i ≤ n ∧ y = .int .i64 i ∧ TabI wr w.heap.size n (prF (n : Int) xs ys i) ∧ Below w.heap.size w wr) (fun y _ => n - (intOf y).toNat)
  case atStart => exact ⟨0, Nat.zero_le _, rfl, HT0.out, HB2.out⟩
  case round =>
    obtain ⟨i, hi, rfl, htab, hb⟩ := hrel
    have HT := Lib.hid htab
    have HB3 := Lib.hid hb
    clear htab hb HT0 HB2
    by_cases hlt : i < n
    · obtain ⟨g1, p1, e1, -, -, hcx, -⟩ := (HV.out.keep HB3.out (by omega)).cell (j := i) (by rw [← HE.out]; exact hlt)
      obtain ⟨g2, p2, e2, -, -, hcy, -⟩ := (HU.out.keep HB3.out (by omega)).cell (j := i) (by rw [← HE2.out]; exact hlt)
      simp only [Value.slice.injEq] at e1 e2
      obtain ⟨rfl, -, -⟩ := e1
      obtain ⟨rfl, -, -⟩ := e2
      have HNX := Lib.hid (prF_succ (n : Int) xs ys i)
      have bx := HBX.out i hlt
      have byy := HBY.out i hlt
      have hii : (i : Int) < (n : Int) := by omega
      have hm1 : xs.getD i 0 * (n : Int) ≤ 8 * 8 := Int.mul_le_mul (by omega) (by omega) (by omega) (by omega)
      have hm0 : 0 ≤ xs.getD i 0 * (n : Int) := Int.mul_nonneg (by omega) (by omega)
      generalize xs.getD i 0 = x at *
      generalize ys.getD i 0 = y at *
      have v1 : IntKind.i64.wrap (x * (n : Int)) = x * (n : Int) := IntWalk.i64_in _ (by omega)
      have v2 : IntKind.i64.wrap (x * (n : Int) + y) = x * (n : Int) + y := IntWalk.i64_in _ (by omega)
      obtain ⟨hc2, hf2⟩ := HT.out.cell (j := i) hlt
      generalize prF (n : Int) xs ys i i = y0 at hc2
      clear hm0 hm1
      go_wp2
      go_region
      all_goals go_wp2
      all_goals go_roundw
      case rel => exact ⟨i + 1, by omega, by simp, by rw [HNX.out]; exact (HT.out.set hlt _).keep rfl, (HB3.out.setCell (p := ⟨w.heap.size, i, none⟩) (Nat.le_refl _) _).drew⟩
      case measure => simp [intOf]; omega
    · obtain rfl : i = n := by omega
      have HOW := Lib.hid (show OwnI wr w.heap.size wr.heap.size (.slice (some ⟨w.heap.size, 0, none⟩) i i) (prL (i : Int) xs ys i) from OwnI.of_tab HT.out (prL_len _ _ _ _) (Nat.le_refl _) (fun j hj => by rw [prL_at _ _ _ hj]; unfold prF; rw [if_pos hj]) (Nat.le_refl _) HT.out.lt)
      go_wp2_with fail
      (with_reducible refine (HREN.out _ _ _ _ HOW.out (Nat.le_refl _)).mono ?_)
      rintro e w3 ⟨v3, rfl, ho, hb⟩
      have HO3 := Lib.hid ho
      have hB := HB3.out.size
      have HB4 := Lib.hid (HB3.out.trans (hb.mono hB))
      clear hb ho
      go_wp2
      go_ret
      exact ⟨_, rfl, HO3.out.wide hB (Nat.le_refl _), HB4.out⟩

theorem finerMeetI (A A' : Option Addr) (xs ys : List Int) (cap cap' lo hi lo' hi' : Nat) (w : World) (hv : OwnI w lo hi (.slice A xs.length cap) xs) (hu : OwnI w lo' hi' (.slice A' ys.length cap') ys) (hhi : hi ≤ w.heap.size) (hhu : hi' ≤ w.heap.size) (hwf : ∀ y ∈ xs, (Lit.int .i64 y).wf = true) (hwf' : ∀ y ∈ ys, (Lit.int .i64 y).wf = true) :
    Calls Try.prog 16 #[.slice A xs.length cap, .slice A' ys.length cap'] w (AnsIB (meP xs ys) (twoB xs ys) w) := by
  have HM := Lib.hid (arePartitionsI A A' xs ys cap cap' lo hi lo' hi' w hv hu hhi hhu hwf hwf')
  have HV := Lib.hid hv
  have HU := Lib.hid hu
  clear hv hu
  rcases hm : twoB xs ys with _ | _
  · have HP := Lib.hid (show meP xs ys = [] from if_neg (by simp [hm]))
    rw [hm] at HM
    clear hm
    go_enter Try.func16, Try.ntmps16
    go_wp2_with fail
    (with_reducible refine HM.out.mono ?_)
    rintro e w' ⟨rfl, hb⟩
    have HB := Lib.hid hb
    clear hb
    go_wp2
    go_ret2
    exact ⟨_, rfl, by rw [HP.out]; exact ⟨_, _, rfl, .inl rfl⟩, HB.out⟩
  · obtain ⟨hx, hy, hlen, h8⟩ := two_yes hm
    have HP := Lib.hid (show meP xs ys = rnO (prL (xs.length : Int) xs ys xs.length) xs.length by unfold meP; rw [if_pos hm, meet_like hx hy hlen])
    rw [hm] at HM
    clear hm
    have HE := Lib.hid hlen
    have HME := Lib.hid (fun W (h : OwnI W lo hi (.slice A xs.length cap) xs) (h' : OwnI W lo' hi' (.slice A' xs.length cap') ys) (hh : hi ≤ W.heap.size) (hh' : hi' ≤ W.heap.size) => meetI A A' xs ys xs.length cap cap' lo hi lo' hi' W h h' hh hh' hx hy rfl hlen)
    rw [← hlen] at HM HU ⊢
    clear hx hy hlen
    go_enter Try.func16, Try.ntmps16
    go_wp2_with fail
    (with_reducible refine HM.out.mono ?_)
    rintro e w1 ⟨rfl, hb⟩
    have HB := Lib.hid hb
    have HV1 := Lib.hid (HV.out.keep hb hhi)
    have HU1 := Lib.hid (HU.out.keep hb hhu)
    have z1 := hb.size
    clear hb
    go_wp2_with fail
    (with_reducible refine (HME.out _ HV1.out HU1.out (by omega) (by omega)).mono ?_)
    rintro e w2 ⟨v, rfl, ho, hb⟩
    have HO2 := Lib.hid ho
    have HB2 := Lib.hid (HB.out.trans (hb.mono z1))
    clear hb ho
    go_wp2
    go_ret2
    exact ⟨_, rfl, by rw [HP.out]; exact HO2.out.wide z1 (Nat.le_refl _), HB2.out⟩

end Go.Proofs.Ytpkfgjlbkiiciaa
