/- ReversionOf, the program (written by tools/mk30q.py). -/
import Derived.Test.YtbikipacfmaiaaaSpec30R
import Derived.Test.YtbikipacfmaiaaaOf30B
namespace Go.Proofs.Ytbikipacfmaiaaa
open Go.ChangeShapes Go.WideShapes Go.ChangeAt Go.RowKit
set_option linter.unusedVariables false

theorem ofI (A A' : Option Addr) (xs o : List Int) (cap cap' lo hi lo' hi' : Nat) (w : World) (hv : OwnI w lo hi (.slice A xs.length cap) xs) (hu : OwnI w lo' hi' (.slice A' xs.length cap') o) (ho : o.length = xs.length) (hhi : hi ≤ w.heap.size) (hhu : hi' ≤ w.heap.size) (h1 : 1 ≤ xs.length) (h8 : xs.length ≤ 8) (hcap : xs.length ≤ cap')
    (ha : ∀ q, -3 ≤ xs.getD q 0 ∧ xs.getD q 0 ≤ 3) (hd : Dom o) :
    Calls Try.prog 48 #[.slice A xs.length cap, .slice A' xs.length cap'] w fun e w' => ∃ g, w.heap.size ≤ g ∧ e = .returned (.slice (some ⟨g, 0, none⟩) xs.length xs.length) ∧ OwnI w' w.heap.size w'.heap.size (.slice (some ⟨g, 0, none⟩) xs.length xs.length) (ofL xs o xs.length xs.length) ∧ Below w.heap.size w w' :=
  (callsIn_wide (n := 6)).1 (ofIn 6 (Nat.le_refl _) A A' xs o cap cap' lo hi lo' hi' w hv hu ho hhi hhu h1 h8 hcap ha hd)

set_option maxRecDepth 100000 in
set_option maxHeartbeats 3200000 in
theorem reversionI (A : Option Addr) (xs : List Int) (cap lo hi : Nat) (w : World) (hv : OwnI w lo hi (.slice A xs.length cap) xs) (hhi : hi ≤ w.heap.size) (h2 : 2 ≤ xs.length) (h8 : xs.length ≤ 8) (ha : ∀ q, -3 ≤ xs.getD q 0 ∧ xs.getD q 0 ≤ 3) :
    Calls Try.prog 37 #[.slice A xs.length cap] w (AnsI (rvZ xs xs.length (xs.length - 2)) w) := by
  have HV := Lib.hid hv
  have HA := Lib.hid ha
  have HD := Lib.hid (fun m => rv_dom (N := xs.length) ha h8 m)
  have HZL := Lib.hid (fun m => rvZ_len xs xs.length m)
  have HNX := Lib.hid (fun m (h2 : 2 ≤ m) (hm : m < xs.length) => rvF_succ xs h2 hm)
  have HTW := Lib.hid (rvF_two xs xs.length)
  obtain ⟨i0, hi0, hz0, hz1, hzb⟩ := info_parts info3
  have h1i : 1 < xs.length := by omega
  have hn1 : (1 : Int) < (xs.length : Int) := by omega
  clear hv ha
  go_enter Try.func37, Try.ntmps37
  go_wp2_with (at_make; go_must (refine wpList_make_full _ rfl _ _ 38 rfl w.heap.size 3 i0 (.int .i64 0) 1 Try.underlying38 hi0 hz0 hz1 .i64 .i64 (xs.length : Int) (xs.length : Int) xs.length rfl rfl rfl rfl (by rw [hzb]; omega) (by unfold maxLen; omega) (Nat.le_refl _) ?_); intro w2 hown1 hgrow1; go_must (have HT0 := Lib.hid (show TabI w2 w.heap.size xs.length (fun _ => 0) from TabI.made hown1); have HB2 := Lib.hid ((Below.refl w.heap.size w).grown hgrow1 (Nat.le_refl _) (fun k hk => nomatch hk)); obtain ⟨hc3, hf3⟩ := HT0.out.cell (j := 1) h1i; have HT1 := Lib.hid (show TabI (w2.setCell ⟨w.heap.size, 1, none⟩ (.int .i64 1)) w.heap.size xs.length (rvF xs xs.length 2) from (HT0.out.set (k := 1) h1i 1).alike HTW.out); have HB3 := Lib.hid (HB2.out.setCell (p := ⟨w.heap.size, 1, none⟩) (Nat.le_refl _) (.int .i64 1)); clear hown1 hgrow1))
  clear hc3 hf3
  go_loopw [4] (fun y wr => ∃ m : Nat, 2 ≤ m ∧ m ≤ xs.length ∧ y = .int .i64 m ∧ TabI wr w.heap.size xs.length (rvF xs xs.length m) ∧ Below w.heap.size w wr) (fun y _ => xs.length - (intOf y).toNat)
  case atStart => exact ⟨2, Nat.le_refl _, by omega, rfl, HT1.out, HB3.out⟩
  case round =>
    obtain ⟨m, hm2, hmi, rfl, htab, hb⟩ := hrel
    have HT := Lib.hid htab
    have HB := Lib.hid hb
    have hB := hb.size
    have hltw := htab.lt
    clear htab hb HT0 HB2 HT1 HB3
    by_cases hlt2 : m < xs.length
    · have hmii : (m : Int) < (xs.length : Int) := by omega
      obtain ⟨t, ht⟩ : ∃ t, Hid (t = m - 2) := ⟨_, Lib.hid rfl⟩
      have HOV := Lib.hid (show OwnI wr w.heap.size (w.heap.size + 1) (.slice (some ⟨w.heap.size, 0, none⟩) xs.length xs.length) (rvZ xs xs.length t) from OwnI.of_tab HT.out (HZL.out t) (Nat.le_refl _) (fun j hj => by rw [ht.out]; rfl) (Nat.le_refl _) (Nat.lt_succ_self _))
      have HOF := Lib.hid (ofI A (some ⟨w.heap.size, 0, none⟩) xs (rvZ xs xs.length t) cap xs.length lo hi w.heap.size (w.heap.size + 1) wr (HV.out.keep HB.out hhi) HOV.out (HZL.out t) (Nat.le_trans hhi hB) hltw (by omega) h8 (Nat.le_refl _) HA.out (HD.out t))
      have HRES := Lib.hid (show (ofL xs (rvZ xs xs.length t) xs.length xs.length).getD m 0 = hS xs (rvZ xs xs.length t) xs.length m (m + 1) from of_hS (rvZ_nil t) hlt2)
      have HNM := Lib.hid (HNX.out m hm2 hlt2)
      rw [← ht.out] at HNM
      have b1 := hS_in (n := m) HA.out (HD.out t) h8 (m + 1) (by omega)
      have HLL := Lib.hid (ofL_len xs (rvZ xs xs.length t) xs.length xs.length)
      generalize hS xs (rvZ xs xs.length t) xs.length m (m + 1) = s at *
      generalize ofL xs (rvZ xs xs.length t) xs.length xs.length = R at *
      have v1 : IntKind.i64.wrap (-s) = -s := IntWalk.i64_in _ (by omega)
      go_wp2_with fail
      (with_reducible refine HOF.out.mono ?_)
      rintro e w4 ⟨g4, hg4, rfl, ho, hb⟩
      obtain ⟨g5, p5, e5, -, -, hc5, -⟩ := ho.cell (j := m) (by rw [HLL.out]; exact hlt2)
      simp only [Value.slice.injEq, Option.some.injEq, Addr.mk.injEq] at e5
      obtain ⟨⟨rfl, -⟩, -⟩ := e5
      rw [HRES.out] at hc5
      have HT4 := Lib.hid (HT.out.keep (hb.block _ hltw))
      have HB4 := Lib.hid (HB.out.trans (hb.mono hB))
      obtain ⟨hc3, hf3⟩ := HT4.out.cell (j := m) hlt2
      clear ho hb
      go_wp2
      exact ⟨⟨m + 1, by omega, by omega, by simp, by rw [HNM.out]; exact HT4.out.set (k := m) hlt2 _, HB4.out.setCell (p := ⟨w.heap.size, m, none⟩) (Nat.le_refl _) _⟩, by simp [intOf]; omega⟩
    · have hmx : m = xs.length := by omega
      have hmii : ¬ (m : Int) < (xs.length : Int) := by omega
      have HOW := Lib.hid (show OwnI wr w.heap.size wr.heap.size (.slice (some ⟨w.heap.size, 0, none⟩) xs.length xs.length) (rvZ xs xs.length (xs.length - 2)) from OwnI.of_tab HT.out (HZL.out _) (Nat.le_refl _) (fun j hj => by rw [hmx]; rfl) (Nat.le_refl _) hltw)
      go_wp2
      go_ret
      exact ⟨_, rfl, HOW.out, HB.out⟩

set_option maxRecDepth 100000 in
set_option maxHeartbeats 3200000 in
theorem reversionOfI (A : Option Addr) (xs : List Int) (cap lo hi : Nat) (w : World) (hv : OwnI w lo hi (.slice A xs.length cap) xs) (hhi : hi ≤ w.heap.size) (hcap : xs.length ≤ cap) (hl : xs.length ≤ 1099511627776) :
    Calls Try.prog 21 #[.slice A xs.length cap] w (AnsIB (rvP xs) (rvOk xs) w) := by
  have HW := Lib.hid (areWithin 3 A xs cap lo hi w (by omega) (by omega) hv hhi hl)
  have HV := Lib.hid hv
  by_cases h2 : xs.length < 2
  · have h2i : (xs.length : Int) < 2 := by omega
    have d2 : decide ((xs.length : Int) < 2) = true := decide_eq_true h2i
    have HO := Lib.hid (show rvOk xs = false from decide_eq_false fun h => by have := h.1.1; omega)
    have HP := Lib.hid (show rvP xs = [] from if_neg (by rw [HO.out]; simp))
    clear hv
    go_enter Try.func21, Try.ntmps21
    go_wp2
    go_ret2
    exact ⟨_, ret_ib rfl HO.out.symm, by rw [HP.out]; exact ⟨_, _, rfl, .inl rfl⟩, Below.refl _ _⟩
  have h2i : ¬ (xs.length : Int) < 2 := by omega
  have d2 : decide ((xs.length : Int) < 2) = false := decide_eq_false h2i
  by_cases h8 : 8 < xs.length
  · have h8i : (8 : Int) < (xs.length : Int) := by omega
    have d8 : decide ((8 : Int) < (xs.length : Int)) = true := decide_eq_true h8i
    have HO := Lib.hid (show rvOk xs = false from decide_eq_false fun h => by have := h.1.2; omega)
    have HP := Lib.hid (show rvP xs = [] from if_neg (by rw [HO.out]; simp))
    clear hv
    go_enter Try.func21, Try.ntmps21
    go_wp2
    go_ret2
    exact ⟨_, ret_ib rfl HO.out.symm, by rw [HP.out]; exact ⟨_, _, rfl, .inl rfl⟩, Below.refl _ _⟩
  have h8i : ¬ (8 : Int) < (xs.length : Int) := by omega
  have d8 : decide ((8 : Int) < (xs.length : Int)) = false := decide_eq_false h8i
  obtain ⟨g1, p1', e1, -, -, hc0, -⟩ := hv.cell (j := 0) (by omega)
  obtain ⟨g1', p1'', e1', -, -, hc1, -⟩ := hv.cell (j := 1) (by omega)
  simp only [Value.slice.injEq] at e1 e1'
  obtain ⟨rfl, -, rfl⟩ := e1
  simp only [Option.some.injEq, Addr.mk.injEq] at e1'
  obtain ⟨⟨rfl, -⟩, -⟩ := e1'
  have hn0 : (0 : Int) < (xs.length : Int) := by omega
  have hn1 : (1 : Int) < (xs.length : Int) := by omega
  clear hv
  by_cases ha0 : xs.getD 0 0 = 0
  case neg =>
    have HA0 := Lib.hid ha0
    have hne : (xs.getD 0 0 == 0) = false := beq_eq_false_iff_ne.2 ha0
    have hne2 : (xs.getD 0 0 != 0) = true := by simp only [bne, hne]; rfl
    have HO0 := Lib.hid (show rvOk xs = false from decide_eq_false fun h => HA0.out h.2.1.1)
    generalize xs.getD 0 0 = c0 at *
    generalize xs.getD 1 0 = c1 at *
    have HO := Lib.hid (show rvOk xs = false from decide_eq_false fun h => by have := HO0.out; unfold rvOk at this; exact (of_decide_eq_false this) h)
    have HP := Lib.hid (show rvP xs = [] from if_neg (by rw [HO.out]; simp))
    clear ha0
    go_enter Try.func21, Try.ntmps21
    go_wp2
    go_ret2
    exact ⟨_, ret_ib rfl HO.out.symm, by rw [HP.out]; exact ⟨_, _, rfl, .inl rfl⟩, Below.refl _ _⟩
  rw [ha0] at hc0
  by_cases ha1 : xs.getD 1 0 = 1
  case neg =>
    have HA0 := Lib.hid ha1
    have hne : (xs.getD 1 0 == 1) = false := beq_eq_false_iff_ne.2 ha1
    have hne2 : (xs.getD 1 0 != 1) = true := by simp only [bne, hne]; rfl
    have HO0 := Lib.hid (show rvOk xs = false from decide_eq_false fun h => HA0.out h.2.1.2)
    generalize xs.getD 1 0 = c1 at *
    have HO := Lib.hid (show rvOk xs = false from decide_eq_false fun h => by have := HO0.out; unfold rvOk at this; exact (of_decide_eq_false this) h)
    have HP := Lib.hid (show rvP xs = [] from if_neg (by rw [HO.out]; simp))
    clear ha0 ha1
    go_enter Try.func21, Try.ntmps21
    go_wp2
    go_ret2
    exact ⟨_, ret_ib rfl HO.out.symm, by rw [HP.out]; exact ⟨_, _, rfl, .inl rfl⟩, Below.refl _ _⟩
  rw [ha1] at hc1
  have HA0 := Lib.hid ha0
  have HA1 := Lib.hid ha1
  clear ha0 ha1
  rcases hb3 : inB 3 xs with _ | _
  · rw [hb3] at HW
    have HO := Lib.hid (show rvOk xs = false from decide_eq_false fun h => by have h3 := h.2.2; rw [hb3] at h3; cases h3)
    have HP := Lib.hid (show rvP xs = [] from if_neg (by rw [HO.out]; simp))
    clear hb3
    go_enter Try.func21, Try.ntmps21
    go_wp2_with fail
    (with_reducible refine HW.out.mono ?_)
    rintro e w1 ⟨rfl, hb⟩
    go_wp2
    go_ret2
    exact ⟨_, ret_ib rfl HO.out.symm, by rw [HP.out]; exact ⟨_, _, rfl, .inl rfl⟩, hb⟩
  · have HO := Lib.hid (show rvOk xs = true from decide_eq_true ⟨⟨by omega, by omega⟩, ⟨HA0.out, HA1.out⟩, hb3⟩)
    have HP := Lib.hid (show rvP xs = rvZ xs xs.length (xs.length - 2) from if_pos HO.out)
    have HR := Lib.hid (fun W (h : Below w.heap.size w W) => reversionI (some ⟨g1, 0, none⟩) xs cap lo hi W (HV.out.keep h hhi) (Nat.le_trans hhi h.size) (by omega) (by omega) (fun q => in_all hb3 (by omega) q))
    rw [hb3] at HW
    clear hb3
    go_enter Try.func21, Try.ntmps21
    go_wp2_with fail
    (with_reducible refine HW.out.mono ?_)
    rintro e w1 ⟨rfl, hb⟩
    have HB1 := Lib.hid hb
    clear hb
    go_wp2_with fail
    (with_reducible refine (HR.out _ ?h).mono ?_)
    case h => exact HB1.out
    rintro e w2 ⟨v2, rfl, ho, hb⟩
    have HO2 := Lib.hid (ho.wide HB1.out.size (Nat.le_refl _))
    have HB2 := Lib.hid (HB1.out.trans (hb.mono HB1.out.size))
    clear ho hb
    go_wp2
    go_ret2
    exact ⟨_, ret_ib rfl HO.out.symm, by rw [HP.out]; exact HO2.out, HB2.out⟩

end Go.Proofs.Ytbikipacfmaiaaa
