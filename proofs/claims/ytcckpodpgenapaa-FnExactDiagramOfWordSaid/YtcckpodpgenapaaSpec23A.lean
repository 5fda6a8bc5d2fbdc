/- The model's IsDiagram, IdentityDiagram, HookDiagram, ThroughOf, FlipDiagram. -/
import Derived.Test.YtcckpodpgenapaaFact23
import Derived.Test.YtcckpodpgenapaaTkB
namespace Go.Proofs.Ytcckpodpgenapaa
open Go.ChangeShapes Go.WideShapes Go.ChangeAt Go.RowKit
set_option linter.unusedVariables false

theorem l1In_nay (x lo hi : Int) (w : World) (h : ¬ (lo ≤ x ∧ x ≤ hi)) :
    Calls Try.prog 45 #[.int .i64 x, .int .i64 lo, .int .i64 hi] w fun e w' => e = .returned (.bool false) ∧ w = w' := by
  by_cases h1 : lo ≤ x
  · exact l1In_no2 x lo hi w h1 (by omega)
  · exact l1In_no1 x lo hi w (by omega)

theorem isDiagram (A : Option Addr) (xs : List Int) (cap lo hi : Nat) (w : World) (hv : OwnI w lo hi (.slice A xs.length cap) xs) (hhi : hi ≤ w.heap.size) (hl : xs.length ≤ 1099511627776) :
    Calls Try.prog 15 #[.slice A xs.length cap] w fun e w' => e = .returned (.bool (diaB xs)) ∧ Below w.heap.size w w' := by
  have HN := Lib.hid (noncrossing _ xs lo hi w hv hl)
  clear hv
  by_cases h2 : 2 ≤ xs.length
  · have h2i : decide ((2 : Int) ≤ (xs.length : Int)) = true := decide_eq_true (by omega)
    have h2j : (2 : Int) ≤ (xs.length : Int) := by omega
    have HP := Lib.hid (show diaB xs = (crossP xs == 0) by unfold diaB; rw [decide_eq_true h2]; rfl)
    generalize (crossP xs == 0) = z at *
    go_enter Try.func15, Try.ntmps15
    go_wp2_with fail
    (with_reducible refine HN.out.mono ?_)
    rintro e w' ⟨rfl, hb⟩
    go_wp2
    go_ret
    exact ⟨ret_bool HP.out.symm, hb⟩
  · have h2i : decide ((2 : Int) ≤ (xs.length : Int)) = false := decide_eq_false (by omega)
    have h2j : ¬ (2 : Int) ≤ (xs.length : Int) := by omega
    have HP := Lib.hid (show diaB xs = false by unfold diaB; rw [decide_eq_false h2]; rfl)
    go_enter Try.func15, Try.ntmps15
    go_wp2
    go_ret
    exact ⟨ret_bool HP.out.symm, Below.refl _ _⟩

set_option maxRecDepth 100000 in
set_option maxHeartbeats 1600000 in
theorem identityDiagram (n : Int) (w : World) : Calls Try.prog 19 #[.int .i64 n] w (AnsIB (idP n) (idOk n) w) := by
  by_cases hn : 1 ≤ n ∧ n ≤ 8
  · obtain ⟨N, rfl⟩ : ∃ N : Nat, n = N := ⟨n.toNat, by omega⟩
    have h1 : (1 : Int) ≤ (N : Int) := hn.1
    have h8 : (N : Int) ≤ 8 := hn.2
    have HO := Lib.hid (show idOk N = true from decide_eq_true hn)
    obtain ⟨M, hM⟩ : ∃ M : Nat, M = 2 * N := ⟨_, rfl⟩
    have HP := Lib.hid (show idP N = idA M M by unfold idP; rw [if_pos HO.out, Int.toNat_natCast, idL_eq, hM])
    have hM2 : (2 : Int) * (N : Int) = (M : Int) := by omega
    have hM16 : M ≤ 16 := by omega
    have wM : IntKind.i64.wrap (M : Int) = (M : Int) := IntWalk.i64_in _ (by omega)
    have wM1 : IntKind.i64.wrap ((M : Int) - 1) = (M : Int) - 1 := IntWalk.i64_in _ (by omega)
    clear hn hM
    go_enter Try.func19, Try.ntmps19
    go_wp2_with fail
    (with_reducible refine (l1In_yes _ 1 8 _ h1 h8).mono ?_)
    rintro e w' ⟨rfl, rfl⟩
    go_wp2
    go_loopw [4, 5] (fun v y wr => ∃ i : Nat, i ≤ M ∧ y = .int .i64 i ∧ wr.ownsRow w.heap.size 3 1 v (idA M i).length ((idA M i).map (Value.int .i64)) ∧ Below w.heap.size w wr) (fun _ y _ => M - (intOf y).toNat)
    case atStart => exact ⟨0, Nat.zero_le _, rfl, World.ownsRow_made w #[] 0 (Nat.le_refl _) (Nat.zero_le _) (by simp), (Below.refl _ _).alloc (Nat.le_refl _) _⟩
    case round =>
      obtain ⟨i, hi, rfl, hown, hb⟩ := hrel
      have hl2 : (idA M i).length ≤ 1000 := by rw [idA_len]; omega
      have HS := Lib.hid (idA_succ M i)
      have hB := hb.size
      by_cases hlt : i < M
      · have hii : (i : Int) < (M : Int) := by omega
        have wM2 : IntKind.i64.wrap ((M : Int) - 1 - (i : Int)) = (M : Int) - 1 - (i : Int) := IntWalk.i64_in _ (by omega)
        generalize idA M i = acc at *
        go_wp2_with (at_builtin; go_must (refine wpAppInt rfl _ _ rfl w.heap.size u4 _ _ rfl (hown.alloc _) wr.heap.size _ _ rfl (cell_one _ _ _) (by omega) (base_up hB) ?_); intro v' w' hown' hg')
        go_roundw
        case rel => exact ⟨i + 1, by omega, by simp, by rw [HS.out, List.length_append]; simpa using hown', (hb.alloc hB _).grown hg' (base_up hB) (fun k hk => (hown.lt k hk).1)⟩
        case measure => simp [intOf]; omega
      · obtain rfl : i = M := by omega
        have HOW := Lib.hid (OwnI.of_row hown)
        clear hown hl2
        generalize idA i i = acc at *
        go_wp2
        go_ret2
        exact ⟨_, ret_ib rfl HO.out.symm, by rw [HP.out]; exact HOW.out, hb⟩
  · have HO := Lib.hid (show idOk n = false from decide_eq_false hn)
    have HP := Lib.hid (show idP n = [] by unfold idP; rw [HO.out]; rfl)
    go_enter Try.func19, Try.ntmps19
    go_wp2_with fail
    (with_reducible refine (l1In_nay _ 1 8 _ hn).mono ?_)
    rintro e w' ⟨rfl, rfl⟩
    go_wp2
    go_ret2
    exact ⟨_, ret_ib rfl HO.out.symm, by rw [HP.out]; exact ⟨_, _, rfl, .inl rfl⟩, (Below.refl _ _).alloc (Nat.le_refl _) _⟩
theorem identityDiagram_yes {N : Nat} (h1 : 1 ≤ N) (h8 : N ≤ 8) (w : World) : Calls Try.prog 19 #[.int .i64 (N : Int)] w (AnsIB (idL N) true w) := by
  have h := identityDiagram (N : Int) w
  have ho : idOk (N : Int) = true := decide_eq_true (by omega)
  rw [show idP (N : Int) = idL N by unfold idP; rw [if_pos ho, Int.toNat_natCast], ho] at h
  exact h
theorem identityDiagram_no {n : Int} (hn : ¬ (1 ≤ n ∧ n ≤ 8)) (w : World) : Calls Try.prog 19 #[.int .i64 n] w (AnsIB [] false w) := by
  have h := identityDiagram n w
  have ho : idOk n = false := decide_eq_false hn
  rw [show idP n = [] by unfold idP; rw [ho]; rfl, ho] at h
  exact h

set_option maxRecDepth 100000 in
set_option maxHeartbeats 1600000 in
theorem hookDiagram (n i : Int) (w : World) : Calls Try.prog 23 #[.int .i64 n, .int .i64 i] w (AnsIB (hkP n i) (hkOk n i) w) := by
  by_cases hn : 1 ≤ n ∧ n ≤ 8
  · obtain ⟨N, rfl⟩ : ∃ N : Nat, n = N := ⟨n.toNat, by omega⟩
    have h1 : (1 : Int) ≤ (N : Int) := hn.1
    have h8 : (N : Int) ≤ 8 := hn.2
    have HID := Lib.hid (fun W => identityDiagram_yes (N := N) (by omega) (by omega) W)
    have wN2 : IntKind.i64.wrap ((N : Int) - 2) = (N : Int) - 2 := IntWalk.i64_in _ (by omega)
    by_cases hi : 0 ≤ i ∧ i ≤ (N : Int) - 2
    · obtain ⟨I, rfl⟩ : ∃ I : Nat, i = I := ⟨i.toNat, by omega⟩
      have HO := Lib.hid (show hkOk N I = true from decide_eq_true ⟨h1, h8, hi.1, hi.2⟩)
      have HP := Lib.hid (show hkP N I = hkL N I by unfold hkP; rw [if_pos HO.out, Int.toNat_natCast, Int.toNat_natCast])
      have hi0 : (0 : Int) ≤ (I : Int) := hi.1
      have hi2 : (I : Int) ≤ (N : Int) - 2 := hi.2
      obtain ⟨M, hM⟩ : ∃ M : Nat, M = 2 * N := ⟨_, rfl⟩
      obtain ⟨p1, hp1⟩ : ∃ p : Nat, p = I + 1 := ⟨_, rfl⟩
      obtain ⟨a, ha⟩ : ∃ p : Nat, p = 2 * N - 1 - I := ⟨_, rfl⟩
      obtain ⟨b, hb⟩ : ∃ p : Nat, p = 2 * N - 2 - I := ⟨_, rfl⟩
      have HL := Lib.hid (show hkL N I = ((((idL N).set I (p1 : Int)).set p1 (I : Int)).set a (b : Int)).set b (a : Int) by
        unfold hkL
        rw [← ha, ← hb, ← hp1]
        have e1 : (I : Int) + 1 = (p1 : Int) := by omega
        have e2 : 2 * (N : Int) - 2 - (I : Int) = (b : Int) := by omega
        have e3 : 2 * (N : Int) - 1 - (I : Int) = (a : Int) := by omega
        rw [e1, e2, e3])
      have r1 : (I : Int) + 1 = (p1 : Int) := by omega
      have r2 : (2 : Int) * (N : Int) = (M : Int) := by omega
      have r3 : (M : Int) - 1 - (I : Int) = (a : Int) := by omega
      have r4 : (a : Int) - 1 = (b : Int) := by omega
      have b1 : I < M := by omega
      have b2 : p1 < M := by omega
      have b3 : a < M := by omega
      have b4 : b < M := by omega
      have i1 : (I : Int) < (M : Int) := by omega
      have i2 : (p1 : Int) < (M : Int) := by omega
      have i3 : (a : Int) < (M : Int) := by omega
      have i4 : (b : Int) < (M : Int) := by omega
      have hM16 : M ≤ 16 := by omega
      have w1 : IntKind.i64.wrap (p1 : Int) = (p1 : Int) := IntWalk.i64_in _ (by omega)
      have w2 : IntKind.i64.wrap (M : Int) = (M : Int) := IntWalk.i64_in _ (by omega)
      have w3 : IntKind.i64.wrap (a : Int) = (a : Int) := IntWalk.i64_in _ (by omega)
      have w4 : IntKind.i64.wrap (b : Int) = (b : Int) := IntWalk.i64_in _ (by omega)
      have w5 : IntKind.i64.wrap ((M : Int) - 1) = (M : Int) - 1 := IntWalk.i64_in _ (by omega)
      have HLEN := Lib.hid (show (idL N).length = M by rw [idL_len, hM])
      clear hM hp1 ha hb hn hi
      go_enter Try.func23, Try.ntmps23
      go_wp2_with fail
      (with_reducible refine (HID.out _).mono ?_)
      rintro e w1 ⟨v, rfl, ho, hb⟩
      obtain ⟨g, p, rfl, hg, -, -, -⟩ := ho.cell (j := I) (by rw [HLEN.out]; exact b1)
      rw [HLEN.out] at ho
      have HB := Lib.hid hb
      have HO0 := Lib.hid ho
      rw [show (idL N).length = M from HLEN.out]
      obtain ⟨z0, c0, f0⟩ := ho.at (j := I) (by rw [HLEN.out]; exact b1)
      have HO1 := Lib.hid (ho.setL (j := I) (by rw [HLEN.out]; exact b1) (p1 : Int))
      obtain ⟨z1, c1, f1⟩ := HO1.out.at (j := p1) (by rw [List.length_set, HLEN.out]; exact b2)
      have HO2 := Lib.hid (HO1.out.setL (j := p1) (by rw [List.length_set, HLEN.out]; exact b2) (I : Int))
      obtain ⟨z2, c2, f2⟩ := HO2.out.at (j := a) (by rw [List.length_set, List.length_set, HLEN.out]; exact b3)
      have HO3 := Lib.hid (HO2.out.setL (j := a) (by rw [List.length_set, List.length_set, HLEN.out]; exact b3) (b : Int))
      obtain ⟨z3, c3, f3⟩ := HO3.out.at (j := b) (by rw [List.length_set, List.length_set, List.length_set, HLEN.out]; exact b4)
      have HO4 := Lib.hid (HO3.out.setL (j := b) (by rw [List.length_set, List.length_set, List.length_set, HLEN.out]; exact b4) (a : Int))
      clear ho hb
      go_wp2_with fail
      (with_reducible refine (l1In_yes _ 0 _ _ hi0 hi2).mono ?_)
      rintro e w' ⟨rfl, rfl⟩
      go_wp2
      go_ret2
      refine ⟨_, ret_ib rfl HO.out.symm, ?_, (((HB.out.setCell hg _).setCell hg _).setCell hg _).setCell hg _⟩
      rw [HP.out, HL.out]
      simpa [World.setCell] using HO4.out
    · have HO := Lib.hid (show hkOk N i = false from decide_eq_false fun h => hi ⟨h.2.2.1, h.2.2.2⟩)
      have HP := Lib.hid (show hkP N i = [] by unfold hkP; rw [HO.out]; rfl)
      go_enter Try.func23, Try.ntmps23
      go_wp2_with fail
      (with_reducible refine (HID.out _).mono ?_)
      rintro e w1 ⟨v, rfl, ho, hb⟩
      have HB := Lib.hid hb
      clear ho hb
      go_wp2_with fail
      (with_reducible refine (l1In_nay _ 0 _ _ hi).mono ?_)
      rintro e w' ⟨rfl, rfl⟩
      go_wp2
      go_ret2
      exact ⟨_, ret_ib rfl HO.out.symm, by rw [HP.out]; exact ⟨_, _, rfl, .inl rfl⟩, HB.out.alloc HB.out.size _⟩
  · have HO := Lib.hid (show hkOk n i = false from decide_eq_false fun h => hn ⟨h.1, h.2.1⟩)
    have HP := Lib.hid (show hkP n i = [] by unfold hkP; rw [HO.out]; rfl)
    have HID := Lib.hid (fun W => identityDiagram_no hn W)
    go_enter Try.func23, Try.ntmps23
    go_wp2_with fail
    (with_reducible refine (HID.out _).mono ?_)
    rintro e w1 ⟨v, rfl, ho, hb⟩
    have HB := Lib.hid hb
    clear ho hb
    go_wp2
    go_ret2
    exact ⟨_, ret_ib rfl HO.out.symm, by rw [HP.out]; exact ⟨_, _, rfl, .inl rfl⟩, HB.out.alloc HB.out.size _⟩

set_option maxRecDepth 100000 in
set_option maxHeartbeats 1600000 in
theorem throughOf (A : Option Addr) (xs : List Int) (cap lo hi : Nat) (w : World) (hv : OwnI w lo hi (.slice A xs.length cap) xs) (hhi : hi ≤ w.heap.size) (hl : xs.length ≤ 1099511627776) :
    Calls Try.prog 29 #[.slice A xs.length cap] w fun e w' => e = .returned (.int .i64 (thP xs)) ∧ Below w.heap.size w w' := by
  have HM := Lib.hid (isDiagram A xs cap lo hi w hv hhi hl)
  have HV := Lib.hid hv
  clear hv
  rcases hm : diaB xs with _ | _
  · have HP := Lib.hid (show thP xs = -1 from if_neg (by simp [hm]))
    rw [hm] at HM
    clear hm
    go_enter Try.func29, Try.ntmps29
    go_wp2_with fail
    (with_reducible refine HM.out.mono ?_)
    rintro e w' ⟨rfl, hb⟩
    go_wp2
    go_ret
    exact ⟨ret_int HP.out.symm, hb⟩
  · have HP := Lib.hid (show thP xs = (thN xs (xs.length / 2) : Int) from if_pos hm)
    have h16 := (dia_match hm).2.2
    rw [hm] at HM
    clear hm
    obtain ⟨H, hH⟩ : ∃ H : Nat, H = xs.length / 2 := ⟨_, rfl⟩
    have q1 : ((xs.length : Int)).tdiv 2 = (H : Int) := by rw [Int.tdiv_eq_ediv_of_nonneg (by omega)]; omega
    have q2 : (xs.length : Int) / 2 = (H : Int) := by omega
    have q3 : IntKind.i64.wrap (H : Int) = (H : Int) := IntWalk.i64_in _ (by omega)
    have HTH := Lib.hid (fun k => show thN xs (k + 1) = thN xs k + if (H : Int) ≤ xs.getD k 0 then 1 else 0 by rw [thN, hH])
    have HLE := Lib.hid (fun k (h : k ≤ 16) => show thN xs k ≤ 16 from Nat.le_trans (thN_le xs k) h)
    rw [← hH] at HP
    have hH2 : H ≤ xs.length := by omega
    clear hH
    go_enter Try.func29, Try.ntmps29
    go_wp2_with fail
    (with_reducible refine HM.out.mono ?_)
    rintro e w1 ⟨rfl, hb⟩
    have HB := Lib.hid hb
    have HV1 := Lib.hid (HV.out.keep hb hhi)
    clear hb
    go_wp2
    go_loopw [3, 4] (fun x y wr => ∃ k : Nat, k ≤ H ∧ y = .int .i64 k ∧ x = .int .i64 (thN xs k : Nat) ∧ wr = w1) (fun _ y _ => H - (intOf y).toNat)
    case atStart => exact ⟨0, Nat.zero_le _, rfl, rfl, rfl⟩
    case round =>
      obtain ⟨k, hk, rfl, rfl, rfl⟩ := hrel
      have hle := HLE.out k (by omega)
      have HT := Lib.hid (HTH.out k)
      generalize hn : thN xs k = n at *
      by_cases hlt : k < H
      · obtain ⟨g1, p1, e1, -, -, hc1, -⟩ := HV1.out.cell (j := k) (by omega)
        simp only [Value.slice.injEq] at e1
        obtain ⟨rfl, -, rfl⟩ := e1
        have hki : (k : Int) < (H : Int) := by omega
        have hkl : (k : Int) < (xs.length : Int) := by omega
        generalize xs.getD k 0 = y at hc1 HT
        clear hn
        by_cases hy : (H : Int) ≤ y
        · have HE := Lib.hid (HT.out.trans (by rw [if_pos hy]))
          have d1 : decide ((H : Int) ≤ y) = true := decide_eq_true hy
          go_wp2
          exact ⟨⟨k + 1, by omega, by simp, by rw [HE.out]; simp, by first | rfl | trivial⟩, by simp [intOf]; omega⟩
        · have HE := Lib.hid (HT.out.trans (by rw [if_neg hy]))
          have d1 : decide ((H : Int) ≤ y) = false := decide_eq_false hy
          go_wp2
          exact ⟨⟨k + 1, by omega, by simp, by rw [HE.out]; rfl, by first | rfl | trivial⟩, by simp [intOf]; omega⟩
      · obtain rfl : k = H := by omega
        have HN := Lib.hid hn
        clear hn
        go_wp2
        go_ret
        exact ⟨ret_int (by rw [HP.out, HN.out]), HB.out⟩

set_option maxRecDepth 100000 in
set_option maxHeartbeats 1600000 in
theorem flipDiagram (A : Option Addr) (xs : List Int) (cap lo hi : Nat) (w : World) (hv : OwnI w lo hi (.slice A xs.length cap) xs) (hhi : hi ≤ w.heap.size) (hl : xs.length ≤ 1099511627776) :
    Calls Try.prog 33 #[.slice A xs.length cap] w (AnsIB (flP xs) (diaB xs) w) := by
  have HM := Lib.hid (isDiagram A xs cap lo hi w hv hhi hl)
  have HV := Lib.hid hv
  clear hv
  rcases hm : diaB xs with _ | _
  · have HP := Lib.hid (show flP xs = [] from if_neg (by simp [hm]))
    rw [hm] at HM
    clear hm
    go_enter Try.func33, Try.ntmps33
    go_wp2_with fail
    (with_reducible refine HM.out.mono ?_)
    rintro e w' ⟨rfl, hb⟩
    have HB := Lib.hid hb
    clear hb
    go_wp2
    go_ret2
    exact ⟨_, rfl, by rw [HP.out]; exact ⟨_, _, rfl, .inl rfl⟩, HB.out.alloc HB.out.size _⟩
  · have HP := Lib.hid (show flP xs = flL xs from if_pos hm)
    obtain ⟨hmt, h2, h16⟩ := dia_match hm
    have HMT := Lib.hid (match_yes hmt).2
    rw [hm] at HM
    clear hm hmt
    obtain ⟨i0, hi0, hz0, hz1, hz2⟩ := info_parts info3
    go_enter Try.func33, Try.ntmps33
    go_wp2_with fail
    (with_reducible refine HM.out.mono ?_)
    rintro e w1 ⟨rfl, hb⟩
    have HB := Lib.hid hb
    have hsz := hb.size
    have HV1 := Lib.hid (HV.out.keep hb hhi)
    clear hb
    go_wp2_with (at_make; go_must (refine wpList_make_full _ rfl _ _ 22 rfl w1.heap.size 3 i0 (.int .i64 0) 1 Try.underlying22 hi0 hz0 hz1 .i64 .i64 (xs.length : Int) (xs.length : Int) xs.length rfl rfl rfl rfl (by rw [hz2]; omega) (by unfold maxLen; omega) (Nat.le_refl _) ?_); intro w2 hown1 hgrow1)
    have HT0 := Lib.hid (show TabI w2 w1.heap.size xs.length (flF xs 0) by rw [flF_zero]; exact TabI.made hown1)
    have HB2 := Lib.hid ((Below.refl w1.heap.size w1).grown hgrow1 (Nat.le_refl _) (fun k hk => by cases hk))
    clear hown1 hgrow1
    go_wp2
    go_loopw [5] (fun y wr => ∃ i : Nat, i ≤ xs.length ∧ y = .int .i64 i ∧ TabI wr w1.heap.size xs.length (flF xs i) ∧ Below w1.heap.size w1 wr) (fun y _ => xs.length - (intOf y).toNat)
    case atStart => exact ⟨0, Nat.zero_le _, rfl, HT0.out, HB2.out⟩
    case round =>
      obtain ⟨i, hi, rfl, htab, hb⟩ := hrel
      have HT := Lib.hid htab
      have HB3 := Lib.hid hb
      clear htab hb HT0 HB2
      by_cases hlt : i < xs.length
      · obtain ⟨m0, m1, -, -⟩ := HMT.out i hlt
        obtain ⟨g1, p1, e1, -, -, hc1, -⟩ := (HV1.out.keep HB3.out (by omega)).cell hlt
        simp only [Value.slice.injEq] at e1
        obtain ⟨rfl, -, rfl⟩ := e1
        have HNX := Lib.hid (flF_succ xs hlt)
        obtain ⟨q, hq⟩ : ∃ q : Nat, q = xs.length - 1 - i := ⟨_, rfl⟩
        have HQ := Lib.hid (show xs.length - 1 - i = q from hq.symm)
        have hql : q < xs.length := by omega
        have r1 : (xs.length : Int) - 1 - (i : Int) = (q : Int) := by omega
        have hqi : (q : Int) < (xs.length : Int) := by omega
        have hii : (i : Int) < (xs.length : Int) := by omega
        have v1 : IntKind.i64.wrap ((xs.length : Int) - 1) = (xs.length : Int) - 1 := IntWalk.i64_in _ (by omega)
        have v2 : IntKind.i64.wrap (q : Int) = (q : Int) := IntWalk.i64_in _ (by omega)
        generalize xs.getD i 0 = y at *
        have v3 : IntKind.i64.wrap ((xs.length : Int) - 1 - y) = (xs.length : Int) - 1 - y := IntWalk.i64_in _ (by omega)
        obtain ⟨hc2, hf2⟩ := HT.out.cell (j := q) hql
        generalize flF xs i q = y0 at hc2
        clear hq m0 m1
        go_wp2
        go_roundw
        case rel => exact ⟨i + 1, by omega, by simp, by rw [HNX.out, HQ.out]; exact HT.out.set hql _, HB3.out.setCell (p := ⟨w1.heap.size, q, none⟩) (Nat.le_refl _) _⟩
        case measure => simp [intOf]; omega
      · obtain rfl : i = xs.length := by omega
        go_wp2
        go_ret2
        refine ⟨_, rfl, ?_, HB.out.trans (HB3.out.mono hsz)⟩
        rw [HP.out]
        exact OwnI.of_tab HT.out (flL_len xs) (Nat.le_refl _) (fun q hq => flF_all xs hq) hsz HT.out.lt

end Go.Proofs.Ytcckpodpgenapaa
