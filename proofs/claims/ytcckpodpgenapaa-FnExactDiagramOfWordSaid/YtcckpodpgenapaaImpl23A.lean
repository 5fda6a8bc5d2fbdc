/- The program's IsDiagram, IdentityDiagram, HookDiagram, ThroughOf, FlipDiagram. -/
import Derived.Test.YtcckpodpgenapaaFact23
import Derived.Test.YtcckpodpgenapaaTkB
import Derived.Test.YtcckpodpgenapaaNonX
import Derived.Test.YtcckpodpgenapaaUpTo
namespace Go.Proofs.Ytcckpodpgenapaa
open Go.ChangeShapes Go.WideShapes Go.ChangeAt Go.RowKit
set_option linter.unusedVariables false

theorem isDiagramI (A : Option Addr) (xs : List Int) (cap lo hi : Nat) (w : World) (hv : OwnI w lo hi (.slice A xs.length cap) xs) (hhi : hi ≤ w.heap.size) (hl : xs.length ≤ 1099511627776) :
    Calls Try.prog 17 #[.slice A xs.length cap] w fun e w' => e = .returned (.bool (diaB xs)) ∧ Below w.heap.size w w' := by
  have HN := Lib.hid (noncrossingI A xs cap lo hi w hv hhi hl)
  clear hv
  by_cases h2 : 2 ≤ xs.length
  · have h2i : decide ((2 : Int) ≤ (xs.length : Int)) = true := decide_eq_true (by omega)
    have h2j : (2 : Int) ≤ (xs.length : Int) := by omega
    have HP := Lib.hid (show diaB xs = (crossP xs == 0) by unfold diaB; rw [decide_eq_true h2]; rfl)
    generalize (crossP xs == 0) = z at *
    go_enter Try.func17, Try.ntmps17
    go_wp2_with fail
    (with_reducible refine HN.out.mono ?_)
    rintro e w' ⟨rfl, hb⟩
    go_wp2
    go_ret
    exact ⟨ret_bool HP.out.symm, hb⟩
  · have h2i : decide ((2 : Int) ≤ (xs.length : Int)) = false := decide_eq_false (by omega)
    have h2j : ¬ (2 : Int) ≤ (xs.length : Int) := by omega
    have HP := Lib.hid (show diaB xs = false by unfold diaB; rw [decide_eq_false h2]; rfl)
    go_enter Try.func17, Try.ntmps17
    go_wp2
    go_ret
    exact ⟨ret_bool HP.out.symm, Below.refl _ _⟩

/-- The point below a point above. -/
theorem oppositeI (A : Option Addr) (n cap : Nat) (x : Int) (w : World) (hn : n ≤ 1099511627776) (hx0 : -1099511627776 ≤ x) (hx1 : x ≤ 1099511627776) :
    Calls Try.prog 46 #[.slice A n cap, .int .i64 x] w fun e w' => e = .returned (.int .i64 ((n : Int) - 1 - x)) ∧ w = w' := by
  have v1 : IntKind.i64.wrap ((n : Int) - 1) = (n : Int) - 1 := IntWalk.i64_in _ (by omega)
  have v2 : IntKind.i64.wrap ((n : Int) - 1 - x) = (n : Int) - 1 - x := IntWalk.i64_in _ (by omega)
  go_enter Try.func46, Try.ntmps46
  go_wp2
  go_ret
  exact ⟨rfl, rfl⟩

set_option maxRecDepth 100000 in
set_option maxHeartbeats 1600000 in
theorem identityDiagramI (n : Int) (w : World) : Calls Try.prog 20 #[.int .i64 n] w (AnsIB (idP n) (idOk n) w) := by
  by_cases hn : 1 ≤ n ∧ n ≤ 8
  · obtain ⟨N, rfl⟩ : ∃ N : Nat, n = N := ⟨n.toNat, by omega⟩
    have h1 : (1 : Int) ≤ (N : Int) := hn.1
    have h8 : (N : Int) ≤ 8 := hn.2
    have HO := Lib.hid (show idOk N = true from decide_eq_true hn)
    obtain ⟨M, hM⟩ : ∃ M : Nat, M = 2 * N := ⟨_, rfl⟩
    have HP := Lib.hid (show idP N = idA M M by unfold idP; rw [if_pos HO.out, Int.toNat_natCast, idL_eq, hM])
    have HPL := Lib.hid (show (idA M M).length = M from idA_len M M)
    have HPA := Lib.hid (show ∀ j, j < M → (idA M M).getD j 0 = idF M M j from fun j hj => by unfold idF; rw [if_pos hj]; simp [idA, List.getD, hj])
    have hM2 : (2 : Int) * (N : Int) = (M : Int) := by omega
    have hM16 : M ≤ 16 := by omega
    have wM : IntKind.i64.wrap (M : Int) = (M : Int) := IntWalk.i64_in _ (by omega)
    have d1 : ((N : Int) < 1) = False := by simp; omega
    have d2 : decide ((N : Int) < 1) = false := decide_eq_false (by omega)
    have d3 : decide ((8 : Int) < (N : Int)) = false := decide_eq_false (by omega)
    clear hn hM
    obtain ⟨i0, hi0, hz0, hz1, hz2⟩ := info_parts info3
    go_enter Try.func20, Try.ntmps20
    go_wp2_with (at_make; go_must (refine wpList_make_full _ rfl _ _ 42 rfl w.heap.size 3 i0 (.int .i64 0) 1 Try.underlying42 hi0 hz0 hz1 .i64 .i64 (M : Int) (M : Int) M rfl rfl rfl rfl (by rw [hz2]; omega) (by unfold maxLen; omega) (Nat.le_refl _) ?_); intro w2 hown1 hgrow1)
    have HT0 := Lib.hid (show TabI w2 w.heap.size M (idF M 0) by rw [idF_zero]; exact TabI.made hown1)
    have HB2 := Lib.hid ((Below.refl w.heap.size w).grown hgrow1 (Nat.le_refl _) (fun k hk => by cases hk))
    clear hown1 hgrow1
    go_wp2
    go_loopw [17] (fun y wr => ∃ i : Nat, i ≤ M ∧ y = .int .i64 i ∧ TabI wr w.heap.size M (idF M i) ∧ Below w.heap.size w wr) (fun y _ => M - (intOf y).toNat)
    case atStart => exact ⟨0, Nat.zero_le _, rfl, HT0.out, HB2.out⟩
    case round =>
      obtain ⟨i, hi, rfl, htab, hb⟩ := hrel
      have HT := Lib.hid htab
      have HB3 := Lib.hid hb
      clear htab hb HT0 HB2
      by_cases hlt : i < M
      · have HNX := Lib.hid (idF_succ M i)
        have hii : (i : Int) < (M : Int) := by omega
        obtain ⟨hc2, hf2⟩ := HT.out.cell (j := i) hlt
        generalize idF M i i = y0 at hc2
        go_wp2_with fail
        (with_reducible refine (oppositeI (some ⟨w.heap.size, 0, none⟩) M M (i : Int) _ (by omega) (by omega) (by omega)).mono ?_)
        rintro e w' ⟨rfl, rfl⟩
        go_wp2
        go_roundw
        case rel => exact ⟨i + 1, by omega, by simp, by rw [HNX.out]; exact HT.out.set hlt _, HB3.out.setCell (p := ⟨w.heap.size, i, none⟩) (Nat.le_refl _) _⟩
        case measure => simp [intOf]; omega
      · obtain rfl : i = M := by omega
        go_wp2
        go_ret2
        refine ⟨_, ret_ib rfl HO.out.symm, ?_, HB3.out⟩
        rw [HP.out]
        exact OwnI.of_tab HT.out HPL.out (Nat.le_refl _) HPA.out (Nat.le_refl _) HT.out.lt
  · have HO := Lib.hid (show idOk n = false from decide_eq_false hn)
    have HP := Lib.hid (show idP n = [] by unfold idP; rw [HO.out]; rfl)
    by_cases h1 : n < 1
    · have d2 : decide (n < 1) = true := decide_eq_true h1
      go_enter Try.func20, Try.ntmps20
      go_wp2
      go_ret2
      exact ⟨_, ret_ib rfl HO.out.symm, by rw [HP.out]; exact ⟨_, _, rfl, .inl rfl⟩, Below.refl _ _⟩
    · have d2 : decide (n < 1) = false := decide_eq_false h1
      have h8 : 8 < n := by omega
      have d3 : decide (8 < n) = true := decide_eq_true h8
      go_enter Try.func20, Try.ntmps20
      go_wp2
      go_ret2
      exact ⟨_, ret_ib rfl HO.out.symm, by rw [HP.out]; exact ⟨_, _, rfl, .inl rfl⟩, Below.refl _ _⟩
theorem identityDiagramI_yes {N : Nat} (h1 : 1 ≤ N) (h8 : N ≤ 8) (w : World) : Calls Try.prog 20 #[.int .i64 (N : Int)] w (AnsIB (idL N) true w) := by
  have h := identityDiagramI (N : Int) w
  have ho : idOk (N : Int) = true := decide_eq_true (by omega)
  rw [show idP (N : Int) = idL N by unfold idP; rw [if_pos ho, Int.toNat_natCast], ho] at h
  exact h
theorem identityDiagramI_no {n : Int} (hn : ¬ (1 ≤ n ∧ n ≤ 8)) (w : World) : Calls Try.prog 20 #[.int .i64 n] w (AnsIB [] false w) := by
  have h := identityDiagramI n w
  have ho : idOk n = false := decide_eq_false hn
  rw [show idP n = [] by unfold idP; rw [ho]; rfl, ho] at h
  exact h

set_option maxRecDepth 100000 in
set_option maxHeartbeats 1600000 in
theorem hookDiagramI (n i : Int) (w : World) : Calls Try.prog 24 #[.int .i64 n, .int .i64 i] w (AnsIB (hkP n i) (hkOk n i) w) := by
  by_cases hn : 1 ≤ n ∧ n ≤ 8
  · obtain ⟨N, rfl⟩ : ∃ N : Nat, n = N := ⟨n.toNat, by omega⟩
    have h1 : (1 : Int) ≤ (N : Int) := hn.1
    have h8 : (N : Int) ≤ 8 := hn.2
    have HID := Lib.hid (fun W => identityDiagramI_yes (N := N) (by omega) (by omega) W)
    have wN2 : IntKind.i64.wrap ((N : Int) - 2) = (N : Int) - 2 := IntWalk.i64_in _ (by omega)
    by_cases hi : 0 ≤ i ∧ i ≤ (N : Int) - 2
    · obtain ⟨I, rfl⟩ : ∃ I : Nat, i = I := ⟨i.toNat, by omega⟩
      have HO := Lib.hid (show hkOk N I = true from decide_eq_true ⟨h1, h8, hi.1, hi.2⟩)
      have HP := Lib.hid (show hkP N I = hkL N I by unfold hkP; rw [if_pos HO.out, Int.toNat_natCast, Int.toNat_natCast])
      have hi0 : (0 : Int) ≤ (I : Int) := hi.1
      have hi2 : (I : Int) ≤ (N : Int) - 2 := hi.2
      obtain ⟨M, hM⟩ : ∃ M : Nat, M = 2 * N := ⟨_, rfl⟩
      obtain ⟨p1, hp1⟩ : ∃ p : Nat, p = I + 1 := ⟨_, rfl⟩
      obtain ⟨a, ha⟩ : ∃ p : Nat, p = 2 * N - 1 - I := ⟨_, rfl⟩
      obtain ⟨b, hb⟩ : ∃ p : Nat, p = 2 * N - 2 - I := ⟨_, rfl⟩
      have HL := Lib.hid (show hkL N I = ((((idL N).set I (p1 : Int)).set p1 (I : Int)).set a (b : Int)).set b (a : Int) by
        unfold hkL
        rw [← ha, ← hb, ← hp1]
        have e1 : (I : Int) + 1 = (p1 : Int) := by omega
        have e2 : 2 * (N : Int) - 2 - (I : Int) = (b : Int) := by omega
        have e3 : 2 * (N : Int) - 1 - (I : Int) = (a : Int) := by omega
        rw [e1, e2, e3])
      have r1 : (I : Int) + 1 = (p1 : Int) := by omega
      have r3 : (M : Int) - 1 - (I : Int) = (a : Int) := by omega
      have r4 : (M : Int) - 1 - (p1 : Int) = (b : Int) := by omega
      have d0 : decide ((I : Int) < 0) = false := decide_eq_false (by omega)
      have d5 : decide ((N : Int) - 2 < (I : Int)) = false := decide_eq_false (by omega)
      have b1 : I < M := by omega
      have b2 : p1 < M := by omega
      have b3 : a < M := by omega
      have b4 : b < M := by omega
      have i1 : (I : Int) < (M : Int) := by omega
      have i2 : (p1 : Int) < (M : Int) := by omega
      have i3 : (a : Int) < (M : Int) := by omega
      have i4 : (b : Int) < (M : Int) := by omega
      have hM16 : M ≤ 16 := by omega
      have w1 : IntKind.i64.wrap (p1 : Int) = (p1 : Int) := IntWalk.i64_in _ (by omega)
      have HLEN := Lib.hid (show (idL N).length = M by rw [idL_len, hM])
      have HOA := Lib.hid (fun A cap W => oppositeI A M cap (I : Int) W (by omega) (by omega) (by omega))
      have HOB := Lib.hid (fun A cap W => oppositeI A M cap (p1 : Int) W (by omega) (by omega) (by omega))
      rw [r3] at HOA
      rw [r4] at HOB
      clear hM hp1 ha hb hn hi
      go_enter Try.func24, Try.ntmps24
      go_wp2_with fail
      (with_reducible refine (HID.out _).mono ?_)
      rintro e w1 ⟨v, rfl, ho, hb⟩
      obtain ⟨g, p, rfl, hg, -, -, -⟩ := ho.cell (j := I) (by rw [HLEN.out]; exact b1)
      rw [HLEN.out] at ho
      have HB := Lib.hid hb
      have HO0 := Lib.hid ho
      rw [show (idL N).length = M from HLEN.out]
      obtain ⟨z0, c0, f0⟩ := ho.at (j := I) (by rw [HLEN.out]; exact b1)
      have HO1 := Lib.hid (ho.setL (j := I) (by rw [HLEN.out]; exact b1) (p1 : Int))
      obtain ⟨z1, c1, f1⟩ := HO1.out.at (j := p1) (by rw [List.length_set, HLEN.out]; exact b2)
      have HO2 := Lib.hid (HO1.out.setL (j := p1) (by rw [List.length_set, HLEN.out]; exact b2) (I : Int))
      obtain ⟨z2, c2, f2⟩ := HO2.out.at (j := a) (by rw [List.length_set, List.length_set, HLEN.out]; exact b3)
      have HO3 := Lib.hid (HO2.out.setL (j := a) (by rw [List.length_set, List.length_set, HLEN.out]; exact b3) (b : Int))
      obtain ⟨z3, c3, f3⟩ := HO3.out.at (j := b) (by rw [List.length_set, List.length_set, List.length_set, HLEN.out]; exact b4)
      have HO4 := Lib.hid (HO3.out.setL (j := b) (by rw [List.length_set, List.length_set, List.length_set, HLEN.out]; exact b4) (a : Int))
      clear ho hb
      go_wp2_with fail
      (with_reducible refine (HOA.out _ _ _).mono ?_)
      rintro e w' ⟨rfl, rfl⟩
      go_wp2_with fail
      (with_reducible refine (HOB.out _ _ _).mono ?_)
      rintro e w' ⟨rfl, rfl⟩
      go_wp2
      go_ret2
      refine ⟨_, ret_ib rfl HO.out.symm, ?_, (((HB.out.setCell hg _).setCell hg _).setCell hg _).setCell hg _⟩
      rw [HP.out, HL.out]
      simpa [World.setCell] using HO4.out
    · have HO := Lib.hid (show hkOk N i = false from decide_eq_false fun h => hi ⟨h.2.2.1, h.2.2.2⟩)
      have HP := Lib.hid (show hkP N i = [] by unfold hkP; rw [HO.out]; rfl)
      by_cases h0 : i < 0
      · have d0 : decide (i < 0) = true := decide_eq_true h0
        go_enter Try.func24, Try.ntmps24
        go_wp2_with fail
        (with_reducible refine (HID.out _).mono ?_)
        rintro e w1 ⟨v, rfl, ho, hb⟩
        have HB := Lib.hid hb
        clear ho hb
        go_wp2
        go_ret2
        exact ⟨_, ret_ib rfl HO.out.symm, by rw [HP.out]; exact ⟨_, _, rfl, .inl rfl⟩, HB.out⟩
      · have d0 : decide (i < 0) = false := decide_eq_false h0
        have h5 : (N : Int) - 2 < i := by omega
        have d5 : decide ((N : Int) - 2 < i) = true := decide_eq_true h5
        go_enter Try.func24, Try.ntmps24
        go_wp2_with fail
        (with_reducible refine (HID.out _).mono ?_)
        rintro e w1 ⟨v, rfl, ho, hb⟩
        have HB := Lib.hid hb
        clear ho hb
        go_wp2
        go_ret2
        exact ⟨_, ret_ib rfl HO.out.symm, by rw [HP.out]; exact ⟨_, _, rfl, .inl rfl⟩, HB.out⟩
  · have HO := Lib.hid (show hkOk n i = false from decide_eq_false fun h => hn ⟨h.1, h.2.1⟩)
    have HP := Lib.hid (show hkP n i = [] by unfold hkP; rw [HO.out]; rfl)
    have HID := Lib.hid (fun W => identityDiagramI_no hn W)
    go_enter Try.func24, Try.ntmps24
    go_wp2_with fail
    (with_reducible refine (HID.out _).mono ?_)
    rintro e w1 ⟨v, rfl, ho, hb⟩
    have HB := Lib.hid hb
    clear ho hb
    go_wp2
    go_ret2
    exact ⟨_, ret_ib rfl HO.out.symm, by rw [HP.out]; exact ⟨_, _, rfl, .inl rfl⟩, HB.out⟩

set_option maxRecDepth 100000 in
set_option maxHeartbeats 1600000 in
theorem throughOfI (A : Option Addr) (xs : List Int) (cap lo hi : Nat) (w : World) (hv : OwnI w lo hi (.slice A xs.length cap) xs) (hhi : hi ≤ w.heap.size) (hl : xs.length ≤ 1099511627776) (hcap : xs.length ≤ cap) :
    Calls Try.prog 30 #[.slice A xs.length cap] w fun e w' => e = .returned (.int .i64 (thP xs)) ∧ Below w.heap.size w w' := by
  have HM := Lib.hid (isDiagramI A xs cap lo hi w hv hhi hl)
  have HV := Lib.hid hv
  rcases hm : diaB xs with _ | _
  · have HP := Lib.hid (show thP xs = -1 from if_neg (by simp [hm]))
    rw [hm] at HM
    clear hm hv
    go_enter Try.func30, Try.ntmps30
    go_wp2_with fail
    (with_reducible refine HM.out.mono ?_)
    rintro e w' ⟨rfl, hb⟩
    go_wp2
    go_ret
    exact ⟨ret_int HP.out.symm, hb⟩
  · have HP := Lib.hid (show thP xs = (thN xs (xs.length / 2) : Int) from if_pos hm)
    obtain ⟨-, h2, h16⟩ := dia_match hm
    rw [hm] at HM
    clear hm
    obtain ⟨g, p, e1, hg, -, -, -⟩ := hv.cell (j := 0) (by omega)
    simp only [Value.slice.injEq] at e1
    obtain ⟨rfl, -, rfl⟩ := e1
    clear hv
    obtain ⟨H, hH⟩ : ∃ H : Nat, H = xs.length / 2 := ⟨_, rfl⟩
    have q1 : ((xs.length : Int)).tdiv 2 = (H : Int) := by rw [Int.tdiv_eq_ediv_of_nonneg (by omega)]; omega
    have q2 : (xs.length : Int) / 2 = (H : Int) := by omega
    have q3 : IntKind.i64.wrap (H : Int) = (H : Int) := IntWalk.i64_in _ (by omega)
    have HTH := Lib.hid (fun k => show thN xs (k + 1) = thN xs k + if (H : Int) ≤ xs.getD k 0 then 1 else 0 by rw [thN, hH])
    have HLE := Lib.hid (fun k (h : k ≤ 16) => show thN xs k ≤ 16 from Nat.le_trans (thN_le xs k) h)
    rw [← hH] at HP
    have hH2 : H ≤ xs.length := by omega
    have hHc : (H : Int) ≤ (cap : Int) := by omega
    have hHc2 : H ≤ cap := by omega
    clear hH
    go_enter Try.func30, Try.ntmps30
    go_wp2_with fail
    (with_reducible refine HM.out.mono ?_)
    rintro e w1 ⟨rfl, hb⟩
    have HB := Lib.hid hb
    have HV1 := Lib.hid (HV.out.keep hb hhi)
    clear hb
    have hsl := fun W => run_upto W (some ⟨g, 0, none⟩) xs.length cap H hHc2
    go_wp2
    go_loopw [4, 17] (fun x y wr => ∃ k : Nat, k ≤ H ∧ y = .int .i64 k ∧ x = .int .i64 (thN xs k : Nat) ∧ wr = w1) (fun _ y _ => H - (intOf y).toNat)
    case atStart => exact ⟨0, Nat.zero_le _, rfl, rfl, rfl⟩
    case round =>
      obtain ⟨k, hk, rfl, rfl, rfl⟩ := hrel
      have hle := HLE.out k (by omega)
      have HT := Lib.hid (HTH.out k)
      generalize hn : thN xs k = n at *
      by_cases hlt : k < H
      · obtain ⟨g1, p1, e1, -, -, hc1, -⟩ := HV1.out.cell (j := k) (by omega)
        simp only [Value.slice.injEq] at e1
        obtain ⟨e3, -, -⟩ := e1
        obtain rfl : g = g1 := by simpa using e3
        clear e3
        have hki : (k : Int) < (H : Int) := by omega
        generalize xs.getD k 0 = y at hc1 HT
        clear hn
        by_cases hy : (H : Int) ≤ y
        · have HE := Lib.hid (HT.out.trans (by rw [if_pos hy]))
          have d1 : decide ((H : Int) ≤ y) = true := decide_eq_true hy
          go_wp2
          exact ⟨⟨k + 1, by omega, by simp, by rw [HE.out]; simp, by first | rfl | trivial⟩, by simp [intOf]; omega⟩
        · have HE := Lib.hid (HT.out.trans (by rw [if_neg hy]))
          have d1 : decide ((H : Int) ≤ y) = false := decide_eq_false hy
          go_wp2
          exact ⟨⟨k + 1, by omega, by simp, by rw [HE.out]; rfl, by first | rfl | trivial⟩, by simp [intOf]; omega⟩
      · obtain rfl : k = H := by omega
        have HN := Lib.hid hn
        clear hn
        go_wp2
        go_ret
        exact ⟨ret_int (by rw [HP.out, HN.out]), HB.out⟩

set_option maxRecDepth 100000 in
set_option maxHeartbeats 1600000 in
/-- Upside down: any row of numbers below its length. -/
theorem upsideDownI (A : Option Addr) (xs : List Int) (cap lo hi : Nat) (w : World) (hv : OwnI w lo hi (.slice A xs.length cap) xs) (hhi : hi ≤ w.heap.size) (hmt : matchP xs = true) :
    Calls Try.prog 49 #[.slice A xs.length cap] w (AnsI (flL xs) w) := by
  have HV := Lib.hid hv
  clear hv
  obtain ⟨h16, hm⟩ := match_yes hmt
  have HMT := Lib.hid hm
  have HLE := Lib.hid (flL_len xs)
  have HFA := Lib.hid (fun q (h : q < xs.length) => flF_all xs h)
  clear hm hmt
  obtain ⟨i0, hi0, hz0, hz1, hz2⟩ := info_parts info3
  go_enter Try.func49, Try.ntmps49
  go_wp2_with (at_make; go_must (refine wpList_make_full _ rfl _ _ 42 rfl w.heap.size 3 i0 (.int .i64 0) 1 Try.underlying42 hi0 hz0 hz1 .i64 .i64 (xs.length : Int) (xs.length : Int) xs.length rfl rfl rfl rfl (by rw [hz2]; omega) (by unfold maxLen; omega) (Nat.le_refl _) ?_); intro w2 hown1 hgrow1)
  have HT0 := Lib.hid (show TabI w2 w.heap.size xs.length (flF xs 0) by rw [flF_zero]; exact TabI.made hown1)
  have HB2 := Lib.hid ((Below.refl w.heap.size w).grown hgrow1 (Nat.le_refl _) (fun k hk => by cases hk))
  clear hown1 hgrow1
  go_wp2
  go_loopw [11] (fun y wr => ∃ i : Nat, i ≤ xs.length ∧ y = .int .i64 i ∧ TabI wr w.heap.size xs.length (flF xs i) ∧ Below w.heap.size w wr) (fun y _ => xs.length - (intOf y).toNat)
  case atStart => exact ⟨0, Nat.zero_le _, rfl, HT0.out, HB2.out⟩
  case round =>
    obtain ⟨i, hi, rfl, htab, hb⟩ := hrel
    have HT := Lib.hid htab
    have HB3 := Lib.hid hb
    clear htab hb HT0 HB2
    by_cases hlt : i < xs.length
    · obtain ⟨m0, m1, -, -⟩ := HMT.out i hlt
      obtain ⟨g1, p1, e1, -, -, hc1, -⟩ := (HV.out.keep HB3.out (by omega)).cell hlt
      simp only [Value.slice.injEq] at e1
      obtain ⟨rfl, -, rfl⟩ := e1
      have HNX := Lib.hid (flF_succ xs hlt)
      obtain ⟨q, hq⟩ : ∃ q : Nat, q = xs.length - 1 - i := ⟨_, rfl⟩
      have HQ := Lib.hid (show xs.length - 1 - i = q from hq.symm)
      have hql : q < xs.length := by omega
      have r1 : (xs.length : Int) - 1 - (i : Int) = (q : Int) := by omega
      have hqi : (q : Int) < (xs.length : Int) := by omega
      have hii : (i : Int) < (xs.length : Int) := by omega
      generalize xs.getD i 0 = y at *
      have HOA := Lib.hid (fun W => oppositeI (some ⟨g1, 0, none⟩) xs.length cap (i : Int) W (by omega) (by omega) (by omega))
      have HOB := Lib.hid (fun W => oppositeI (some ⟨g1, 0, none⟩) xs.length cap y W (by omega) (by omega) (by omega))
      rw [r1] at HOA
      obtain ⟨hc2, hf2⟩ := HT.out.cell (j := q) hql
      generalize flF xs i q = y0 at hc2
      clear hq m0 m1 r1
      go_wp2_with fail
      (with_reducible refine (HOA.out _).mono ?_)
      rintro e w' ⟨rfl, rfl⟩
      go_wp2_with fail
      (with_reducible refine (HOB.out _).mono ?_)
      rintro e w' ⟨rfl, rfl⟩
      go_wp2
      go_roundw
      case rel => exact ⟨i + 1, by omega, by simp, by rw [HNX.out, HQ.out]; exact HT.out.set hql _, HB3.out.setCell (p := ⟨w.heap.size, q, none⟩) (Nat.le_refl _) _⟩
      case measure => simp [intOf]; omega
    · obtain rfl : i = xs.length := by omega
      go_wp2
      go_ret
      exact ⟨_, rfl, OwnI.of_tab HT.out HLE.out (Nat.le_refl _) HFA.out (Nat.le_refl _) HT.out.lt, HB3.out⟩

theorem flipDiagramI (A : Option Addr) (xs : List Int) (cap lo hi : Nat) (w : World) (hv : OwnI w lo hi (.slice A xs.length cap) xs) (hhi : hi ≤ w.heap.size) (hl : xs.length ≤ 1099511627776) :
    Calls Try.prog 34 #[.slice A xs.length cap] w (AnsIB (flP xs) (diaB xs) w) := by
  have HM := Lib.hid (isDiagramI A xs cap lo hi w hv hhi hl)
  have HV := Lib.hid hv
  clear hv
  rcases hm : diaB xs with _ | _
  · have HP := Lib.hid (show flP xs = [] from if_neg (by simp [hm]))
    rw [hm] at HM
    clear hm
    go_enter Try.func34, Try.ntmps34
    go_wp2_with fail
    (with_reducible refine HM.out.mono ?_)
    rintro e w' ⟨rfl, hb⟩
    have HB := Lib.hid hb
    clear hb
    go_wp2
    go_ret2
    exact ⟨_, rfl, by rw [HP.out]; exact ⟨_, _, rfl, .inl rfl⟩, HB.out⟩
  · have HP := Lib.hid (show flP xs = flL xs from if_pos hm)
    obtain ⟨hmt, h2, h16⟩ := dia_match hm
    rw [hm] at HM
    have HUP := Lib.hid (fun W (h : OwnI W lo hi (.slice A xs.length cap) xs) (hh : hi ≤ W.heap.size) => upsideDownI A xs cap lo hi W h hh hmt)
    clear hm hmt
    go_enter Try.func34, Try.ntmps34
    go_wp2_with fail
    (with_reducible refine HM.out.mono ?_)
    rintro e w1 ⟨rfl, hb⟩
    have HB := Lib.hid hb
    have hsz := hb.size
    have HV1 := Lib.hid (HV.out.keep hb hhi)
    clear hb
    go_wp2_with fail
    (with_reducible refine (HUP.out _ HV1.out (by omega)).mono ?_)
    rintro e w2 ⟨v, rfl, ho, hb⟩
    have HB2 := Lib.hid (HB.out.trans (hb.mono hsz))
    have HOW := Lib.hid (ho.wide hsz (Nat.le_refl _))
    clear ho hb
    go_wp2
    go_ret2
    exact ⟨_, rfl, by rw [HP.out]; exact HOW.out, HB2.out⟩

end Go.Proofs.Ytcckpodpgenapaa
