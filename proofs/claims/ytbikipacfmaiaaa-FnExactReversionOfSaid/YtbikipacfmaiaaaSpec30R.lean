/- ReversionOf, the model (written by tools/mk30r.py). -/
import Derived.Test.YtbikipacfmaiaaaRev30
import Derived.Test.YtbikipacfmaiaaaAppA
namespace Go.Proofs.Ytbikipacfmaiaaa
open Go.ChangeShapes Go.WideShapes Go.ChangeAt Go.RowKit
set_option linter.unusedVariables false

def rvF (a : List Int) (N m : Nat) : Nat → Int := fun q => (rvZ a N (m - 2)).getD q 0
theorem rvF_succ (a : List Int) {N m : Nat} (h2 : 2 ≤ m) (hm : m < N) : rvF a N (m + 1) = upd (rvF a N m) m (-(hS a (rvZ a N (m - 2)) N m (m + 1))) := by
  funext q
  unfold rvF
  obtain ⟨i, rfl⟩ : ∃ i, m = i + 2 := ⟨m - 2, by omega⟩
  rw [show i + 2 + 1 - 2 = i + 1 by omega, show i + 2 - 2 = i by omega, rvZ_next]
  by_cases e : q = i + 2
  · subst e; rw [if_pos ⟨rfl, hm⟩, upd_at]
  · rw [if_neg (by omega), upd_ne _ _ e]
theorem rvF_two (a : List Int) (N : Nat) : ∀ q, q < N → rvF a N 2 q = upd (fun _ => 0) 1 1 q := by
  intro q hq
  unfold rvF
  rw [rvZ_start hq]
  by_cases e : q = 1
  · subst e; rw [if_pos rfl, upd_at]
  · rw [if_neg e, upd_ne _ _ e]

set_option maxRecDepth 100000 in
set_option maxHeartbeats 3200000 in
theorem reversionOf (A : Option Addr) (xs : List Int) (cap lo hi : Nat) (w : World) (hv : OwnI w lo hi (.slice A xs.length cap) xs) (hhi : hi ≤ w.heap.size) (hl : xs.length ≤ 1099511627776) :
    Calls Try.prog 20 #[.slice A xs.length cap] w (AnsIB (rvP xs) (rvOk xs) w) := by
  have HM := Lib.hid (l30Fine A xs cap lo hi w hv hl)
  have HV := Lib.hid hv
  rcases hx : finB xs with _ | _
  · skip
    have HO := Lib.hid (show rvOk xs = false from decide_eq_false fun h => by rw [rv_fin h] at hx; cases hx)
    have HP := Lib.hid (show rvP xs = [] from if_neg (by rw [HO.out]; simp))
    rw [hx] at HM
    clear hx hv
    go_enter Try.func20, Try.ntmps20
    go_wp2_with fail
    (with_reducible refine HM.out.mono ?_)
    rintro e w' ⟨rfl, rfl⟩
    go_wp2
    go_ret2
    exact ⟨_, ret_ib rfl HO.out.symm, by rw [HP.out]; exact ⟨_, _, rfl, .inl rfl⟩, (Below.refl _ _).alloc (Nat.le_refl _) _⟩
  rw [hx] at HM
  obtain ⟨p1, p2, p3⟩ := fin_parts hx
  obtain ⟨n, hn⟩ : ∃ n, Hid (n = xs.length) := ⟨_, Lib.hid rfl⟩
  rw [← hn.out] at p2 p3 HM
  by_cases h2 : n < 2
  · have h2i : (n : Int) < 2 := by omega
    have d2 : decide ((n : Int) < 2) = true := decide_eq_true h2i
    rw [← hn.out]
    have HO := Lib.hid (show rvOk xs = false from decide_eq_false fun h => by have := h.1.1; have := hn.out; omega)
    have HP := Lib.hid (show rvP xs = [] from if_neg (by rw [HO.out]; simp))
    clear hx hv p1
    go_enter Try.func20, Try.ntmps20
    go_wp2_with fail
    (with_reducible refine HM.out.mono ?_)
    rintro e w' ⟨rfl, rfl⟩
    go_wp2
    go_ret2
    exact ⟨_, ret_ib rfl HO.out.symm, by rw [HP.out]; exact ⟨_, _, rfl, .inl rfl⟩, (Below.refl _ _).alloc (Nat.le_refl _) _⟩
  have h2i : ¬ (n : Int) < 2 := by omega
  have d2 : decide ((n : Int) < 2) = false := decide_eq_false h2i
  by_cases h8 : 8 < n
  · have h8i : (8 : Int) < (n : Int) := by omega
    have d8 : decide ((8 : Int) < (n : Int)) = true := decide_eq_true h8i
    rw [← hn.out]
    have HO := Lib.hid (show rvOk xs = false from decide_eq_false fun h => by have := h.1.2; have := hn.out; omega)
    have HP := Lib.hid (show rvP xs = [] from if_neg (by rw [HO.out]; simp))
    clear hx hv p1
    go_enter Try.func20, Try.ntmps20
    go_wp2_with fail
    (with_reducible refine HM.out.mono ?_)
    rintro e w' ⟨rfl, rfl⟩
    go_wp2
    go_ret2
    exact ⟨_, ret_ib rfl HO.out.symm, by rw [HP.out]; exact ⟨_, _, rfl, .inl rfl⟩, (Below.refl _ _).alloc (Nat.le_refl _) _⟩
  have h8i : ¬ (8 : Int) < (n : Int) := by omega
  have d8 : decide ((8 : Int) < (n : Int)) = false := decide_eq_false h8i
  obtain ⟨g1, p1', e1, -, -, hc0, -⟩ := hv.cell (j := 0) (by rw [← hn.out]; omega)
  obtain ⟨g1', p1'', e1', -, -, hc1, -⟩ := hv.cell (j := 1) (by rw [← hn.out]; omega)
  rw [← hn.out] at e1 e1' ⊢
  simp only [Value.slice.injEq] at e1 e1'
  obtain ⟨rfl, -, rfl⟩ := e1
  simp only [Option.some.injEq, Addr.mk.injEq] at e1'
  obtain ⟨⟨rfl, -⟩, -⟩ := e1'
  have hn0 : (0 : Int) < (n : Int) := by omega
  have hn1 : (1 : Int) < (n : Int) := by omega
  clear hx hv p1
  by_cases ha0 : xs.getD 0 0 = 0
  case neg =>
    have HA0 := Lib.hid ha0
    have hne : (xs.getD 0 0 == 0) = false := beq_eq_false_iff_ne.2 ha0
    have hne2 : (xs.getD 0 0 != 0) = true := by simp only [bne, hne]; rfl
    have HO0 := Lib.hid (show rvOk xs = false from decide_eq_false fun h => HA0.out h.2.1.1)
    generalize xs.getD 0 0 = c0 at *
    generalize xs.getD 1 0 = c1 at *
    have HO := Lib.hid (show rvOk xs = false from decide_eq_false fun h => by have := HO0.out; unfold rvOk at this; exact (of_decide_eq_false this) h)
    have HP := Lib.hid (show rvP xs = [] from if_neg (by rw [HO.out]; simp))
    clear ha0
    go_enter Try.func20, Try.ntmps20
    go_wp2_with fail
    (with_reducible refine HM.out.mono ?_)
    rintro e w' ⟨rfl, rfl⟩
    go_wp2
    go_ret2
    exact ⟨_, ret_ib rfl HO.out.symm, by rw [HP.out]; exact ⟨_, _, rfl, .inl rfl⟩, (Below.refl _ _).alloc (Nat.le_refl _) _⟩
  rw [ha0] at hc0
  by_cases ha1 : xs.getD 1 0 = 1
  case neg =>
    have HA0 := Lib.hid ha1
    have hne : (xs.getD 1 0 == 1) = false := beq_eq_false_iff_ne.2 ha1
    have hne2 : (xs.getD 1 0 != 1) = true := by simp only [bne, hne]; rfl
    have HO0 := Lib.hid (show rvOk xs = false from decide_eq_false fun h => HA0.out h.2.1.2)
    generalize xs.getD 1 0 = c1 at *
    have HO := Lib.hid (show rvOk xs = false from decide_eq_false fun h => by have := HO0.out; unfold rvOk at this; exact (of_decide_eq_false this) h)
    have HP := Lib.hid (show rvP xs = [] from if_neg (by rw [HO.out]; simp))
    clear ha0 ha1
    go_enter Try.func20, Try.ntmps20
    go_wp2_with fail
    (with_reducible refine HM.out.mono ?_)
    rintro e w' ⟨rfl, rfl⟩
    go_wp2
    go_ret2
    exact ⟨_, ret_ib rfl HO.out.symm, by rw [HP.out]; exact ⟨_, _, rfl, .inl rfl⟩, (Below.refl _ _).alloc (Nat.le_refl _) _⟩
  rw [ha1] at hc1
  have HA0 := Lib.hid ha0
  have HA1 := Lib.hid ha1
  clear ha0 ha1
  go_enter Try.func20, Try.ntmps20
  go_wp2_with fail
  (with_reducible refine HM.out.mono ?_)
  rintro e w' ⟨rfl, rfl⟩
  go_wp2
  go_loopw [4] (fun y wr => ∃ i : Nat, i ≤ n ∧ y = .int .i64 i ∧ w = wr ∧ ∀ j, j < i → -3 ≤ xs.getD j 0 ∧ xs.getD j 0 ≤ 3) (fun y _ => n - (intOf y).toNat)
  case atStart => exact ⟨0, Nat.zero_le _, rfl, rfl, fun j h => absurd h (Nat.not_lt_zero _)⟩
  case round =>
    obtain ⟨i, hi, rfl, rfl, hle⟩ := hrel
    have HLE := Lib.hid hle
    clear hle hc0 hc1
    by_cases hlt : i < n
    · obtain ⟨g2, p2', e2, -, -, hc1, -⟩ := HV.out.cell (j := i) (by rw [← hn.out]; exact hlt)
      rw [← hn.out] at e2
      simp only [Value.slice.injEq, Option.some.injEq, Addr.mk.injEq] at e2
      obtain ⟨⟨rfl, -⟩, -⟩ := e2
      have hii : (i : Int) < (n : Int) := by omega
      by_cases e : -3 ≤ xs.getD i 0 ∧ xs.getD i 0 ≤ 3
      · have HI := Lib.hid (fun W => l1In_yes (xs.getD i 0) (-3) 3 W e.1 e.2)
        have HSTEP := Lib.hid (show ∀ j, j < i + 1 → -3 ≤ xs.getD j 0 ∧ xs.getD j 0 ≤ 3 from fun j hj => by
          by_cases ej : j = i
          · subst ej; exact e
          · exact HLE.out j (by omega))
        clear e
        generalize xs.getD i 0 = x at *
        go_wp2_with fail
        (with_reducible refine (HI.out _).mono ?_)
        rintro e w' ⟨rfl, rfl⟩
        go_wp2
        exact ⟨⟨i + 1, by omega, by simp, by first | rfl | trivial, HSTEP.out⟩, by simp [intOf]; omega⟩
      · have HI := Lib.hid (fun W => l1In_not (xs.getD i 0) (-3) 3 W e)
        have HO := Lib.hid (show rvOk xs = false from decide_eq_false fun h => by have h3 := h.2.2; rw [inB_no (L := 3) (i := i) (by rw [← hn.out]; exact hlt) e] at h3; cases h3)
        have HP := Lib.hid (show rvP xs = [] from if_neg (by rw [HO.out]; simp))
        clear e
        generalize xs.getD i 0 = x at *
        go_wp2_with fail
        (with_reducible refine (HI.out _).mono ?_)
        rintro e w' ⟨rfl, rfl⟩
        go_wp2
        go_ret2
        exact ⟨_, ret_ib rfl HO.out.symm, by rw [HP.out]; exact ⟨_, _, rfl, .inl rfl⟩, (Below.refl _ _).alloc (Nat.le_refl _) _⟩
    · obtain rfl : i = n := by omega
      have HIN := Lib.hid (show inB 3 xs = true from (inB_iff _ _).2 fun j hj => HLE.out j (by rw [hn.out]; exact hj))
      have HO := Lib.hid (show rvOk xs = true from decide_eq_true ⟨⟨by rw [← hn.out]; omega, by rw [← hn.out]; omega⟩, ⟨HA0.out, HA1.out⟩, HIN.out⟩)
      have HP := Lib.hid (show rvP xs = rvZ xs i (i - 2) by unfold rvP; rw [if_pos HO.out, hn.out])
      have HA := Lib.hid (fun q => in_all HIN.out (by omega) q)
      have HD := Lib.hid (fun m => rv_dom (N := i) HA.out (by omega) m)
      have HZL := Lib.hid (fun m => rvZ_len xs i m)
      have HPL := Lib.hid (fun m k => pwL_len (rvZ xs i m) i k)
      have HNX := Lib.hid (fun m (h2 : 2 ≤ m) (hm : m < i) => rvF_succ xs h2 hm)
      have HTW := Lib.hid (rvF_two xs i)
      obtain ⟨i0, hi0, hz0, hz1, hzb⟩ := info_parts info3
      have h1i : 1 < i := by omega
      have hni : ¬ (i : Int) < (i : Int) := by omega
      go_wp2_with (at_make; go_must (refine wpList_make_full _ rfl _ _ 22 rfl w.heap.size 3 i0 (.int .i64 0) 1 Try.underlying22 hi0 hz0 hz1 .i64 .i64 (i : Int) (i : Int) i rfl rfl rfl rfl (by rw [hzb]; omega) (by unfold maxLen; omega) (Nat.le_refl _) ?_); intro w2 hown1 hgrow1; go_must (have HT0 := Lib.hid (show TabI w2 w.heap.size i (fun _ => 0) from TabI.made hown1); have HB2 := Lib.hid ((Below.refl w.heap.size w).grown hgrow1 (Nat.le_refl _) (fun k hk => nomatch hk)); obtain ⟨hc3, hf3⟩ := HT0.out.cell (j := 1) h1i; have HT1 := Lib.hid (show TabI (w2.setCell ⟨w.heap.size, 1, none⟩ (.int .i64 1)) w.heap.size i (rvF xs i 2) from (HT0.out.set (k := 1) h1i 1).alike HTW.out); have HB3 := Lib.hid (HB2.out.setCell (p := ⟨w.heap.size, 1, none⟩) (Nat.le_refl _) (.int .i64 1)); clear hown1 hgrow1))
      clear hc3 hf3
      go_loopw [7] (fun y wr => ∃ m : Nat, 2 ≤ m ∧ m ≤ i ∧ y = .int .i64 m ∧ TabI wr w.heap.size i (rvF xs i m) ∧ Below w.heap.size w wr) (fun y _ => i - (intOf y).toNat)
      case atStart => exact ⟨2, Nat.le_refl _, by omega, rfl, HT1.out, HB3.out⟩
      case round =>
        obtain ⟨m, hm2, hmi, rfl, htab, hb⟩ := hrel
        have HT := Lib.hid htab
        have HB := Lib.hid hb
        have hB := hb.size
        have hltw := htab.lt
        clear htab hb HT0 HB2 HT1 HB3
        by_cases hlt2 : m < i
        · have hmii : (m : Int) < (i : Int) := by omega
          obtain ⟨t, ht⟩ : ∃ t, Hid (t = m - 2) := ⟨_, Lib.hid rfl⟩
          have HOZ := Lib.hid (show ∀ W, TabI W w.heap.size i (rvF xs i m) → OwnI W w.heap.size (w.heap.size + 1) (.slice (some ⟨w.heap.size, 0, none⟩) i i) (rvZ xs i t) from fun W h => OwnI.of_tab h (HZL.out t) (Nat.le_refl _) (fun j hj => by rw [ht.out]; rfl) (Nat.le_refl _) (Nat.lt_succ_self _))
          have HDT := Lib.hid (HD.out t)
          have HH2 := Lib.hid (show hS xs (rvZ xs i t) i m 2 = 0 from hS_two (HZL.out t) hlt2 hm2 (by rw [ht.out]; exact rvZ_high _ _ (by omega)))
          have HNM := Lib.hid (HNX.out m hm2 hlt2)
          rw [← ht.out] at HNM
          have HP1 := Lib.hid (show pwL (rvZ xs i t) i 1 = rvZ xs i t from pwL_one (HZL.out t))
          have HLT := Lib.hid (HZL.out t)
          have HLP := Lib.hid (HPL.out t)
          have HHI := Lib.hid (fun k hk => hS_in (n := m) HA.out HDT.out (show i ≤ 8 by omega) k hk)
          have HMU := Lib.hid (fun k hk p q => pw_mul HDT.out (show i ≤ 8 by omega) k hk p q)
          have HPI := Lib.hid (fun k hk => pw_in HDT.out (show i ≤ 8 by omega) k m hk)
          generalize rvZ xs i t = O at *
          have HCE := Lib.hid (fun W (h : TabI W w.heap.size i (rvF xs i m)) j (hj : j < i) => show W.cell? ⟨w.heap.size, 0 + j, none⟩ = some (.int .i64 (O.getD j 0)) from by
            obtain ⟨g5, p5, e5, -, -, hc5, -⟩ := (HOZ.out W h).cell (j := j) (by rw [HLT.out]; exact hj)
            simp only [Value.slice.injEq, Option.some.injEq, Addr.mk.injEq] at e5
            obtain ⟨⟨rfl, -⟩, -⟩ := e5
            rw [Nat.zero_add]; exact hc5)
          obtain ⟨wo, rfl⟩ : ∃ wo, wo = wr := ⟨_, rfl⟩
          have HROW0 := Lib.hid (World.ownsRow_made (base := w.heap.size) (e := 3) (size := 1) wo #[] 0 hB (Nat.zero_le _) (by simp))
          go_wp2_with (at_builtin; go_must (refine wpAppA rfl _ _ rfl w.heap.size _ 0 [] O rfl HROW0.out w.heap.size 0 i i rfl HLT.out (HCE.out _ (HT.out.alloc _)) (by omega) (by omega) (by simp; omega) ?_); intro v' w' hown' hg')
          have hza : ∀ o, (wo.alloc o).heap.size = wo.heap.size + 1 := fun o => by simp
          have HB1 := Lib.hid ((HB.out.alloc hB _).grown hg' (by rw [hza]; omega) (fun k hk => (World.ownsRow.lt HROW0.out k hk).1))
          rw [List.nil_append, Nat.zero_add] at hown'
          have HO1 := Lib.hid (OwnI.of_row hown')
          have HTX := Lib.hid (hg'.block w.heap.size (by rw [hza]; omega) (fun e => by
            have e2 : some wo.heap.size = some w.heap.size := e.symm
            injection e2 with e3
            omega))
          have HT1 := Lib.hid (HT.out.alloc _ |>.keep HTX.out)
          clear hown' hg'
          go_loopw [8, 9, 10] (fun x v y wr => ∃ (k : Nat) (A2 : Option Addr) (c2 : Nat), 2 ≤ k ∧ k ≤ m + 1 ∧ x = .int .i64 (hS xs O i m k) ∧ y = .int .i64 k ∧ v = .slice A2 i c2 ∧ OwnI wr w.heap.size wr.heap.size (.slice A2 i c2) (pwL O i (k - 1)) ∧ TabI wr w.heap.size i (rvF xs i m) ∧ Below w.heap.size w wr) (fun _ _ y _ => m + 1 - (intOf y).toNat)
          case atStart =>
            have hO := HO1.out
            obtain ⟨A2, c2, rfl, -⟩ := id hO
            rw [HLT.out] at hO ⊢
            exact ⟨2, A2, c2, Nat.le_refl _, by omega, by rw [HH2.out], rfl, rfl, by rw [show pwL O i (2 - 1) = O from HP1.out]; exact hO, HT1.out, HB1.out⟩
          case round =>
            obtain ⟨k, A2, c2, hk2, hkm, rfl, rfl, rfl, hp, htab, hb⟩ := hrel
            have HPW := Lib.hid hp
            have HT2 := Lib.hid htab
            have HB2 := Lib.hid hb
            have hB2 := hb.size
            have hlt5 := htab.lt
            clear hp htab hb
            by_cases hkl : k ≤ m
            · have hki : (k : Int) ≤ (m : Int) := by omega
              have hki2 : (k : Int) < (i : Int) := by omega
              have HOO := Lib.hid (HOZ.out wr HT2.out)
              have HPN := Lib.hid (show tmL (pwL O i (k - 1)) O i = pwL O i k by
                obtain ⟨q, rfl⟩ : ∃ q, k = q + 1 := ⟨k - 1, by omega⟩
                rfl)
              have HTM := Lib.hid (l30Times A2 (some ⟨w.heap.size, 0, none⟩) (pwL O i (k - 1)) O i c2 i w.heap.size wr.heap.size w.heap.size (w.heap.size + 1) wr 1000000000000 HPW.out HOO.out (HLP.out (k - 1)) HLT.out (Nat.le_refl _) (by omega) (by omega) (HMU.out (k - 1) (by omega)) (by omega))
              rw [HPN.out] at HTM
              have HSN := Lib.hid (hS_succ xs O i m k)
              have b1 := HHI.out k (by omega)
              have b2 := HPI.out k (by omega)
              have b3 := HA.out k
              have HLK := Lib.hid (HLP.out k)
              go_wp2_with fail
              (with_reducible refine HTM.out.mono ?_)
              rintro e w4 ⟨v4, rfl, ho, hb⟩
              obtain ⟨A4, c4, rfl, -⟩ := id ho
              rw [HLK.out] at ho ⊢
              have HT4 := Lib.hid (HT2.out.keep (hb.block _ hlt5))
              have HB4 := Lib.hid (HB2.out.trans (hb.mono hB2))
              have HO4 := Lib.hid (ho.wide hB2 (Nat.le_refl _))
              obtain ⟨g6, p6, e6, -, -, hc6, -⟩ := ho.cell (j := m) (by rw [HLK.out]; exact hlt2)
              rw [HLK.out] at e6
              simp only [Value.slice.injEq] at e6
              obtain ⟨rfl, -, rfl⟩ := e6
              obtain ⟨g7, p7, e7, -, -, hc7, -⟩ := (HV.out.keep HB4.out hhi).cell (j := k) (by rw [← hn.out]; omega)
              rw [← hn.out] at e7
              simp only [Value.slice.injEq, Option.some.injEq, Addr.mk.injEq] at e7
              obtain ⟨⟨rfl, -⟩, -⟩ := e7
              clear ho hb
              generalize (pwL O i k).getD m 0 = z at *
              generalize xs.getD k 0 = x at *
              generalize hS xs O i m k = c at *
              have b4 : (x * z).natAbs ≤ 3 * 204141 := by rw [Int.natAbs_mul]; exact Nat.mul_le_mul (by omega) (by omega)
              generalize hp : x * z = p at *
              have v1 : IntKind.i64.wrap p = p := IntWalk.i64_in _ (by omega)
              have v2 : IntKind.i64.wrap (c + p) = c + p := IntWalk.i64_in _ (by omega)
              go_wp2
              go_region
              all_goals go_wp2
              all_goals go_roundw
              case rel => exact ⟨k + 1, _, _, by omega, by omega, by rw [HSN.out], by simp, rfl, by rw [Nat.add_sub_cancel]; exact HO4.out.keep ((Below.refl _ _).drew) (Nat.le_refl _), HT4.out.keep rfl, HB4.out.drew⟩
              case measure => simp [intOf]; omega
            · obtain rfl : k = m + 1 := by omega
              have hki : ¬ ((m + 1 : Nat) : Int) ≤ (m : Int) := by omega
              have b1 := HHI.out (m + 1) (by omega)
              obtain ⟨hc3, hf3⟩ := HT2.out.cell (j := m) hlt2
              generalize hS xs O i m (m + 1) = c at *
              have v1 : IntKind.i64.wrap (-c) = -c := IntWalk.i64_in _ (by omega)
              go_wp2
              exact ⟨⟨m + 1, by omega, by omega, by simp, by rw [HNM.out]; exact HT2.out.set (k := m) hlt2 _, HB2.out.setCell (p := ⟨w.heap.size, m, none⟩) (Nat.le_refl _) _⟩, by simp [intOf]; omega⟩
        · obtain rfl : m = i := by omega
          have HOW := Lib.hid (show OwnI wr w.heap.size wr.heap.size (.slice (some ⟨w.heap.size, 0, none⟩) m m) (rvZ xs m (m - 2)) from OwnI.of_tab HT.out (HZL.out _) (Nat.le_refl _) (fun j hj => rfl) (Nat.le_refl _) hltw)
          go_wp2
          go_ret2
          exact ⟨_, ret_ib rfl HO.out.symm, by rw [HP.out]; exact HOW.out, HB.out⟩

end Go.Proofs.Ytbikipacfmaiaaa
