/- The model's RankOfPartition, IsFiner, FinerMeet. -/
import Derived.Test.YtpkfgjlbkiiciaaFact19
import Derived.Test.YtpkfgjlbkiiciaaSpec8C
import Derived.Test.YtpkfgjlbkiiciaaStepApp
import Derived.Deep.QuietTactic
import Derived.BigQuiet
namespace Go.Proofs.Ytpkfgjlbkiiciaa
open Go.ChangeShapes Go.WideShapes Go.ChangeAt Go.RowKit
set_option linter.unusedVariables false

theorem rankOfPartition (A : Option Addr) (xs : List Int) (cap lo hi : Nat) (w : World) (hv : OwnI w lo hi (.slice A xs.length cap) xs) (hhi : hi ≤ w.heap.size) (hl : xs.length ≤ 1099511627776) :
    Calls Try.prog 9 #[.slice A xs.length cap] w fun e w' => e = .returned (.int .i64 (rkP xs)) ∧ Below w.heap.size w w' := by
  have HM := Lib.hid (isPartition _ xs lo hi w hv hl)
  have HB := Lib.hid (blocksOf A xs cap lo hi w hv hhi hl)
  clear hv
  rcases hm : prtB xs with _ | _
  · have HP := Lib.hid (show rkP xs = -1 from if_neg (by simp [hm]))
    rw [hm] at HM
    clear hm HB
    go_enter Try.func9, Try.ntmps9
    go_wp2_with fail
    (with_reducible refine HM.out.mono ?_)
    rintro e w' ⟨rfl, rfl⟩
    go_wp2
    go_ret
    exact ⟨ret_int HP.out.symm, Below.refl _ _⟩
  · have HP := Lib.hid (show rkP xs = (xs.length : Int) - (ptN xs xs.length : Int) from if_pos hm)
    have HL := Lib.hid (blP_len hm)
    have h8 := (prt_yes hm).1
    have hle := ptN_le xs xs.length
    rw [hm] at HM
    clear hm
    generalize ptN xs xs.length = m at *
    have v1 : IntKind.i64.wrap ((xs.length : Int) - (m : Int)) = (xs.length : Int) - (m : Int) := IntWalk.i64_in _ (by omega)
    go_enter Try.func9, Try.ntmps9
    go_wp2_with fail
    (with_reducible refine HM.out.mono ?_)
    rintro e w' ⟨rfl, rfl⟩
    go_wp2_with fail
    (with_reducible refine HB.out.mono ?_)
    rintro e w1 ⟨v, vs, rfl, ht, hb⟩
    obtain ⟨B, c, rfl⟩ := ht.form
    rw [HL.out]
    clear ht
    go_wp2
    go_ret
    exact ⟨ret_int HP.out.symm, hb⟩

set_option maxRecDepth 100000 in
set_option maxHeartbeats 1600000 in
theorem isFiner (A A' : Option Addr) (xs ys : List Int) (cap cap' lo hi lo' hi' : Nat) (w : World) (hv : OwnI w lo hi (.slice A xs.length cap) xs) (hu : OwnI w lo' hi' (.slice A' ys.length cap') ys) (hl : xs.length ≤ 1099511627776) (hl' : ys.length ≤ 1099511627776) :
    Calls Try.prog 13 #[.slice A xs.length cap, .slice A' ys.length cap'] w fun e w' => e = .returned (.bool (finB xs ys)) ∧ Below w.heap.size w w' := by
  have HM := Lib.hid (isPartition _ xs lo hi w hv hl)
  have HN := Lib.hid (isPartition _ ys lo' hi' w hu hl')
  have HV := Lib.hid hv
  have HU := Lib.hid hu
  clear hv hu
  rcases hx : prtB xs with _ | _
  · have HP := Lib.hid (show finB xs ys = false by unfold finB twoB; rw [hx]; rfl)
    rw [hx] at HM
    clear hx
    go_enter Try.func13, Try.ntmps13
    go_wp2_with fail
    (with_reducible refine HM.out.mono ?_)
    rintro e w' ⟨rfl, rfl⟩
    go_wp2
    go_ret
    exact ⟨ret_bool HP.out.symm, Below.refl _ _⟩
  rcases hy : prtB ys with _ | _
  · have HP := Lib.hid (show finB xs ys = false by unfold finB twoB; rw [hx, hy]; rfl)
    rw [hx] at HM
    rw [hy] at HN
    clear hx hy
    go_enter Try.func13, Try.ntmps13
    go_wp2_with fail
    (with_reducible refine HM.out.mono ?_)
    rintro e w' ⟨rfl, rfl⟩
    go_wp2_with fail
    (with_reducible refine HN.out.mono ?_)
    rintro e w' ⟨rfl, rfl⟩
    go_wp2
    go_ret
    exact ⟨ret_bool HP.out.symm, Below.refl _ _⟩
  by_cases hlen : xs.length = ys.length
  · have HP := Lib.hid (show finB xs ys = fnB xs ys by unfold finB twoB; rw [hx, hy, decide_eq_true hlen]; rfl)
    have h8 := (prt_yes hx).1
    rw [hx] at HM
    rw [hy] at HN
    clear hx hy
    obtain ⟨n, hn⟩ : ∃ n, n = xs.length := ⟨_, rfl⟩
    have HE := Lib.hid hn
    have HE2 := Lib.hid (hn.trans hlen)
    have hne : ((n : Int) != (n : Int)) = false := by simp
    rw [← HE.out, ← HE2.out]
    rw [← HE.out] at HM HV h8
    rw [← HE2.out] at HN HU
    clear hn hlen hl hl'
    go_enter Try.func13, Try.ntmps13
    go_wp2_with fail
    (with_reducible refine HM.out.mono ?_)
    rintro e w' ⟨rfl, rfl⟩
    go_wp2_with fail
    (with_reducible refine HN.out.mono ?_)
    rintro e w' ⟨rfl, rfl⟩
    go_wp2
    go_loopw [5] (fun y wr => ∃ i q : Nat, i ≤ n ∧ y = .int .i64 i ∧ (∀ a, a < i → ∀ k, k < a → xs.getD a 0 = xs.getD k 0 → ys.getD a 0 = ys.getD k 0) ∧ wr = w.drewN q) (fun y _ => n - (intOf y).toNat)
    case atStart => exact ⟨0, 0, Nat.zero_le _, rfl, fun a h => absurd h (Nat.not_lt_zero _), rfl⟩
    case round =>
      obtain ⟨i, q0, hi, rfl, hok, rfl⟩ := hrel
      have HOK := Lib.hid hok
      clear hok
      by_cases hlt : i < n
      · have hii : (i : Int) < (n : Int) := by omega
        obtain ⟨g1, p1, e1, -, -, hcx, -⟩ := HV.out.cell (j := i) (by rw [← HE.out]; exact hlt)
        obtain ⟨g2, p2, e2, -, -, hcy, -⟩ := HU.out.cell (j := i) (by rw [← HE2.out]; exact hlt)
        simp only [Value.slice.injEq] at e1 e2
        obtain ⟨rfl, -, -⟩ := e1
        obtain ⟨rfl, -, -⟩ := e2
        have HNO := Lib.hid (fun k (hk : k < i) h1 h2 => fnB_no (xs := xs) (ys := ys) (i := i) (k := k) (by rw [← HE.out]; exact hlt) hk h1 h2)
        have HST := Lib.hid (fun (h : ∀ k, k < i → xs.getD i 0 = xs.getD k 0 → ys.getD i 0 = ys.getD k 0) => show ∀ a, a < i + 1 → ∀ k, k < a → xs.getD a 0 = xs.getD k 0 → ys.getD a 0 = ys.getD k 0 from fun a ha => by
          by_cases e : a < i
          · exact HOK.out a e
          · obtain rfl : a = i := by omega
            exact h)
        generalize xs.getD i 0 = x at *
        generalize ys.getD i 0 = y at *
        go_wp2
        go_loopw [6] (fun u wr => ∃ k q : Nat, k ≤ i ∧ u = .int .i64 k ∧ (∀ b, b < k → x = xs.getD b 0 → y = ys.getD b 0) ∧ wr = w.drewN q) (fun u _ => i - (intOf u).toNat)
        case atStart => exact ⟨0, q0, Nat.zero_le _, rfl, fun a h => absurd h (Nat.not_lt_zero _), rfl⟩
        case round =>
          obtain ⟨k, q1, hk, rfl, hok2, rfl⟩ := hrel
          have HOK2 := Lib.hid hok2
          clear hok2
          by_cases hkl : k < i
          · have hki : (k : Int) < (i : Int) := by omega
            have hkn : (k : Int) < (n : Int) := by omega
            obtain ⟨g3, p3, e3, -, -, hcx2, -⟩ := HV.out.cell (j := k) (by rw [← HE.out]; omega)
            obtain ⟨g4, p4, e4, -, -, hcy2, -⟩ := HU.out.cell (j := k) (by rw [← HE2.out]; omega)
            simp only [Value.slice.injEq] at e3 e4
            obtain ⟨e3, -, -⟩ := e3
            obtain ⟨e4, -, -⟩ := e4
            obtain rfl : g1 = g3 := by simpa using e3
            obtain rfl : g2 = g4 := by simpa using e4
            have HNO2 := Lib.hid (HNO.out k hkl)
            have HST2 := Lib.hid (fun (h : x = xs.getD k 0 → y = ys.getD k 0) => show ∀ b, b < k + 1 → x = xs.getD b 0 → y = ys.getD b 0 from fun b hb => by
              by_cases e : b < k
              · exact HOK2.out b e
              · obtain rfl : b = k := by omega
                exact h)
            generalize xs.getD k 0 = x2 at *
            generalize ys.getD k 0 = y2 at *
            clear e3 e4
            by_cases ex : x = x2
            · have b1 : (x == x2) = true := by simp [ex]
              by_cases ey : y = y2
              · have b2 : (y != y2) = false := by simp [ey]
                have HS3 := Lib.hid (HST2.out fun _ => ey)
                clear ex ey
                go_wp2
                go_quiet (fail)
                go_wp2
                exact ⟨⟨k + 1, _, by omega, by simp, HS3.out, rfl⟩, by simp [intOf]; omega⟩
              · have b2 : (y != y2) = true := by simp [ey]
                have HF := Lib.hid (HNO2.out ex ey)
                clear ex ey
                go_wp2
                go_quiet (fail)
                go_wp2
                go_ret
                exact ⟨ret_bool (by rw [HP.out, HF.out]), below_drewN (below_drewN (Below.refl _ _) _) _⟩
            · have b1 : (x == x2) = false := by simp [ex]
              have HS3 := Lib.hid (HST2.out fun h => absurd h ex)
              clear ex
              go_wp2
              go_quiet (fail)
              go_wp2
              exact ⟨⟨k + 1, _, by omega, by simp, HS3.out, rfl⟩, by simp [intOf]; omega⟩
          · obtain rfl : k = i := by omega
            have HS3 := Lib.hid (HST.out HOK2.out)
            go_wp2
            exact ⟨⟨k + 1, q1, by omega, by simp, HS3.out, rfl⟩, by simp [intOf]; omega⟩
      · obtain rfl : i = n := by omega
        have HF := Lib.hid (show fnB xs ys = true from decide_eq_true (by rw [← HE.out]; exact HOK.out))
        go_wp2
        go_ret
        exact ⟨ret_bool (by rw [HP.out, HF.out]), below_drewN (Below.refl _ _) _⟩
  · have HP := Lib.hid (show finB xs ys = false by unfold finB twoB; rw [decide_eq_false hlen]; simp)
    have hne : ((xs.length : Int) != (ys.length : Int)) = true := by simp; omega
    rw [hx] at HM
    rw [hy] at HN
    clear hx hy
    go_enter Try.func13, Try.ntmps13
    go_wp2_with fail
    (with_reducible refine HM.out.mono ?_)
    rintro e w' ⟨rfl, rfl⟩
    go_wp2_with fail
    (with_reducible refine HN.out.mono ?_)
    rintro e w' ⟨rfl, rfl⟩
    go_wp2
    go_ret
    exact ⟨ret_bool HP.out.symm, Below.refl _ _⟩

set_option maxRecDepth 100000 in
set_option maxHeartbeats 1600000 in
theorem finerMeet (A A' : Option Addr) (xs ys : List Int) (cap cap' lo hi lo' hi' : Nat) (w : World) (hv : OwnI w lo hi (.slice A xs.length cap) xs) (hu : OwnI w lo' hi' (.slice A' ys.length cap') ys) (hhi : hi ≤ w.heap.size) (hhu : hi' ≤ w.heap.size) (hl : xs.length ≤ 1099511627776) (hl' : ys.length ≤ 1099511627776) :
    Calls Try.prog 15 #[.slice A xs.length cap, .slice A' ys.length cap'] w (AnsIB (meP xs ys) (twoB xs ys) w) := by
  have HM := Lib.hid (isPartition _ xs lo hi w hv hl)
  have HN := Lib.hid (isPartition _ ys lo' hi' w hu hl')
  have HV := Lib.hid hv
  have HU := Lib.hid hu
  clear hv hu
  rcases hx : prtB xs with _ | _
  · have HO := Lib.hid (show twoB xs ys = false by unfold twoB; rw [hx]; rfl)
    have HP := Lib.hid (show meP xs ys = [] from if_neg (by rw [HO.out]; simp))
    rw [hx] at HM
    clear hx
    go_enter Try.func15, Try.ntmps15
    go_wp2_with fail
    (with_reducible refine HM.out.mono ?_)
    rintro e w' ⟨rfl, rfl⟩
    go_wp2
    go_ret2
    exact ⟨_, ret_vb8 rfl HO.out.symm, by rw [HP.out]; exact ⟨_, _, rfl, .inl rfl⟩, (Below.refl _ _).alloc (Nat.le_refl _) _⟩
  rcases hy : prtB ys with _ | _
  · have HO := Lib.hid (show twoB xs ys = false by unfold twoB; rw [hx, hy]; rfl)
    have HP := Lib.hid (show meP xs ys = [] from if_neg (by rw [HO.out]; simp))
    rw [hx] at HM
    rw [hy] at HN
    clear hx hy
    go_enter Try.func15, Try.ntmps15
    go_wp2_with fail
    (with_reducible refine HM.out.mono ?_)
    rintro e w' ⟨rfl, rfl⟩
    go_wp2_with fail
    (with_reducible refine HN.out.mono ?_)
    rintro e w' ⟨rfl, rfl⟩
    go_wp2
    go_ret2
    exact ⟨_, ret_vb8 rfl HO.out.symm, by rw [HP.out]; exact ⟨_, _, rfl, .inl rfl⟩, (Below.refl _ _).alloc (Nat.le_refl _) _⟩
  by_cases hlen : xs.length = ys.length
  · have HO := Lib.hid (show twoB xs ys = true by unfold twoB; rw [hx, hy, decide_eq_true hlen]; rfl)
    have HP := Lib.hid (show meP xs ys = rnO (prL 9 xs ys xs.length) xs.length from if_pos HO.out)
    have h8 := (prt_yes hx).1
    have HBX := Lib.hid (fun i (hi : i < xs.length) => prt_lt hx hi)
    have HBY := Lib.hid (fun i (hi : i < ys.length) => prt_lt hy hi)
    rw [hx] at HM
    rw [hy] at HN
    clear hx hy
    obtain ⟨n, hn⟩ : ∃ n, n = xs.length := ⟨_, rfl⟩
    have HE := Lib.hid hn
    have HE2 := Lib.hid (hn.trans hlen)
    have hne : ((n : Int) != (n : Int)) = false := by simp
    have HREN := Lib.hid (fun v lo hi W (h : OwnI W lo hi v (prL 9 xs ys n)) (hh : hi ≤ W.heap.size) => l8Renumber v (prL 9 xs ys n) lo hi W h hh (by rw [prL_len]; omega))
    rw [prL_len] at HREN
    rw [← HE.out] at HP
    rw [← HE.out, ← HE2.out]
    rw [← HE.out] at HM HV h8 HBX
    rw [← HE2.out] at HN HU HBY
    clear hn hlen hl hl'
    go_enter Try.func15, Try.ntmps15
    go_wp2_with fail
    (with_reducible refine HM.out.mono ?_)
    rintro e w' ⟨rfl, rfl⟩
    go_wp2_with fail
    (with_reducible refine HN.out.mono ?_)
    rintro e w' ⟨rfl, rfl⟩
    go_wp2
    go_loopw [6, 7] (fun v y wr => ∃ i : Nat, i ≤ n ∧ y = .int .i64 i ∧ wr.ownsRow w.heap.size 3 1 v (prL 9 xs ys i).length ((prL 9 xs ys i).map (Value.int .i64)) ∧ Below w.heap.size w wr) (fun _ y _ => n - (intOf y).toNat)
    case atStart => exact ⟨0, Nat.zero_le _, rfl, World.ownsRow_made w #[] 0 (Nat.le_refl _) (Nat.zero_le _) (by simp), (Below.refl _ _).alloc (Nat.le_refl _) _⟩
    case round =>
      obtain ⟨i, hi, rfl, hown, hb⟩ := hrel
      have hl2 : (prL 9 xs ys i).length ≤ 1000 := by rw [prL_len]; omega
      have HS := Lib.hid (prL_succ 9 xs ys i)
      have hB := hb.size
      by_cases hlt : i < n
      · have hii : (i : Int) < (n : Int) := by omega
        obtain ⟨g1, p1, e1, -, -, hcx, -⟩ := (HV.out.keep hb hhi).cell (j := i) (by rw [← HE.out]; exact hlt)
        obtain ⟨g2, p2, e2, -, -, hcy, -⟩ := (HU.out.keep hb hhu).cell (j := i) (by rw [← HE2.out]; exact hlt)
        simp only [Value.slice.injEq] at e1 e2
        obtain ⟨rfl, -, -⟩ := e1
        obtain ⟨rfl, -, -⟩ := e2
        have bx := HBX.out i hlt
        have byy := HBY.out i hlt
        generalize xs.getD i 0 = x at *
        generalize ys.getD i 0 = y at *
        generalize prL 9 xs ys i = acc at *
        have v1 : IntKind.i64.wrap (x * 9) = x * 9 := IntWalk.i64_in _ (by omega)
        have v2 : IntKind.i64.wrap (x * 9 + y) = x * 9 + y := IntWalk.i64_in _ (by omega)
        have HROW := Lib.hid hown
        have HBW := Lib.hid hb
        clear hown hb
        go_wp2
        go_region_law (refine stepApp1 rfl _ _ (by rfl) w.heap.size _ acc.length acc (by rfl) (World.ownsRow.alloc (row_drew HROW.out) _) _ 1 (x * 9 + y) (by rfl) (cell_one_at (by simp)) (by omega) (by simp; omega) ?_; intro v' w' hown' hg'; have HOW := Lib.hid hown'; have HBG := Lib.hid (((below_drewN HBW.out _).alloc hB _).grown hg' (by simp; omega) (fun k hk => (World.ownsRow.lt HROW.out k hk).1)); clear hown' hg')
        all_goals go_wp2
        all_goals exact ⟨⟨i + 1, by omega, by simp, by rw [HS.out, List.length_append]; exact HOW.out, HBG.out⟩, by simp [intOf]; omega⟩
      · obtain rfl : i = n := by omega
        have HOW := Lib.hid (OwnI.of_row hown)
        have HB1 := Lib.hid hb
        clear hown hl2 hb
        obtain ⟨A3, c3, e3, -⟩ := id HOW.out
        subst e3
        go_wp2_with fail
        (with_reducible refine (HREN.out _ _ _ _ HOW.out (Nat.le_refl _)).mono ?_)
        rintro e w3 ⟨v3, rfl, ho, hb⟩
        have HO3 := Lib.hid ho
        have HB3 := Lib.hid (HB1.out.trans (hb.mono hB))
        clear hb ho
        go_wp2
        go_ret2
        exact ⟨_, ret_vb8 rfl HO.out.symm, by rw [HP.out]; exact HO3.out.wide hB (Nat.le_refl _), HB3.out⟩
  · have HO := Lib.hid (show twoB xs ys = false by unfold twoB; rw [decide_eq_false hlen]; simp)
    have HP := Lib.hid (show meP xs ys = [] from if_neg (by rw [HO.out]; simp))
    have hne : ((xs.length : Int) != (ys.length : Int)) = true := by simp; omega
    rw [hx] at HM
    rw [hy] at HN
    clear hx hy
    go_enter Try.func15, Try.ntmps15
    go_wp2_with fail
    (with_reducible refine HM.out.mono ?_)
    rintro e w' ⟨rfl, rfl⟩
    go_wp2_with fail
    (with_reducible refine HN.out.mono ?_)
    rintro e w' ⟨rfl, rfl⟩
    go_wp2
    go_ret2
    exact ⟨_, ret_vb8 rfl HO.out.symm, by rw [HP.out]; exact ⟨_, _, rfl, .inl rfl⟩, (Below.refl _ _).alloc (Nat.le_refl _) _⟩

end Go.Proofs.Ytpkfgjlbkiiciaa
