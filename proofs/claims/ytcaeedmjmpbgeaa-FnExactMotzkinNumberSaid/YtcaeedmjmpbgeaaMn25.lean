/- MotzkinNumber, both functions. -/
import Derived.Test.YtcaeedmjmpbgeaaCnt25
import Derived.BigQuiet
namespace Go.Proofs.Ytcaeedmjmpbgeaa
open Go.ChangeShapes Go.WideShapes Go.ChangeAt Go.RowKit
set_option linter.unusedVariables false

theorem wl_len (W : Int) : (wl W).length = 3 := rfl
def smlB (W : Int) : Bool := (List.range 25).all fun L => (List.range (L + 1)).all fun h => decide (0 ≤ cv (wl W) L h) && decide (cv (wl W) L h ≤ 1000000000000)
theorem sml_of (W : Int) (h1 : 1 ≤ W) (h2 : W ≤ 2) (hb : ((ctT (wl W) 24).all fun row => row.all fun x => decide (0 ≤ x) && decide (x ≤ 1000000000000)) = true) : Sml (wl W) := by
  constructor
  · intro L hL h hh
    rw [← ctT_at (wl W) (L := 24) hL h]
    rw [List.all_eq_true] at hb
    have hl : L < (ctT (wl W) 24).length := by rw [ctT_len]; omega
    have h3 := hb _ (List.getElem_mem hl)
    rw [List.all_eq_true] at h3
    have e : (ctT (wl W) 24).getD L [] = (ctT (wl W) 24)[L] := by rw [List.getD_eq_getElem?_getD, List.getElem?_eq_getElem hl]; rfl
    rw [e]
    rcases Nat.lt_or_ge h (ctT (wl W) 24)[L].length with h4 | h4
    · have h5 := h3 _ (List.getElem_mem h4)
      rw [List.getD_eq_getElem?_getD, List.getElem?_eq_getElem h4]
      simpa using h5
    · rw [List.getD_eq_getElem?_getD, List.getElem?_eq_none h4]; exact ⟨by decide, by decide⟩
  · intro i hi
    match i, hi with
    | 0, _ => exact ⟨(by decide : (0 : Int) ≤ 1 - 1), (by decide : (1 : Int) ≤ 2), (by decide : (-1 : Int) ≤ 1), (by decide : (1 : Int) ≤ 3)⟩
    | 1, _ => exact ⟨by show 0 ≤ W - 1; omega, by show W ≤ 2; omega, (by decide : (-1 : Int) ≤ 0), (by decide : (0 : Int) ≤ 3)⟩
    | 2, _ => exact ⟨(by decide : (0 : Int) ≤ 1 - 1), (by decide : (1 : Int) ≤ 2), (by decide : (-1 : Int) ≤ -1), (by decide : (-1 : Int) ≤ 3)⟩
theorem sml1 : Sml (wl 1) := sml_of 1 (by decide) (by decide) (by decide +kernel)

def mzS (t : List Int) (i : Nat) : Nat → Int
  | 0 => t.getD i 0
  | k + 1 => mzS t i k + t.getD k 0 * t.getD (i - 1 - k) 0
def mzL : Nat → List Int
  | 0 => [1]
  | i + 1 => mzL i ++ [mzS (mzL i) i i]
theorem mzL_len : ∀ i, (mzL i).length = i + 1
  | 0 => rfl
  | i + 1 => by rw [mzL, List.length_append, mzL_len i]; rfl
theorem mz_bd : ∀ i, i < 21 → ∀ k, k < 21 → k ≤ i → 0 ≤ mzS (mzL i) i k ∧ mzS (mzL i) i k ≤ 1000000000000 := by decide +kernel
theorem mz_cv : ∀ n, n < 21 → (mzL n).getD n 0 = cv (wl 1) n 0 := by decide +kernel
def mnP (n : Int) : Int := if 0 ≤ n ∧ n ≤ 20 then cv (wl 1) n.toNat 0 else -1

set_option maxRecDepth 100000 in
set_option maxHeartbeats 1600000 in
theorem motzkinNumberI (n : Int) (w : World) : Calls Try.prog 12 #[.int .i64 n] w fun e w' => e = .returned (.int .i64 (mnP n)) ∧ Below w.heap.size w w' := by
  by_cases h0 : n < 0
  · have HP := Lib.hid (show mnP n = -1 from if_neg (by omega))
    have d0 : decide (n < 0) = true := decide_eq_true h0
    go_enter Try.func12, Try.ntmps12
    go_wp2
    go_ret
    exact ⟨ret_int HP.out.symm, Below.refl _ _⟩
  have d0 : decide (n < 0) = false := decide_eq_false h0
  by_cases h1 : 20 < n
  · have HP := Lib.hid (show mnP n = -1 from if_neg (by omega))
    have d1 : decide (20 < n) = true := decide_eq_true h1
    go_enter Try.func12, Try.ntmps12
    go_wp2
    go_ret
    exact ⟨ret_int HP.out.symm, Below.refl _ _⟩
  have d1 : decide (20 < n) = false := decide_eq_false h1
  obtain ⟨N, rfl⟩ : ∃ q : Nat, n = q := ⟨n.toNat, by omega⟩
  have d2 : decide (20 < N) = false := decide_eq_false (by omega)
  have HP := Lib.hid (show mnP N = cv (wl 1) N 0 by unfold mnP; rw [if_pos (by omega)]; rfl)
  have HL := Lib.hid (withLevelsI 1 w)
  have HC := Lib.hid (fun W (h : Alph W w.heap.size (wl 1)) => countI (wl 1) w.heap.size 3 N W h rfl (Nat.le_refl _) sml1 (by omega))
  generalize cv (wl 1) N 0 = c at *
  go_enter Try.func12, Try.ntmps12
  go_wp2_with fail
  (with_reducible refine HL.out.mono ?_)
  rintro e w1 ⟨rfl, ha, hb⟩
  go_wp2_with fail
  (with_reducible refine (HC.out _ ?h).mono ?_)
  case h => exact ha
  rintro e w2 ⟨rfl, hb2⟩
  go_wp2
  go_ret
  exact ⟨ret_int HP.out.symm, hb.trans (hb2.mono hb.size)⟩

set_option maxRecDepth 100000 in
set_option maxHeartbeats 3200000 in
theorem motzkinNumber (n : Int) (w : World) : Calls Try.prog 11 #[.int .i64 n] w fun e w' => e = .returned (.int .i64 (mnP n)) ∧ Below w.heap.size w w' := by
  by_cases hn : 0 ≤ n ∧ n ≤ 20
  · have HI := Lib.hid (fun W => l1In_yes n 0 20 W hn.1 hn.2)
    obtain ⟨N, rfl⟩ : ∃ q : Nat, n = q := ⟨n.toNat, by omega⟩
    have hN : N ≤ 20 := by omega
    have HP := Lib.hid (show mnP N = (mzL N).getD N 0 by unfold mnP; rw [if_pos (by omega), mz_cv N (by omega)]; rfl)
    clear hn
    go_enter Try.func11, Try.ntmps11
    go_wp2_with fail
    (with_reducible refine (HI.out _).mono ?_)
    rintro e w' ⟨rfl, rfl⟩
    go_wp2
    go_loopw [3, 4] (fun v y wr => ∃ i : Nat, i ≤ N ∧ y = .int .i64 ((i : Int) + 1) ∧ wr.ownsRow w.heap.size 3 1 v (mzL i).length ((mzL i).map (Value.int .i64)) ∧ Below w.heap.size w wr) (fun _ y _ => N + 1 - (intOf y).toNat)
    case atStart => exact ⟨0, Nat.zero_le _, rfl, World.ownsRow_lit w #[.int .i64 1] 1 (Nat.le_refl _) (by unfold maxLen; omega) rfl, (Below.refl _ _).alloc (Nat.le_refl _) _⟩
    case round =>
      obtain ⟨i, hi, rfl, hown, hb⟩ := hrel
      have HOWN := Lib.hid hown
      have HB := Lib.hid hb
      have hB := hb.size
      have HOI := Lib.hid (OwnI.of_row hown)
      clear hown hb
      by_cases hlt : i < N
      · have hii : (i : Int) + 1 ≤ (N : Int) := by omega
        have HLN := Lib.hid (mzL_len i)
        have HNX := Lib.hid (show mzL (i + 1) = mzL i ++ [mzS (mzL i) i i] from rfl)
        have HBD := Lib.hid (fun k (hk : k ≤ i) => mz_bd i (by omega) k (by omega) hk)
        have HS0 := Lib.hid (show mzS (mzL i) i 0 = (mzL i).getD i 0 from rfl)
        have HSS := Lib.hid (fun k => show mzS (mzL i) i (k + 1) = mzS (mzL i) i k + (mzL i).getD k 0 * (mzL i).getD (i - 1 - k) 0 from rfl)
        generalize mzL i = T at *
        rw [HLN.out] at HOWN
        obtain ⟨g1, p1, rfl, -, -, hc0, -⟩ := HOI.out.cell (j := i) (by rw [HLN.out]; omega)
        rw [← HS0.out] at hc0
        have hil : (i : Int) < (T.length : Int) := by have := HLN.out; omega
        have hil2 : (i : Int) < (i : Int) + 1 := by omega
        have hil3 : i < T.length := by have := HLN.out; omega
        obtain ⟨wo, rfl⟩ : ∃ wo, wo = wr := ⟨_, rfl⟩
        go_wp2
        go_loopw [5, 6] (fun x y wr => ∃ k q : Nat, k ≤ i ∧ y = .int .i64 k ∧ x = .int .i64 (mzS T i k) ∧ wr = wo.drewN q) (fun _ y _ => i + 1 - (intOf y).toNat)
        case atStart => exact ⟨0, 0, Nat.zero_le _, rfl, rfl, rfl⟩
        case round =>
          obtain ⟨k, q, hk, rfl, rfl, hw2⟩ := hrel
          have HW := Lib.hid hw2
          have HB2 := Lib.hid (show Below w.heap.size w wr by rw [hw2]; exact below_drewN HB.out q)
          have HO2 := Lib.hid (show wr.ownsRow w.heap.size 3 1 (.slice (some ⟨g1, 0, none⟩) T.length p1) (i + 1) (T.map (Value.int .i64)) by rw [hw2]; exact HOWN.out)
          have HOI2 := Lib.hid (show OwnI wr w.heap.size wr.heap.size (.slice (some ⟨g1, 0, none⟩) T.length p1) T by rw [hw2]; exact HOI.out)
          have hB2 : w.heap.size ≤ wr.heap.size := HB2.out.size
          clear hw2
          by_cases hlt2 : k < i
          · have hki : (k : Int) + 2 ≤ (i : Int) + 1 := by omega
            obtain ⟨t, ht⟩ : ∃ t, t = i - 1 - k := ⟨_, rfl⟩
            have hti : (i : Int) + 1 - 2 - (k : Int) = (t : Int) := by omega
            obtain ⟨g2, p2, e2, -, -, hc1, -⟩ := HOI2.out.cell (j := k) (by rw [HLN.out]; omega)
            obtain ⟨g3, p3, e3, -, -, hc2, -⟩ := HOI2.out.cell (j := t) (by rw [HLN.out]; omega)
            simp only [Value.slice.injEq, Option.some.injEq, Addr.mk.injEq] at e2 e3
            obtain ⟨⟨rfl, -⟩, -⟩ := e2
            obtain ⟨⟨rfl, -⟩, -⟩ := e3
            have hkl : (k : Int) < (T.length : Int) := by have := HLN.out; omega
            have htl : (t : Int) < (T.length : Int) := by have := HLN.out; omega
            have hkl2 : k < T.length := by have := HLN.out; omega
            have htl2 : t < T.length := by have := HLN.out; omega
            have b1 := HBD.out k hk
            have b2 := HBD.out (k + 1) (by omega)
            have HNS := Lib.hid (HSS.out k)
            rw [← ht] at HNS
            rw [HSS.out k, ← ht] at b2
            have hwt : IntKind.i64.wrap ((i : Int) + 1 - 2) = (i : Int) + 1 - 2 := IntWalk.i64_in _ (by omega)
            have hwt2 : IntKind.i64.wrap (t : Int) = (t : Int) := IntWalk.i64_in _ (by omega)
            generalize T.getD k 0 = x at *
            generalize T.getD t 0 = z at *
            generalize mzS T i k = c at *
            generalize hp : x * z = p at *
            have v1 : IntKind.i64.wrap p = p := IntWalk.i64_in _ (by omega)
            have v2 : IntKind.i64.wrap (c + p) = c + p := IntWalk.i64_in _ (by omega)
            clear ht
            go_wp2
            go_quiet (fail)
            go_wp2
            exact ⟨⟨k + 1, q + nq, by omega, by simp, by rw [HNS.out], by rw [HW.out, World.drewN_drewN]⟩, by simp [intOf]; omega⟩
          · obtain rfl : k = i := by omega
            have hki : ¬ (k : Int) + 2 ≤ (k : Int) + 1 := by omega
            generalize mzS T k k = c at *
            go_wp2_with (at_builtin; go_must (refine wpAppInt rfl _ _ rfl w.heap.size _ _ T rfl (World.ownsRow.alloc HO2.out _) wr.heap.size _ _ rfl (cell_one _ _ _) (by omega) (base_up hB2) ?_); intro v' w' hown' hg')
            exact ⟨⟨k + 1, by omega, by simp, by rw [HNX.out, List.length_append, HLN.out]; exact hown', (HB2.out.alloc hB2 _).grown hg' (base_up hB2) (fun k hk => (HO2.out.lt k hk).1)⟩, by simp [intOf]; omega⟩
      · obtain rfl : i = N := by omega
        have hii : ¬ (i : Int) + 1 ≤ (i : Int) := by omega
        have HLN := Lib.hid (mzL_len i)
        obtain ⟨g1, p1, rfl, -, -, hc0, -⟩ := HOI.out.cell (j := i) (by rw [HLN.out]; omega)
        have hil : (i : Int) < ((mzL i).length : Int) := by have := HLN.out; omega
        have hil3 : i < (mzL i).length := by have := HLN.out; omega
        generalize (mzL i).getD i 0 = c at *
        generalize (mzL i).length = l at *
        go_wp2
        go_ret
        exact ⟨ret_int HP.out.symm, HB.out⟩
  · have HI := Lib.hid (fun W => (show Calls Try.prog 26 #[.int .i64 n, .int .i64 0, .int .i64 20] W fun e w' => e = .returned (.bool false) ∧ W = w' by
      by_cases h1 : 0 ≤ n
      · exact l1In_no2 n 0 20 W h1 (by omega)
      · exact l1In_no1 n 0 20 W (by omega)))
    have HP := Lib.hid (show mnP n = -1 from if_neg hn)
    clear hn
    go_enter Try.func11, Try.ntmps11
    go_wp2_with fail
    (with_reducible refine (HI.out _).mono ?_)
    rintro e w' ⟨rfl, rfl⟩
    go_wp2
    go_ret
    exact ⟨ret_int HP.out.symm, Below.refl _ _⟩

end Go.Proofs.Ytcaeedmjmpbgeaa
