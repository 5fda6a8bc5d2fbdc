/- CountBelow, both functions. -/
import Derived.Test.YtjjaildejonmfaaSpec18A
import Derived.Test.YtjjaildejonmfaaImpl18A
import Derived.Test.YtjjaildejonmfaaPaths3
namespace Go.Proofs.Ytjjaildejonmfaa
open Go.ChangeShapes Go.WideShapes Go.ChangeAt Go.RowKit
open Go.PlainAid (bt bt_nonneg bt_le get_bt bt_end)
set_option linter.unusedVariables false

theorem allF_sz : ∀ (f : Nat) (s : ByteArray) (u d : Nat), ∀ x ∈ allF f s u d, x.size ≤ s.size + f := by
  intro f
  induction f with
  | zero => intro s u d x hx; simp [allF] at hx; subst hx; omega
  | succ f ih =>
    intro s u d x hx
    rw [allF, List.mem_append] at hx
    have one : ∀ c : UInt8, (s ++ ⟨#[c]⟩ : ByteArray).size = s.size + 1 := fun c => by rw [ByteArray.size_append]; rfl
    rcases hx with hx | hx
    · split at hx
      · have := ih _ _ _ x hx
        rw [one] at this; omega
      · simp at hx
    · split at hx
      · have := ih _ _ _ x hx
        rw [one] at this; omega
      · simp at hx
theorem paths_sz (n : Int) (i : Nat) : ((pathsP n).getD i E0).size ≤ 100 := by
  rw [List.getD_eq_getElem?_getD]
  rcases Nat.lt_or_ge i (pathsP n).length with h | h
  · rw [List.getElem?_eq_getElem h, Option.getD_some]
    have hm := List.getElem_mem h
    generalize (pathsP n)[i] = x at hm ⊢
    unfold pathsP at hm
    split at hm
    · have := allF_sz _ _ _ _ _ hm
      have h0 : (⟨#[]⟩ : ByteArray).size = 0 := rfl
      have h5 : n.toNat ≤ 8 := by omega
      omega
    · exact absurd hm List.not_mem_nil
  · rw [List.getElem?_eq_none h]; show (0 : Nat) ≤ 100; omega
theorem paths_len (n : Int) : (pathsP n).length ≤ 4096 := by
  unfold pathsP
  split
  · exact allF_small _ _ _ _ (by omega)
  · simp
/-- The paths ahead of place k that are above a. -/
def rwC (L : List ByteArray) (a : ByteArray) : Nat → Nat
  | 0 => 0
  | k + 1 => rwC L a k + if isbP a (L.getD k E0) = true then 1 else 0
def ctC (L : List ByteArray) : Nat → Nat
  | 0 => 0
  | i + 1 => ctC L i + rwC L (L.getD i E0) L.length
theorem rwC_le (L : List ByteArray) (a : ByteArray) : ∀ k, rwC L a k ≤ k
  | 0 => Nat.le_refl _
  | k + 1 => by have := rwC_le L a k; rw [rwC]; split <;> omega
theorem ctC_le (L : List ByteArray) (h : L.length ≤ 4096) : ∀ i, ctC L i ≤ i * 4096
  | 0 => Nat.zero_le _
  | i + 1 => by
    have h1 := ctC_le L h i
    have h2 := rwC_le L (L.getD i E0) L.length
    rw [ctC]; omega
theorem l1In_cb (x lo hi : Int) (w : World) (h : ¬ (lo ≤ x ∧ x ≤ hi)) :
    Calls Try.prog 51 #[.int .i64 x, .int .i64 lo, .int .i64 hi] w fun e w' => e = .returned (.bool false) ∧ w = w' := by
  by_cases h1 : x < lo
  · exact l1In_no1 x lo hi w h1
  · exact l1In_no2 x lo hi w (by omega) (by omega)
def cblP (n : Int) : Int := if 0 ≤ n ∧ n ≤ 5 then ((ctC (pathsP n) (pathsP n).length : Nat) : Int) else -1

set_option maxRecDepth 100000 in
set_option maxHeartbeats 3200000 in
theorem countBelow (n : Int) (w : World) : Calls Try.prog 27 #[.int .i64 n] w fun e w' => e = .returned (.int .i64 (cblP n)) ∧ Below w.heap.size w w' := by
  by_cases hn : 0 ≤ n ∧ n ≤ 5
  · have HI := Lib.hid (l1In_yes n 0 5 w hn.1 hn.2)
    have HL := Lib.hid (fun W => pathsOf n W)
    have HP := Lib.hid (show cblP n = ((ctC (pathsP n) (pathsP n).length : Nat) : Int) from if_pos hn)
    have HSZ := Lib.hid (paths_sz n)
    have hlen := paths_len n
    clear hn
    generalize pathsP n = L at *
    obtain ⟨m, hm⟩ : ∃ m, m = L.length := ⟨_, rfl⟩
    have HM := Lib.hid hm
    have HCT := Lib.hid (ctC_le L hlen)
    rw [← hm] at hlen HP
    clear hm
    go_enter Try.func27, Try.ntmps27
    go_wp2_with fail
    (with_reducible refine HI.out.mono ?_)
    rintro e w' ⟨rfl, rfl⟩
    go_wp2_with fail
    (with_reducible refine (HL.out _).mono ?_)
    rintro e w1 ⟨v1, rfl, o1, b1⟩
    obtain ⟨A1, c1, rfl, -⟩ := id o1
    have HO := Lib.hid o1
    have HB1 := Lib.hid b1
    have z1 := b1.size
    clear o1 b1
    rw [← HM.out] at HO
    rw [← HM.out]
    go_wp2
    go_loopw [4, 5] (fun x y wr => ∃ i : Nat, i ≤ m ∧ y = .int .i64 i ∧ x = .int .i64 (ctC L i : Nat) ∧ Below w1.heap.size w1 wr) (fun _ y _ => m - (intOf y).toNat)
    case atStart => exact ⟨0, Nat.zero_le _, rfl, rfl, Below.refl _ _⟩
    case round =>
      obtain ⟨i, hi, rfl, rfl, hb⟩ := hrel
      have HB := Lib.hid hb
      clear hb
      by_cases hlt : i < m
      · have hii : (i : Int) < (m : Int) := by omega
        have hct := HCT.out i
        have HCN := Lib.hid (show ctC L (i + 1) = ctC L i + rwC L (L.getD i E0) m by rw [ctC, ← HM.out])
        obtain ⟨c, hc⟩ : ∃ c, c = ctC L i := ⟨_, rfl⟩
        have HC := Lib.hid hc
        rw [← hc] at hct HCN
        rw [← hc]
        have hc24 : c ≤ 16777216 := by
          have : i * 4096 ≤ 4096 * 4096 := Nat.mul_le_mul (by omega) (Nat.le_refl _)
          omega
        clear hc hct
        go_wp2
        obtain ⟨wo, rfl⟩ : ∃ wo, wo = wr := ⟨_, rfl⟩
        go_loopw [4, 6] (fun x y wr => ∃ k : Nat, k ≤ m ∧ y = .int .i64 k ∧ x = .int .i64 ((c + rwC L (L.getD i E0) k : Nat) : Int) ∧ Below w1.heap.size w1 wr) (fun _ y _ => m - (intOf y).toNat)
        case atStart => exact ⟨0, Nat.zero_le _, rfl, rfl, HB.out⟩
        case round =>
          obtain ⟨k, hk, rfl, rfl, hb2⟩ := hrel
          have HB2 := Lib.hid hb2
          have zB2 := hb2.size
          clear hb2
          have hrl := rwC_le L (L.getD i E0) k
          by_cases hlt2 : k < m
          · have hkk : (k : Int) < (m : Int) := by omega
            obtain ⟨g1, p1, e1, -, -, hc1, -⟩ := (HO.out.keep HB2.out (Nat.le_refl _)).cell (j := i) (by have := HM.out; omega)
            simp only [Value.slice.injEq] at e1
            obtain ⟨rfl, -, rfl⟩ := e1
            obtain ⟨g2, p2, e2, -, -, hc2, -⟩ := (HO.out.keep HB2.out (Nat.le_refl _)).cell (j := k) (by have := HM.out; omega)
            simp only [Value.slice.injEq, Option.some.injEq, Addr.mk.injEq] at e2
            obtain ⟨⟨rfl, -⟩, -, -⟩ := e2
            have HIB := Lib.hid (fun q => isBelow (L.getD i E0) (L.getD k E0) q (by have := HSZ.out i; omega) (by have := HSZ.out k; omega))
            have HRN := Lib.hid (show rwC L (L.getD i E0) (k + 1) = rwC L (L.getD i E0) k + if isbP (L.getD i E0) (L.getD k E0) = true then 1 else 0 from rfl)
            generalize rwC L (L.getD i E0) k = r at *
            generalize L.getD i E0 = X at *
            generalize L.getD k E0 = Y at *
            rcases hb : isbP X Y with _ | _
            · have HR := Lib.hid (show rwC L X (k + 1) = r by rw [HRN.out, hb]; simp)
              rw [hb] at HIB
              clear hb HRN
              go_wp2
              go_region_law (go_simp; go_at_call 30; (with_reducible refine (HIB.out _).mono ?_); rintro e w3 ⟨rfl, hb3⟩; have HB3 := Lib.hid (HB2.out.drew.trans (hb3.mono (show w1.heap.size ≤ wr.drew.heap.size from zB2))); clear hb3)
              all_goals go_wp2
              all_goals exact ⟨⟨k + 1, by omega, by simp, by rw [HR.out]; simp, HB3.out⟩, by simp [intOf]; omega⟩
            · have HR := Lib.hid (show rwC L X (k + 1) = r + 1 by rw [HRN.out, hb]; simp)
              rw [hb] at HIB
              clear hb HRN
              go_wp2
              go_region_law (go_simp; go_at_call 30; (with_reducible refine (HIB.out _).mono ?_); rintro e w3 ⟨rfl, hb3⟩; have HB3 := Lib.hid (HB2.out.drew.trans (hb3.mono (show w1.heap.size ≤ wr.drew.heap.size from zB2))); clear hb3)
              all_goals go_wp2
              all_goals exact ⟨⟨k + 1, by omega, by simp, by rw [HR.out]; simp; omega, HB3.out⟩, by simp [intOf]; omega⟩
          · obtain rfl : k = m := by omega
            go_wp2
            exact ⟨⟨i + 1, by omega, by simp, by rw [HCN.out], HB2.out⟩, by simp [intOf]; omega⟩
      · obtain rfl : i = m := by omega
        go_wp2
        go_ret
        exact ⟨ret_int HP.out.symm, HB1.out.trans (HB.out.mono z1)⟩
  · have HI := Lib.hid (l1In_cb n 0 5 w hn)
    have HP := Lib.hid (show cblP n = -1 from if_neg hn)
    go_enter Try.func27, Try.ntmps27
    go_wp2_with fail
    (with_reducible refine HI.out.mono ?_)
    rintro e w' ⟨rfl, rfl⟩
    go_wp2
    go_ret
    exact ⟨ret_int HP.out.symm, Below.refl _ _⟩

set_option maxRecDepth 100000 in
set_option maxHeartbeats 3200000 in
theorem countBelowI (n : Int) (w : World) : Calls Try.prog 26 #[.int .i64 n] w fun e w' => e = .returned (.int .i64 (cblP n)) ∧ Below w.heap.size w w' := by
  by_cases hn : 0 ≤ n ∧ n ≤ 5
  · have hn0 : ¬ n < 0 := by omega
    have hn5 : ¬ (5 : Int) < n := by omega
    have HL := Lib.hid (fun W => pathsOfI2 n W)
    have HP := Lib.hid (show cblP n = ((ctC (pathsP n) (pathsP n).length : Nat) : Int) from if_pos hn)
    have HSZ := Lib.hid (paths_sz n)
    have hlen := paths_len n
    clear hn
    generalize pathsP n = L at *
    obtain ⟨m, hm⟩ : ∃ m, m = L.length := ⟨_, rfl⟩
    have HM := Lib.hid hm
    have HCT := Lib.hid (ctC_le L hlen)
    rw [← hm] at hlen HP
    clear hm
    go_enter Try.func26, Try.ntmps26
    go_wp2_with fail
    (with_reducible refine (HL.out _).mono ?_)
    rintro e w1 ⟨v1, rfl, o1, b1⟩
    obtain ⟨A1, c1, rfl, -⟩ := id o1
    have HO := Lib.hid o1
    have HB1 := Lib.hid b1
    have z1 := b1.size
    clear o1 b1
    rw [← HM.out] at HO
    rw [← HM.out]
    go_wp2
    go_loopw [3, 17] (fun x y wr => ∃ i : Nat, i ≤ m ∧ y = .int .i64 i ∧ x = .int .i64 (ctC L i : Nat) ∧ Below w1.heap.size w1 wr) (fun _ y _ => m - (intOf y).toNat)
    case atStart => exact ⟨0, Nat.zero_le _, rfl, rfl, Below.refl _ _⟩
    case round =>
      obtain ⟨i, hi, rfl, rfl, hb⟩ := hrel
      have HB := Lib.hid hb
      have zB := hb.size
      clear hb
      by_cases hlt : i < m
      · have hii : (i : Int) < (m : Int) := by omega
        have hct := HCT.out i
        have HCN := Lib.hid (show ctC L (i + 1) = ctC L i + rwC L (L.getD i E0) m by rw [ctC, ← HM.out])
        obtain ⟨c, hc⟩ : ∃ c, c = ctC L i := ⟨_, rfl⟩
        have HC := Lib.hid hc
        rw [← hc] at hct HCN
        rw [← hc]
        have hc24 : c ≤ 16777216 := by
          have : i * 4096 ≤ 4096 * 4096 := Nat.mul_le_mul (by omega) (Nat.le_refl _)
          omega
        clear hc hct
        obtain ⟨g1, p1, e1, -, -, hc1, -⟩ := (HO.out.keep HB.out (Nat.le_refl _)).cell (j := i) (by have := HM.out; omega)
        simp only [Value.slice.injEq] at e1
        obtain ⟨rfl, -, rfl⟩ := e1
        have HXS := Lib.hid (HSZ.out i)
        generalize hX : L.getD i E0 = X at *
        clear hX
        go_wp2_with fail
        (with_reducible refine (HL.out _).mono ?_)
        rintro e w2 ⟨v2, rfl, o2, b2⟩
        obtain ⟨A2, c2, rfl, -⟩ := id o2
        have HO2 := Lib.hid o2
        have HB2 := Lib.hid (HB.out.trans (b2.mono zB))
        have z2 := HB2.out.size
        clear o2 b2
        rw [← HM.out] at HO2
        rw [← HM.out]
        go_wp2
        go_loopw [3, 24] (fun x y wr => ∃ k : Nat, k ≤ m ∧ y = .int .i64 k ∧ x = .int .i64 ((c + rwC L X k : Nat) : Int) ∧ Below w2.heap.size w2 wr) (fun _ y _ => m - (intOf y).toNat)
        case atStart => exact ⟨0, Nat.zero_le _, rfl, rfl, Below.refl _ _⟩
        case round =>
          obtain ⟨k, hk, rfl, rfl, hb3⟩ := hrel
          have HB3 := Lib.hid hb3
          have zB3 := hb3.size
          clear hb3
          have hrl := rwC_le L X k
          by_cases hlt2 : k < m
          · have hkk : (k : Int) < (m : Int) := by omega
            obtain ⟨g2, p2, e2, -, -, hc2, -⟩ := (HO2.out.keep HB3.out (Nat.le_refl _)).cell (j := k) (by have := HM.out; omega)
            simp only [Value.slice.injEq] at e2
            obtain ⟨rfl, -, rfl⟩ := e2
            have HIB := Lib.hid (fun W => isBelowI X (L.getD k E0) W (by have := HXS.out; omega) (by have := HSZ.out k; omega))
            have HRN := Lib.hid (show rwC L X (k + 1) = rwC L X k + if isbP X (L.getD k E0) = true then 1 else 0 from rfl)
            generalize rwC L X k = r at *
            generalize L.getD k E0 = Y at *
            rcases hb : isbP X Y with _ | _
            · have HR := Lib.hid (show rwC L X (k + 1) = r by rw [HRN.out, hb]; simp)
              rw [hb] at HIB
              clear hb HRN
              go_wp2_with fail
              (with_reducible refine (HIB.out _).mono ?_)
              rintro e w3 ⟨rfl, hb4⟩
              go_wp2
              exact ⟨⟨k + 1, by omega, by simp, by rw [HR.out]; simp, HB3.out.trans (hb4.mono zB3)⟩, by simp [intOf]; omega⟩
            · have HR := Lib.hid (show rwC L X (k + 1) = r + 1 by rw [HRN.out, hb]; simp)
              rw [hb] at HIB
              clear hb HRN
              go_wp2_with fail
              (with_reducible refine (HIB.out _).mono ?_)
              rintro e w3 ⟨rfl, hb4⟩
              go_wp2
              exact ⟨⟨k + 1, by omega, by simp, by rw [HR.out]; simp; omega, HB3.out.trans (hb4.mono zB3)⟩, by simp [intOf]; omega⟩
          · obtain rfl : k = m := by omega
            go_wp2
            exact ⟨⟨i + 1, by omega, by simp, by rw [HCN.out], HB2.out.trans (HB3.out.mono z2)⟩, by simp [intOf]; omega⟩
      · obtain rfl : i = m := by omega
        go_wp2
        go_ret
        exact ⟨ret_int HP.out.symm, HB1.out.trans (HB.out.mono z1)⟩
  · have HP := Lib.hid (show cblP n = -1 from if_neg hn)
    by_cases h0 : n < 0
    · clear hn
      go_enter Try.func26, Try.ntmps26
      go_wp2
      go_ret
      exact ⟨ret_int HP.out.symm, Below.refl _ _⟩
    · have h5 : (5 : Int) < n := by omega
      clear hn
      go_enter Try.func26, Try.ntmps26
      go_wp2
      go_ret
      exact ⟨ret_int HP.out.symm, Below.refl _ _⟩

end Go.Proofs.Ytjjaildejonmfaa
