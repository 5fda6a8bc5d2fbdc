/- The contracts of both DecodeVarint. -/
import Derived.Test.YtamdmflofbpjkaaH
import Derived.Lib.EndianBits
namespace Go.Proofs.Ytamdmflofbpjkaa
open Go.ChangeShapes Go.WideShapes Go.ChangeAt Go.RowKit
open Go.PlainAid (bt bt_nonneg bt_le get_bt)
set_option linter.unusedVariables false

theorem str_same {a b : ByteArray} (h : a = b) : (a.toList == b.toList) = true := by simp [h]
theorem str_other {a b : ByteArray} (h : ¬ a = b) : (a.toList == b.toList) = false := by
  rw [beq_eq_false_iff_ne]
  intro e
  rw [ByteArray.toList_eq, ByteArray.toList_eq] at e
  exact h (ByteArray.ext (Array.toList_inj.1 e))
theorem eq_yes {s : ByteArray} {n k : Nat} (hn : n = val s k) (h : k ≤ s.size) (hg : G s k) : ((strOfNums (vr n)).toList == (s.extract 0 k).toList) = true :=
  str_same (by rw [hn]; exact (G_iff s k h).2 hg)
theorem eq_no {s : ByteArray} {n k : Nat} (hn : n = val s k) (h : k ≤ s.size) (hg : ¬ G s k) : ((strOfNums (vr n)).toList == (s.extract 0 k).toList) = false :=
  str_other (by rw [hn]; exact fun e => hg ((G_iff s k h).1 e))
/-- A pair of numbers that is what DecodeVarint answers. -/
def SaysDV (s : ByteArray) (w : World) (e : Ending) (w' : World) : Prop := ∃ a b : Int, DV s a b ∧ e = .returned (.tuple #[.int .i64 a, .int .i64 b]) ∧ Below w.heap.size w w'

set_option maxRecDepth 100000 in
set_option maxHeartbeats 1600000 in
theorem specDV (s : ByteArray) (w : World) (hs : s.size ≤ 1048576) : Calls Try.prog 15 #[.string s] w (SaysDV s w) := by
  go_enter Try.func15, Try.ntmps15
  go_wp2
  go_loopw [4] (fun i wr => ∃ k : Nat, 1 ≤ k ∧ k ≤ 8 ∧ k ≤ s.size + 1 ∧ i = .int .i64 k ∧ (∀ j, 1 ≤ j → j < k → ¬ G s j) ∧ Below w.heap.size w wr)
    (fun i _ => 8 - (intOf i).toNat)
  case atStart => exact ⟨1, by omega, by omega, by omega, rfl, fun j h1 h2 => by omega, Below.refl _ _⟩
  case round =>
    obtain ⟨k, k1, k8, ks, rfl, hn, hb⟩ := hrel
    have HN := Lib.hid hn
    clear hn
    by_cases hk : k ≤ 7 ∧ k ≤ s.size
    · obtain ⟨k7, ks2⟩ := hk
      have hbt := get_bt s
      obtain ⟨wo, rfl⟩ : ∃ wo : World, wo = wr := ⟨_, rfl⟩
      go_wp2
      go_loop [5, 6] (fun x i => ∃ (n q : Nat) (y : Int), x = .int .i64 n ∧ i = .int .i64 y ∧ y + 1 = q ∧ q ≤ k ∧ n * 128 ^ q + val s q = val s k) (fun _ i => (intOf i + 1).toNat)
      case atStart => exact ⟨0, k, (k : Int) - 1, rfl, rfl, by omega, Nat.le_refl _, by simp⟩
      case round =>
        obtain ⟨n, q, y, rfl, rfl, hy, hq, hv⟩ := hrel
        have hvk := val_le s k k7
        have hnl := val_top hv
        have HV := Lib.hid hv
        clear hv
        have hn2 : n ≤ 562949953421311 := by omega
        by_cases hq0 : q = 0
        · obtain rfl : y = -1 := by omega
          subst hq0
          clear hy
          have HV2 := Lib.hid (show n = val s k by have := HV.out; simp [val] at this; exact this)
          clear hvk hnl
          have hki : (k : Int) ≤ (s.size : Int) := by omega
          by_cases hg : G s k
          · have hEq := eq_yes HV2.out ks2 hg
            go_wp2
            go_region_law (go_simp; go_at_call 13; (with_reducible refine (specEV_yes n _ hn2).mono ?_); rintro e w' ⟨rfl, hb1⟩)
            all_goals go_wp2
            all_goals go_ret2
            all_goals exact ⟨_, _, .inl ⟨k, k1, k7, ks2, hg, by rw [HV2.out], rfl⟩, rfl, hb.drew.trans (hb1.mono hb.size)⟩
          · have hEq := eq_no HV2.out ks2 hg
            have HG := Lib.hid hg
            clear hg
            go_wp2
            go_region_law (go_simp; go_at_call 13; (with_reducible refine (specEV_yes n _ hn2).mono ?_); rintro e w' ⟨rfl, hb1⟩)
            all_goals go_wp2
            all_goals
              refine ⟨⟨k + 1, by omega, by omega, by omega, by simp, fun j j1 j2 => ?_, hb.drew.trans (hb1.mono hb.size)⟩, by simp [intOf]; omega⟩
              rcases Nat.lt_or_ge j k with h | h
              · exact HN.out j j1 h
              · obtain rfl : j = k := by omega
                exact HG.out
        · obtain ⟨p, hp⟩ : ∃ p : Nat, y = p := ⟨y.toNat, by omega⟩
          subst hp
          have hpk : p < s.size := by omega
          have HP := Lib.hid (show q = p + 1 by omega)
          clear hy hq0 hvk hnl
          obtain ⟨d, hd, HD, hd7⟩ : ∃ d : Nat, bt s p % 128 = (d : Int) ∧ Hid (low7 s p = d) ∧ d ≤ 127 := ⟨low7 s p, by have := bt_nonneg s p; unfold low7; omega, rfl, by have := low7_lt s p; omega⟩
          have hbn := bt_nonneg s p
          have hbl := bt_le s p
          go_wp2
          refine ⟨⟨n * 128 + d, p, (p : Int) - 1, by simp, rfl, by omega, by have := HP.out; omega, ?_⟩, by simp [intOf]⟩
          have h := HV.out
          rw [HP.out] at h
          rw [← HD.out]
          exact val_down h
    · by_cases h7 : k ≤ 7
      · have hk2 : ¬ k ≤ s.size := by omega
        clear hk
        go_wp2
        go_ret2
        exact ⟨0, 0, .inr ⟨fun j j1 j7 js => HN.out j j1 (by omega), rfl, rfl⟩, rfl, hb⟩
      · clear hk
        go_wp2
        go_ret2
        exact ⟨0, 0, .inr ⟨fun j j1 j7 js => HN.out j j1 (by omega), rfl, rfl⟩, rfl, hb⟩

theorem shift7 (d i : Nat) (hd : d ≤ 127) (hi : i ≤ 6) : ∃ X : Nat, wrap64 ((d : Int) * 2 ^ (7 * i)) = (X : Int) ∧ Hid (X = d * 128 ^ i) ∧ X ≤ 562949953421311 := by
  have h1 : d * 128 ^ i ≤ 127 * 128 ^ 6 := Nat.mul_le_mul hd (Nat.pow_le_pow_right (by omega) hi)
  have h2 : (127 : Nat) * 128 ^ 6 ≤ 562949953421311 := by decide
  have h3 : (128 : Nat) ^ i = 2 ^ (7 * i) := by rw [Nat.pow_mul]
  refine ⟨d * 128 ^ i, ?_, rfl, by omega⟩
  have h4 : (d : Int) * 2 ^ (7 * i) = ((d * 128 ^ i : Nat) : Int) := by rw [h3, Int.natCast_mul, Int.natCast_pow]; rfl
  rw [h4, IntWalk.wrap64_in _ (by omega)]
theorem or_up (n X d i : Nat) (hi : i ≤ 6) (hn : n < 128 ^ i) (hX : X = d * 128 ^ i) (hX2 : X ≤ 562949953421311) : bits .or .i64 (n : Int) (X : Int) = ((n + X : Nat) : Int) := by
  have h3 : (128 : Nat) ^ i = 2 ^ (7 * i) := by rw [Nat.pow_mul]
  have h5 : (128 : Nat) ^ i ≤ 128 ^ 6 := Nat.pow_le_pow_right (by omega) hi
  have h6 : (128 : Nat) ^ 6 ≤ 562949953421311 := by decide
  have h7 : ((2 ^ (7 * i) : Nat) : Int) = (2 : Int) ^ (7 * i) := Int.natCast_pow 2 (7 * i)
  have h8 : X % 2 ^ (7 * i) = 0 := by rw [hX, h3]; exact Nat.mul_mod_left _ _
  rw [bits_join_low .i64 63 (by decide) wraps_i64 (7 * i) (n : Int) (X : Int) (by omega) (by rw [← h7]; omega) (by omega) (by omega) (by rw [← h7]; omega) (by omega)]
  simp

set_option maxRecDepth 100000 in
set_option maxHeartbeats 1600000 in
theorem implDV (s : ByteArray) (w : World) (hs : s.size ≤ 1048576) : Calls Try.prog 16 #[.string s] w (SaysDV s w) := by
  go_enter Try.func16, Try.ntmps16
  go_wp2
  go_loopw [4, 5] (fun x y wr => ∃ i : Nat, i ≤ 7 ∧ i ≤ s.size ∧ y = .int .i64 i ∧ x = .int .i64 (val s i : Nat) ∧ (∀ j, j < i → 128 ≤ bt s j) ∧ Below w.heap.size w wr)
    (fun _ y _ => 8 - (intOf y).toNat)
  case atStart => exact ⟨0, by omega, by omega, rfl, rfl, fun j h1 => by omega, Below.refl _ _⟩
  case round =>
    obtain ⟨i, i7, is, rfl, rfl, hn, hb⟩ := hrel
    have HN := Lib.hid hn
    clear hn
    by_cases hk : i < s.size ∧ i < 7
    · obtain ⟨his, hi7⟩ := hk
      have hvl := val_le s i i7
      have hvl1 := val_le s (i + 1) (by omega)
      have hvlt := val_lt s i
      obtain ⟨d, hd, HD, hd7⟩ : ∃ d : Nat, bt s i % 128 = (d : Int) ∧ Hid (low7 s i = d) ∧ d ≤ 127 := ⟨low7 s i, by have := bt_nonneg s i; unfold low7; omega, rfl, by have := low7_lt s i; omega⟩
      have hbn := bt_nonneg s i
      have hbl := bt_le s i
      obtain ⟨X, hX, HX, hXl⟩ := shift7 d i hd7 (by omega)
      obtain ⟨N, hN, HNN, hNl⟩ : ∃ N : Nat, bits .or .i64 ((val s i : Nat) : Int) (X : Int) = (N : Int) ∧ Hid (N = val s (i + 1)) ∧ N ≤ 562949953421311 := by
        refine ⟨val s (i + 1), ?_, rfl, hvl1⟩
        rw [or_up (val s i) X d i (by omega) hvlt HX.out hXl, val, HD.out, HX.out]
      have hbt := get_bt s
      have hd2 : (bt s i).tmod 128 = (d : Int) := by rw [IntWalk.rem_in _ _ hbn]; exact hd
      clear hvl hvl1 hvlt
      by_cases h128 : 128 ≤ bt s i
      · go_wp2
        refine ⟨⟨i + 1, by omega, by omega, by simp, by rw [HNN.out], fun j hj => ?_, hb⟩, by simp [intOf]; omega⟩
        rcases Nat.lt_or_ge j i with h | h
        · exact HN.out j h
        · obtain rfl : j = i := by omega
          exact h128
      · have hlo : bt s i < 128 := by omega
        have h10 : (0 : Int) ≤ (i : Int) + 1 := by omega
        have h11 : (i : Int) + 1 ≤ (s.size : Int) := by omega
        have h12 : IntKind.i64.wrap ((i : Int) + 1) = (i : Int) + 1 := IntWalk.i64_in _ (by omega)
        have h13 : ((i : Int) + 1).toNat = i + 1 := by omega
        by_cases hg : G s (i + 1)
        · have hEq := eq_yes HNN.out (by omega) hg
          go_wp2
          go_region_law (go_simp; go_at_call 14; (with_reducible refine (implEV_yes N _ hNl).mono ?_); rintro e w' ⟨rfl, hb1⟩)
          all_goals go_wp2
          all_goals go_ret2
          all_goals exact ⟨_, _, .inl ⟨i + 1, by omega, by omega, his, hg, by rw [HNN.out], by simp⟩, rfl, hb.drew.trans (hb1.mono hb.size)⟩
        · have hEq := eq_no HNN.out (by omega) hg
          have HG := Lib.hid hg
          clear hg
          go_wp2
          go_region_law (go_simp; go_at_call 14; (with_reducible refine (implEV_yes N _ hNl).mono ?_); rintro e w' ⟨rfl, hb1⟩)
          all_goals go_wp2
          all_goals go_ret2
          all_goals exact ⟨0, 0, DV_not HN.out hlo HG.out, rfl, hb.drew.trans (hb1.mono hb.size)⟩
    · have HE := Lib.hid hk
      by_cases his : i < s.size
      · have hi7 : ¬ i < 7 := fun h => hk ⟨his, h⟩
        clear hk
        go_wp2
        go_ret2
        exact ⟨0, 0, DV_none HN.out HE.out, rfl, hb⟩
      · clear hk
        go_wp2
        go_ret2
        exact ⟨0, 0, DV_none HN.out HE.out, rfl, hb⟩

end Go.Proofs.Ytamdmflofbpjkaa
