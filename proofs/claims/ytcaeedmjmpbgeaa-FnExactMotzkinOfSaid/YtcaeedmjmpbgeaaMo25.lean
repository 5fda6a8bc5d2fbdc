/- MotzkinOf, both functions (written by tools/mk25m.py). -/
import Derived.Test.YtcaeedmjmpbgeaaImpl2A
import Derived.Test.YtcaeedmjmpbgeaaStrB
import Derived.Test.YtcaeedmjmpbgeaaBld
import Derived.Test.YtcaeedmjmpbgeaaShelfB
namespace Go.Proofs.Ytcaeedmjmpbgeaa
open Go.ChangeShapes Go.WideShapes Go.ChangeAt Go.RowKit
open Go.PlainAid (bt bt_nonneg bt_le get_bt bt_end)
set_option linter.unusedVariables false

theorem ret25 {a a' : ByteArray} {x y : Bool} (h : a = a') (h' : x = y) : Ending.returned (.tuple #[.string a, .bool x]) = .returned (.tuple #[.string a', .bool y]) := by rw [h, h']
/-- The letter of a pair; 0 for a pair that is none. -/
def moC (s : ByteArray) (i : Nat) : Nat := if bt s i = 117 ∧ bt s (i + 1) = 117 then 117 else if bt s i = 100 ∧ bt s (i + 1) = 100 then 100 else if bt s i = 117 ∧ bt s (i + 1) = 100 then 108 else 0
def moK (s : ByteArray) : Nat → Bool
  | 0 => true
  | j + 1 => moK s j && decide (moC s (2 * j) ≠ 0)
def moL (s : ByteArray) : Nat → List UInt8
  | 0 => []
  | j + 1 => moL s j ++ [UInt8.ofNat (moC s (2 * j))]
theorem moL_len (s : ByteArray) : ∀ j, (moL s j).length = j
  | 0 => rfl
  | j + 1 => by rw [moL, List.length_append, moL_len s j]; rfl
theorem moK_no {s : ByteArray} {j : Nat} (h : moC s (2 * j) = 0) : ∀ d, moK s (j + 1 + d) = false
  | 0 => by show (moK s j && decide (moC s (2 * j) ≠ 0)) = false; rw [decide_eq_false (by simp [h])]; simp
  | d + 1 => by show (moK s (j + 1 + d) && _) = false; rw [moK_no h d]; rfl
theorem moK_cut {s : ByteArray} {j n : Nat} (h : moC s (2 * j) = 0) (hj : j < n) : moK s n = false := by
  have := moK_no h (n - (j + 1))
  rwa [show j + 1 + (n - (j + 1)) = n by omega] at this
def moOk (s : ByteArray) : Bool := dyck s && moK s (s.size / 2)
def moP (s : ByteArray) : ByteArray := if moOk s = true then ⟨(moL s (s.size / 2)).toArray⟩ else ⟨#[]⟩
theorem dy_even : ∀ (l : List UInt8) (h : Nat), dyckFrom h l = true → ∃ k, h + l.length = 2 * k := by
  intro l
  induction l with
  | nil => intro h hd; rw [df_nil] at hd; simp at hd; subst hd; exact ⟨0, rfl⟩
  | cons c l ih =>
    intro h hd
    rcases df_letter hd with ⟨e, hd'⟩ | ⟨e, h1, hd'⟩
    · obtain ⟨k, h2⟩ := ih _ hd'
      exact ⟨k, by simp only [List.length_cons]; omega⟩
    · obtain ⟨k, h2⟩ := ih _ hd'
      exact ⟨k + 1, by simp only [List.length_cons]; omega⟩
theorem dy_two {s : ByteArray} (hd : dyck s = true) : s.size = 2 * (s.size / 2) := by
  have h := hd
  rw [dyck_short (dyck_size hd)] at h
  obtain ⟨k, h2⟩ := dy_even _ _ h
  have : s.data.toList.length = s.size := by simp
  omega
/-- Two letters of a word. -/
theorem two_xy (s : ByteArray) (a : Nat) (x y : UInt8) (h : a + 2 ≤ s.size) : ((s.extract a (a + 2)).toList == (⟨#[x, y]⟩ : ByteArray).toList) = decide (bt s a = x.toNat ∧ bt s (a + 1) = y.toNat) := by
  have hz : (s.extract a (a + 2)).size = 2 := by rw [ByteArray.size_extract]; omega
  have e0 := bt_ext s a (a + 2) 0 (by omega) (by omega)
  have e1 := bt_ext s a (a + 2) 1 (by omega) (by omega)
  have hz2 : (⟨#[x, y]⟩ : ByteArray).size = 2 := rfl
  have f0 : bt ⟨#[x, y]⟩ 0 = x.toNat := by rw [bt_at _ _ (by omega)]; rfl
  have f1 : bt ⟨#[x, y]⟩ 1 = y.toNat := by rw [bt_at _ _ (by omega)]; rfl
  rw [Bool.eq_iff_iff, beq_iff_eq, decide_eq_true_eq]
  constructor
  · intro h
    rw [ByteArray.toList_eq, ByteArray.toList_eq] at h
    have h2 : s.extract a (a + 2) = ⟨#[x, y]⟩ := ByteArray.ext (Array.toList_inj.1 h)
    rw [h2] at e0 e1
    rw [f0] at e0
    rw [f1] at e1
    rw [Nat.add_zero] at e0
    exact ⟨e0.symm, e1.symm⟩
  · rintro ⟨h0, h1⟩
    have : s.extract a (a + 2) = ⟨#[x, y]⟩ := str_ext (by omega) (fun k hk => by
      have : k = 0 ∨ k = 1 := by omega
      rcases this with rfl | rfl
      · rw [e0, f0, Nat.add_zero, h0]
      · rw [e1, f1, h1])
    rw [this]
theorem sl_two (s : ByteArray) (i : Nat) (h : i + 2 ≤ s.size) (W : World) : (Instr.slice 9 (.string s) (some (.int .i64 (i : Int))) (some (.int .i64 ((i : Int) + 2))) none).run Try.prog W = .ok (.string (s.extract i (i + 2))) W := by
  rw [run_slice_string W 9 s .i64 .i64 (i : Int) ((i : Int) + 2) Try.underlying9 (by omega) (by omega) (by omega)]
  congr 2
/-- A pair as the walk takes it: a word of two letters, and how it compares. -/
theorem pair_at (s : ByteArray) (i : Nat) (h : i + 2 ≤ s.size) : ∃ T : ByteArray, (∀ W, (Instr.slice 9 (.string s) (some (.int .i64 (i : Int))) (some (.int .i64 ((i : Int) + 2))) none).run Try.prog W = .ok (.string T) W) ∧ (T.toList == (⟨#[117, 117]⟩ : ByteArray).toList) = decide (moC s i = 117) ∧ (T.toList == (⟨#[100, 100]⟩ : ByteArray).toList) = decide (moC s i = 100) ∧ (T.toList == (⟨#[117, 100]⟩ : ByteArray).toList) = decide (moC s i = 108) := by
  refine ⟨_, sl_two s i h, ?_, ?_, ?_⟩
  · rw [two_xy s i 117 117 h]; unfold moC
    congr 1; apply propext
    constructor
    · intro e; exact if_pos e
    · intro e; split at e
      · assumption
      · split at e
        · omega
        · split at e <;> omega
  · rw [two_xy s i 100 100 h]; unfold moC
    congr 1; apply propext
    constructor
    · intro e
      have e2 : bt s i = 100 ∧ bt s (i + 1) = 100 := e
      rw [if_neg (by omega), if_pos e2]
    · intro e; split at e
      · omega
      · split at e
        · assumption
        · split at e <;> omega
  · rw [two_xy s i 117 100 h]; unfold moC
    congr 1; apply propext
    constructor
    · intro e
      have e2 : bt s i = 117 ∧ bt s (i + 1) = 100 := e
      rw [if_neg (by omega), if_neg (by omega), if_pos e2]
    · intro e; split at e
      · omega
      · split at e
        · omega
        · split at e
          · assumption
          · omega
theorem moC_four (s : ByteArray) (i : Nat) : moC s i = 117 ∨ moC s i = 100 ∨ moC s i = 108 ∨ moC s i = 0 := by
  unfold moC
  split
  · omega
  · split
    · omega
    · split <;> omega
theorem app_one (x : ByteArray) (c : UInt8) : (x ++ ⟨#[c]⟩).data.toList = x.data.toList ++ [c] := by rw [ByteArray.data_append, Array.toList_append]
theorem one_size (x : ByteArray) (c : UInt8) : (x ++ ⟨#[c]⟩).size = x.size + 1 := by rw [ByteArray.size_append]; rfl

set_option maxRecDepth 100000 in
set_option maxHeartbeats 3200000 in
theorem motzkinOf (s : ByteArray) (w : World) (hs : s.size ≤ 1048577) : Calls Try.prog 18 #[.string s] w fun e w' => e = .returned (.tuple #[.string (moP s), .bool (moOk s)]) ∧ Below w.heap.size w w' := by
  rcases hd : dyck s with _ | _
  · have HO := Lib.hid (show moOk s = false by unfold moOk; rw [hd]; rfl)
    have HP := Lib.hid (show moP s = ⟨#[]⟩ from if_neg (by rw [HO.out]; simp))
    have HD := Lib.hid (fun W => isDyck s W (by omega))
    rw [hd] at HD
    clear hd
    go_enter Try.func18, Try.ntmps18
    go_wp2_with fail
    (with_reducible refine (HD.out _).mono ?_)
    rintro e w1 ⟨rfl, rfl⟩
    go_wp2
    go_ret2
    exact ⟨ret25 HP.out.symm HO.out.symm, Below.refl _ _⟩
  · have HOO := Lib.hid (show moOk s = moK s (s.size / 2) by unfold moOk; rw [hd]; rfl)
    have HPP := Lib.hid (fun (h : moOk s = true) => show moP s = ⟨(moL s (s.size / 2)).toArray⟩ from if_pos h)
    have HPN := Lib.hid (fun (h : moOk s = false) => show moP s = ⟨#[]⟩ from if_neg (by rw [h]; simp))
    have h2 := dy_two hd
    have h16 := dyck_size hd
    obtain ⟨n, hn⟩ : ∃ n, n = s.size / 2 := ⟨_, rfl⟩
    rw [← hn] at HOO HPP h2
    have HD := Lib.hid (fun W => isDyck s W (by omega))
    rw [hd] at HD
    have HZ := Lib.hid h2
    clear hd hn
    go_enter Try.func18, Try.ntmps18
    go_wp2_with fail
    (with_reducible refine (HD.out _).mono ?_)
    rintro e w1 ⟨rfl, rfl⟩
    go_wp2
    go_loop [4, 5] (fun x y => ∃ (j i : Nat) (out : ByteArray), i = 2 * j ∧ j ≤ n ∧ y = .int .i64 i ∧ x = .string out ∧ out.size = j ∧ out.data.toList = moL s j ∧ moK s j = true) (fun _ y => s.size - (intOf y).toNat)
    case atStart => exact ⟨0, 0, ⟨#[]⟩, rfl, Nat.zero_le _, rfl, rfl, rfl, rfl, rfl⟩
    case round =>
      obtain ⟨j, i, out, hij, hj, rfl, rfl, hz, ho, hk⟩ := hrel
      have HZO := Lib.hid hz
      have HOUT := Lib.hid ho
      have HIJ := Lib.hid hij
      have HK := Lib.hid hk
      clear hz ho hk
      by_cases hlt : j < n
      · have hi2 : i + 2 ≤ s.size := by omega
        have hii : (i : Int) + 1 < (s.size : Int) := by omega
        have hij0 : (i : Int) < (s.size : Int) := by omega
        obtain ⟨T, hsl, ht1, ht2, ht3⟩ := pair_at s i hi2
        have HT117 := Lib.hid ht1
        have HT100 := Lib.hid ht2
        have HT108 := Lib.hid ht3
        have HNK := Lib.hid (show moK s (j + 1) = (moK s j && decide (moC s i ≠ 0)) by rw [hij]; rfl)
        have HNL := Lib.hid (show moL s (j + 1) = moL s j ++ [UInt8.ofNat (moC s i)] by rw [hij]; rfl)
        have HCUT := Lib.hid (fun (h : moC s i = 0) => moK_cut (s := s) (j := j) (n := n) (by rw [← hij]; exact h) hlt)
        have hjb : j ≤ 8 := by omega
        clear ht1 ht2 ht3 hij
        rcases moC_four s i with hc | hc | hc | hc
        · have HNK2 := Lib.hid (show moK s (j + 1) = true by rw [HNK.out, HK.out, hc]; rfl)
          have HNL2 := Lib.hid (show moL s (j + 1) = moL s j ++ [117] by rw [HNL.out, hc]; rfl)
          have q117 : (T.toList == (⟨#[117, 117]⟩ : ByteArray).toList) = true := by rw [HT117.out, hc]; rfl
          have r117 : (T.toList == [117, 117]) = true := by rw [← q117, ByteArray.toList_eq ⟨#[117, 117]⟩]
          have q100 : (T.toList == (⟨#[100, 100]⟩ : ByteArray).toList) = false := by rw [HT100.out, hc]; rfl
          have r100 : (T.toList == [100, 100]) = false := by rw [← q100, ByteArray.toList_eq ⟨#[100, 100]⟩]
          have q108 : (T.toList == (⟨#[117, 100]⟩ : ByteArray).toList) = false := by rw [HT108.out, hc]; rfl
          have r108 : (T.toList == [117, 100]) = false := by rw [← q108, ByteArray.toList_eq ⟨#[117, 100]⟩]
          have HAP := Lib.hid (app_one out 117)
          have HAS := Lib.hid (one_size out 117)
          have hcat : ¬ 9223372036854775807 < out.size + (⟨#[117]⟩ : ByteArray).size := by have : (⟨#[117]⟩ : ByteArray).size = 1 := rfl; have := HZO.out; omega
          clear hc
          go_wp2
          exact ⟨⟨j + 1, i + 2, _, by have := HIJ.out; omega, by omega, by simp, rfl, by rw [HAS.out, HZO.out], by rw [HAP.out, HOUT.out, HNL2.out], HNK2.out⟩, by simp [intOf]; omega⟩
        · have HNK2 := Lib.hid (show moK s (j + 1) = true by rw [HNK.out, HK.out, hc]; rfl)
          have HNL2 := Lib.hid (show moL s (j + 1) = moL s j ++ [100] by rw [HNL.out, hc]; rfl)
          have q117 : (T.toList == (⟨#[117, 117]⟩ : ByteArray).toList) = false := by rw [HT117.out, hc]; rfl
          have r117 : (T.toList == [117, 117]) = false := by rw [← q117, ByteArray.toList_eq ⟨#[117, 117]⟩]
          have q100 : (T.toList == (⟨#[100, 100]⟩ : ByteArray).toList) = true := by rw [HT100.out, hc]; rfl
          have r100 : (T.toList == [100, 100]) = true := by rw [← q100, ByteArray.toList_eq ⟨#[100, 100]⟩]
          have q108 : (T.toList == (⟨#[117, 100]⟩ : ByteArray).toList) = false := by rw [HT108.out, hc]; rfl
          have r108 : (T.toList == [117, 100]) = false := by rw [← q108, ByteArray.toList_eq ⟨#[117, 100]⟩]
          have HAP := Lib.hid (app_one out 100)
          have HAS := Lib.hid (one_size out 100)
          have hcat : ¬ 9223372036854775807 < out.size + (⟨#[100]⟩ : ByteArray).size := by have : (⟨#[100]⟩ : ByteArray).size = 1 := rfl; have := HZO.out; omega
          clear hc
          go_wp2
          exact ⟨⟨j + 1, i + 2, _, by have := HIJ.out; omega, by omega, by simp, rfl, by rw [HAS.out, HZO.out], by rw [HAP.out, HOUT.out, HNL2.out], HNK2.out⟩, by simp [intOf]; omega⟩
        · have HNK2 := Lib.hid (show moK s (j + 1) = true by rw [HNK.out, HK.out, hc]; rfl)
          have HNL2 := Lib.hid (show moL s (j + 1) = moL s j ++ [108] by rw [HNL.out, hc]; rfl)
          have q117 : (T.toList == (⟨#[117, 117]⟩ : ByteArray).toList) = false := by rw [HT117.out, hc]; rfl
          have r117 : (T.toList == [117, 117]) = false := by rw [← q117, ByteArray.toList_eq ⟨#[117, 117]⟩]
          have q100 : (T.toList == (⟨#[100, 100]⟩ : ByteArray).toList) = false := by rw [HT100.out, hc]; rfl
          have r100 : (T.toList == [100, 100]) = false := by rw [← q100, ByteArray.toList_eq ⟨#[100, 100]⟩]
          have q108 : (T.toList == (⟨#[117, 100]⟩ : ByteArray).toList) = true := by rw [HT108.out, hc]; rfl
          have r108 : (T.toList == [117, 100]) = true := by rw [← q108, ByteArray.toList_eq ⟨#[117, 100]⟩]
          have HAP := Lib.hid (app_one out 108)
          have HAS := Lib.hid (one_size out 108)
          have hcat : ¬ 9223372036854775807 < out.size + (⟨#[108]⟩ : ByteArray).size := by have : (⟨#[108]⟩ : ByteArray).size = 1 := rfl; have := HZO.out; omega
          clear hc
          go_wp2
          exact ⟨⟨j + 1, i + 2, _, by have := HIJ.out; omega, by omega, by simp, rfl, by rw [HAS.out, HZO.out], by rw [HAP.out, HOUT.out, HNL2.out], HNK2.out⟩, by simp [intOf]; omega⟩
        · have HO := Lib.hid (show moOk s = false by rw [HOO.out]; exact HCUT.out hc)
          have q117 : (T.toList == (⟨#[117, 117]⟩ : ByteArray).toList) = false := by rw [HT117.out, hc]; rfl
          have r117 : (T.toList == [117, 117]) = false := by rw [← q117, ByteArray.toList_eq ⟨#[117, 117]⟩]
          have q100 : (T.toList == (⟨#[100, 100]⟩ : ByteArray).toList) = false := by rw [HT100.out, hc]; rfl
          have r100 : (T.toList == [100, 100]) = false := by rw [← q100, ByteArray.toList_eq ⟨#[100, 100]⟩]
          have q108 : (T.toList == (⟨#[117, 100]⟩ : ByteArray).toList) = false := by rw [HT108.out, hc]; rfl
          have r108 : (T.toList == [117, 100]) = false := by rw [← q108, ByteArray.toList_eq ⟨#[117, 100]⟩]
          clear hc
          go_wp2
          go_ret2
          exact ⟨ret25 (HPN.out HO.out).symm HO.out.symm, Below.refl _ _⟩
      · obtain rfl : j = n := by omega
        have HO := Lib.hid (HOO.out.trans HK.out)
        have hii : ¬ (i : Int) + 1 < (s.size : Int) := by have := HIJ.out; omega
        have hii2 : ¬ (i : Int) < (s.size : Int) := by have := HIJ.out; omega
        have HE := Lib.hid (show moP s = out by rw [HPP.out HO.out]; exact ByteArray.ext (Array.toList_inj.1 (by show (moL s j).toArray.toList = _; rw [HOUT.out])))
        go_wp2
        go_ret2
        exact ⟨ret25 HE.out.symm HO.out.symm, Below.refl _ _⟩

set_option maxRecDepth 100000 in
set_option maxHeartbeats 3200000 in
theorem motzkinOfI (s : ByteArray) (w : World) (hs : s.size ≤ 1048577) : Calls Try.prog 19 #[.string s] w fun e w' => e = .returned (.tuple #[.string (moP s), .bool (moOk s)]) ∧ Below w.heap.size w w' := by
  rcases hd : dyck s with _ | _
  · have HO := Lib.hid (show moOk s = false by unfold moOk; rw [hd]; rfl)
    have HP := Lib.hid (show moP s = ⟨#[]⟩ from if_neg (by rw [HO.out]; simp))
    have HD := Lib.hid (fun W => isDyckI s W)
    rw [hd] at HD
    clear hd
    go_enter Try.func19, Try.ntmps19
    go_wp2_with fail
    (with_reducible refine (HD.out _).mono ?_)
    rintro e w1 ⟨rfl, hb⟩
    go_wp2
    go_ret2
    exact ⟨ret25 HP.out.symm HO.out.symm, hb⟩
  · have HOO := Lib.hid (show moOk s = moK s (s.size / 2) by unfold moOk; rw [hd]; rfl)
    have HPP := Lib.hid (fun (h : moOk s = true) => show moP s = ⟨(moL s (s.size / 2)).toArray⟩ from if_pos h)
    have HPN := Lib.hid (fun (h : moOk s = false) => show moP s = ⟨#[]⟩ from if_neg (by rw [h]; simp))
    have h2 := dy_two hd
    have h16 := dyck_size hd
    obtain ⟨n, hn⟩ : ∃ n, n = s.size / 2 := ⟨_, rfl⟩
    rw [← hn] at HOO HPP h2
    have HD := Lib.hid (fun W => isDyckI s W)
    rw [hd] at HD
    have HZ := Lib.hid h2
    clear hd hn
    go_enter Try.func19, Try.ntmps19
    go_wp2_with fail
    (with_reducible refine (HD.out _).mono ?_)
    rintro e w1 ⟨rfl, hb0⟩
    have HB0 := Lib.hid hb0
    have zB0 := hb0.size
    clear hb0
    go_wp2
    go_loopw [5] (fun y wr => ∃ (j i : Nat), i = 2 * j ∧ j ≤ n ∧ y = .int .i64 i ∧ Lib.IsBuilderF 45 5 w1.heap.size w1.heap.size (Lib.byteCells (moL s j)) wr ∧ Below w1.heap.size w1 wr ∧ moK s j = true) (fun y _ => s.size - (intOf y).toNat)
    case atStart => exact ⟨0, 0, rfl, Nat.zero_le _, rfl, Lib.IsBuilderF.of (Lib.fresh_isBuilder 45 5 w1), (Below.refl _ _).alloc (Nat.le_refl _) _, rfl⟩
    case round =>
      obtain ⟨j, i, hij, hj, rfl, hbd, hb, hk⟩ := hrel
      have HBD := Lib.hid hbd
      have HB := Lib.hid hb
      have zB := hb.size
      have HLEN := Lib.hid (moL_len s j)
      have HIJ := Lib.hid hij
      have HK := Lib.hid hk
      clear hbd hb hk
      by_cases hlt : j < n
      · have hi2 : i + 2 ≤ s.size := by omega
        have hii : (i : Int) + 1 < (s.size : Int) := by omega
        have hij0 : (i : Int) < (s.size : Int) := by omega
        obtain ⟨T, hsl, ht1, ht2, ht3⟩ := pair_at s i hi2
        have HT117 := Lib.hid ht1
        have HT100 := Lib.hid ht2
        have HT108 := Lib.hid ht3
        have HNK := Lib.hid (show moK s (j + 1) = (moK s j && decide (moC s i ≠ 0)) by rw [hij]; rfl)
        have HNL := Lib.hid (show moL s (j + 1) = moL s j ++ [UInt8.ofNat (moC s i)] by rw [hij]; rfl)
        have HCUT := Lib.hid (fun (h : moC s i = 0) => moK_cut (s := s) (j := j) (n := n) (by rw [← hij]; exact h) hlt)
        have hjb : j ≤ 8 := by omega
        clear ht1 ht2 ht3 hij
        rcases moC_four s i with hc | hc | hc | hc
        · have HNK2 := Lib.hid (show moK s (j + 1) = true by rw [HNK.out, HK.out, hc]; rfl)
          have HNL2 := Lib.hid (show moL s (j + 1) = moL s j ++ [117] by rw [HNL.out, hc]; rfl)
          have q117 : (T.toList == (⟨#[117, 117]⟩ : ByteArray).toList) = true := by rw [HT117.out, hc]; rfl
          have r117 : (T.toList == [117, 117]) = true := by rw [← q117, ByteArray.toList_eq ⟨#[117, 117]⟩]
          have q100 : (T.toList == (⟨#[100, 100]⟩ : ByteArray).toList) = false := by rw [HT100.out, hc]; rfl
          have r100 : (T.toList == [100, 100]) = false := by rw [← q100, ByteArray.toList_eq ⟨#[100, 100]⟩]
          have q108 : (T.toList == (⟨#[117, 100]⟩ : ByteArray).toList) = false := by rw [HT108.out, hc]; rfl
          have r108 : (T.toList == [117, 100]) = false := by rw [← q108, ByteArray.toList_eq ⟨#[117, 100]⟩]
          have HWB := Lib.hid (writeByte w1.heap.size w1.heap.size (Lib.byteCells (moL s j)) 117 wr HBD.out (by rw [Lib.byteCells_length, HLEN.out]; omega) zB)
          clear hc
          go_wp2_with fail
          (with_reducible refine HWB.out.mono ?_)
          rintro e w2 ⟨rfl, hbd2, hb2, -⟩
          have HBD2 := Lib.hid hbd2
          have HB2 := Lib.hid (HB.out.trans hb2)
          clear hbd2 hb2
          go_wp2
          exact ⟨⟨j + 1, i + 2, by have := HIJ.out; omega, by omega, by simp, by rw [HNL2.out]; exact .inr (by have h := HBD2.out; simpa [Lib.byteCells] using h), HB2.out, HNK2.out⟩, by simp [intOf]; omega⟩
        · have HNK2 := Lib.hid (show moK s (j + 1) = true by rw [HNK.out, HK.out, hc]; rfl)
          have HNL2 := Lib.hid (show moL s (j + 1) = moL s j ++ [100] by rw [HNL.out, hc]; rfl)
          have q117 : (T.toList == (⟨#[117, 117]⟩ : ByteArray).toList) = false := by rw [HT117.out, hc]; rfl
          have r117 : (T.toList == [117, 117]) = false := by rw [← q117, ByteArray.toList_eq ⟨#[117, 117]⟩]
          have q100 : (T.toList == (⟨#[100, 100]⟩ : ByteArray).toList) = true := by rw [HT100.out, hc]; rfl
          have r100 : (T.toList == [100, 100]) = true := by rw [← q100, ByteArray.toList_eq ⟨#[100, 100]⟩]
          have q108 : (T.toList == (⟨#[117, 100]⟩ : ByteArray).toList) = false := by rw [HT108.out, hc]; rfl
          have r108 : (T.toList == [117, 100]) = false := by rw [← q108, ByteArray.toList_eq ⟨#[117, 100]⟩]
          have HWB := Lib.hid (writeByte w1.heap.size w1.heap.size (Lib.byteCells (moL s j)) 100 wr HBD.out (by rw [Lib.byteCells_length, HLEN.out]; omega) zB)
          clear hc
          go_wp2_with fail
          (with_reducible refine HWB.out.mono ?_)
          rintro e w2 ⟨rfl, hbd2, hb2, -⟩
          have HBD2 := Lib.hid hbd2
          have HB2 := Lib.hid (HB.out.trans hb2)
          clear hbd2 hb2
          go_wp2
          exact ⟨⟨j + 1, i + 2, by have := HIJ.out; omega, by omega, by simp, by rw [HNL2.out]; exact .inr (by have h := HBD2.out; simpa [Lib.byteCells] using h), HB2.out, HNK2.out⟩, by simp [intOf]; omega⟩
        · have HNK2 := Lib.hid (show moK s (j + 1) = true by rw [HNK.out, HK.out, hc]; rfl)
          have HNL2 := Lib.hid (show moL s (j + 1) = moL s j ++ [108] by rw [HNL.out, hc]; rfl)
          have q117 : (T.toList == (⟨#[117, 117]⟩ : ByteArray).toList) = false := by rw [HT117.out, hc]; rfl
          have r117 : (T.toList == [117, 117]) = false := by rw [← q117, ByteArray.toList_eq ⟨#[117, 117]⟩]
          have q100 : (T.toList == (⟨#[100, 100]⟩ : ByteArray).toList) = false := by rw [HT100.out, hc]; rfl
          have r100 : (T.toList == [100, 100]) = false := by rw [← q100, ByteArray.toList_eq ⟨#[100, 100]⟩]
          have q108 : (T.toList == (⟨#[117, 100]⟩ : ByteArray).toList) = true := by rw [HT108.out, hc]; rfl
          have r108 : (T.toList == [117, 100]) = true := by rw [← q108, ByteArray.toList_eq ⟨#[117, 100]⟩]
          have HWB := Lib.hid (writeByte w1.heap.size w1.heap.size (Lib.byteCells (moL s j)) 108 wr HBD.out (by rw [Lib.byteCells_length, HLEN.out]; omega) zB)
          clear hc
          go_wp2_with fail
          (with_reducible refine HWB.out.mono ?_)
          rintro e w2 ⟨rfl, hbd2, hb2, -⟩
          have HBD2 := Lib.hid hbd2
          have HB2 := Lib.hid (HB.out.trans hb2)
          clear hbd2 hb2
          go_wp2
          exact ⟨⟨j + 1, i + 2, by have := HIJ.out; omega, by omega, by simp, by rw [HNL2.out]; exact .inr (by have h := HBD2.out; simpa [Lib.byteCells] using h), HB2.out, HNK2.out⟩, by simp [intOf]; omega⟩
        · have HO := Lib.hid (show moOk s = false by rw [HOO.out]; exact HCUT.out hc)
          have q117 : (T.toList == (⟨#[117, 117]⟩ : ByteArray).toList) = false := by rw [HT117.out, hc]; rfl
          have r117 : (T.toList == [117, 117]) = false := by rw [← q117, ByteArray.toList_eq ⟨#[117, 117]⟩]
          have q100 : (T.toList == (⟨#[100, 100]⟩ : ByteArray).toList) = false := by rw [HT100.out, hc]; rfl
          have r100 : (T.toList == [100, 100]) = false := by rw [← q100, ByteArray.toList_eq ⟨#[100, 100]⟩]
          have q108 : (T.toList == (⟨#[117, 100]⟩ : ByteArray).toList) = false := by rw [HT108.out, hc]; rfl
          have r108 : (T.toList == [117, 100]) = false := by rw [← q108, ByteArray.toList_eq ⟨#[117, 100]⟩]
          clear hc
          go_wp2
          go_ret2
          exact ⟨ret25 (HPN.out HO.out).symm HO.out.symm, HB0.out.trans (HB.out.mono zB0)⟩
      · obtain rfl : j = n := by omega
        have HO := Lib.hid (HOO.out.trans HK.out)
        have hii : ¬ (i : Int) + 1 < (s.size : Int) := by have := HIJ.out; omega
        have hii2 : ¬ (i : Int) < (s.size : Int) := by have := HIJ.out; omega
        have HE := Lib.hid (HPP.out HO.out)
        go_wp2_with fail
        refine (Try.Builder_String_any_k w1.heap.size w1.heap.size (moL s j) _ HBD.out zB).mono ?_
        rintro e w2 ⟨rfl, -, b1, -⟩
        have HB2 := Lib.hid (HB.out.trans b1)
        clear b1
        go_wp2
        go_ret2
        exact ⟨ret25 HE.out.symm HO.out.symm, HB0.out.trans (HB2.out.mono zB0)⟩

end Go.Proofs.Ytcaeedmjmpbgeaa
