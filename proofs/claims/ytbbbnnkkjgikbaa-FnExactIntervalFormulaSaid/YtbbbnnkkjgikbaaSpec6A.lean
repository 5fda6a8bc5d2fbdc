/- The contracts of the model's l6End, IsBinary, NodesOf, PartsOfBinary. -/
import Derived.Test.YtbbbnnkkjgikbaaSpec2E
namespace Go.Proofs.Ytbbbnnkkjgikbaa
open Go.ChangeShapes Go.WideShapes Go.ChangeAt Go.RowKit
open Go.PlainAid (bt bt_nonneg bt_le get_bt bt_end)
set_option linter.unusedVariables false

/-- The place behind the tree that begins at a place, or -1. -/
def endF (s : ByteArray) : Nat → Nat → Int
  | 0, _ => -1
  | f + 1, a => if s.size ≤ a then -1 else if bt s a = 46 then (a : Int) + 1 else if bt s a ≠ 40 then -1 else if endF s f (a + 1) < 0 then -1 else
      if endF s f (endF s f (a + 1)).toNat < 0 ∨ (s.size : Int) ≤ endF s f (endF s f (a + 1)).toNat ∨ bt s (endF s f (endF s f (a + 1)).toNat).toNat ≠ 41 then -1 else endF s f (endF s f (a + 1)).toNat + 1
theorem endF_end (s : ByteArray) (f a : Nat) (h : s.size ≤ a) : endF s f a = -1 := by
  cases f with
  | zero => rfl
  | succ f => rw [endF, if_pos h]
theorem endF_dot (s : ByteArray) (f a : Nat) (h : ¬ s.size ≤ a) (e : bt s a = 46) : endF s (f + 1) a = (a : Int) + 1 := by rw [endF, if_neg h, if_pos e]
theorem endF_other (s : ByteArray) (f a : Nat) (h : ¬ s.size ≤ a) (e : bt s a ≠ 46) (e2 : bt s a ≠ 40) : endF s (f + 1) a = -1 := by rw [endF, if_neg h, if_neg e, if_pos e2]
theorem endF_left (s : ByteArray) (f a : Nat) (h : ¬ s.size ≤ a) (e : bt s a = 40) (hx : endF s f (a + 1) < 0) : endF s (f + 1) a = -1 := by rw [endF, if_neg h, if_neg (by omega), if_neg (by omega), if_pos hx]
theorem endF_pair (s : ByteArray) (f a x : Nat) (h : ¬ s.size ≤ a) (e : bt s a = 40) (hx : endF s f (a + 1) = x) :
    endF s (f + 1) a = if endF s f x < 0 ∨ (s.size : Int) ≤ endF s f x ∨ bt s (endF s f x).toNat ≠ 41 then -1 else endF s f x + 1 := by
  rw [endF, if_neg h, if_neg (by omega), if_neg (by omega), if_neg (by omega), hx]
  rfl
theorem endF_in (s : ByteArray) : ∀ f a, endF s f a = -1 ∨ ((a : Int) < endF s f a ∧ endF s f a ≤ s.size) := by
  intro f
  induction f with
  | zero => intro a; exact .inl rfl
  | succ f ih =>
    intro a
    by_cases h : s.size ≤ a
    · exact .inl (endF_end s _ a h)
    · by_cases e : bt s a = 46
      · rw [endF_dot s f a h e]; right; omega
      · by_cases e2 : bt s a = 40
        · rcases ih (a + 1) with hx | ⟨x1, x2⟩
          · exact .inl (endF_left s f a h e2 (by omega))
          · obtain ⟨x, hx⟩ : ∃ x : Nat, endF s f (a + 1) = x := ⟨(endF s f (a + 1)).toNat, by omega⟩
            rw [endF_pair s f a x h e2 hx]
            split
            · exact .inl rfl
            · rename_i hn
              right
              rcases ih x with hy | ⟨y1, y2⟩ <;> omega
        · exact .inl (endF_other s f a h e e2)
theorem endF_fuel (s : ByteArray) : ∀ f g a, s.size + 1 ≤ a + f → s.size + 1 ≤ a + g → endF s f a = endF s g a := by
  intro f
  induction f with
  | zero => intro g a h1 h2; rw [endF_end s _ a (by omega), endF_end s _ a (by omega)]
  | succ f ih =>
    intro g a h1 h2
    by_cases h : s.size ≤ a
    · rw [endF_end s _ a h, endF_end s _ a h]
    · obtain ⟨g, rfl⟩ : ∃ g', g = g' + 1 := ⟨g - 1, by omega⟩
      by_cases e : bt s a = 46
      · rw [endF_dot s f a h e, endF_dot s g a h e]
      · by_cases e2 : bt s a = 40
        · have hr := ih g (a + 1) (by omega) (by omega)
          rcases endF_in s f (a + 1) with hx | ⟨x1, x2⟩
          · rw [endF_left s f a h e2 (by omega), endF_left s g a h e2 (by omega)]
          · obtain ⟨x, hx⟩ : ∃ x : Nat, endF s f (a + 1) = x := ⟨(endF s f (a + 1)).toNat, by omega⟩
            rw [endF_pair s f a x h e2 hx, endF_pair s g a x h e2 (by omega), ih g x (by omega) (by omega)]
        · rw [endF_other s f a h e e2, endF_other s g a h e e2]
def endP (s : ByteArray) (a : Nat) : Int := endF s (s.size + 1) a
theorem endP_of (s : ByteArray) (f a : Nat) (h : s.size + 1 ≤ a + f) : endF s f a = endP s a := endF_fuel s _ _ a h (by omega)
theorem endP_in (s : ByteArray) (a : Nat) : endP s a = -1 ∨ ((a : Int) < endP s a ∧ endP s a ≤ s.size) := endF_in s _ a
theorem endP_dot (s : ByteArray) (a : Nat) (h : ¬ s.size ≤ a) (e : bt s a = 46) : endP s a = (a : Int) + 1 := endF_dot s _ a h e
theorem endP_other (s : ByteArray) (a : Nat) (h : ¬ s.size ≤ a) (e : bt s a ≠ 46) (e2 : bt s a ≠ 40) : endP s a = -1 := endF_other s _ a h e e2
theorem endP_left (s : ByteArray) (a : Nat) (h : ¬ s.size ≤ a) (e : bt s a = 40) (hx : endP s (a + 1) < 0) : endP s a = -1 := endF_left s _ a h e (by rw [endP_of s _ _ (by omega)]; exact hx)
theorem endP_pair (s : ByteArray) (a x : Nat) (h : ¬ s.size ≤ a) (e : bt s a = 40) (hx : endP s (a + 1) = x) :
    endP s a = if endP s x < 0 ∨ (s.size : Int) ≤ endP s x ∨ bt s (endP s x).toNat ≠ 41 then -1 else endP s x + 1 := by
  have hxx := endP_in s (a + 1)
  have := endF_pair s s.size a x h e (by rw [endP_of s _ _ (by omega)]; exact hx)
  rw [endP_of s s.size x (by omega)] at this
  exact this

set_option maxRecDepth 100000 in
set_option maxHeartbeats 1600000 in
theorem l6EndF (s : ByteArray) (hs : s.size ≤ 1099511627776) : ∀ (f a : Nat), s.size + 1 ≤ a + f → a ≤ 1099511627776 → ∀ w : World, Calls Try.prog 61 #[.string s, .int .i64 a] w fun e w' => e = .returned (.int .i64 (endP s a)) ∧ w = w' := by
  intro f
  induction f with
  | zero =>
    intro a h ha w
    have hle : (s.size : Int) ≤ (a : Int) := by omega
    have HE := Lib.hid (show endP s a = -1 from endF_end s _ a (by omega))
    go_enter Try.func61, Try.ntmps61
    go_wp2
    go_ret
    exact ⟨ret_int HE.out.symm, rfl⟩
  | succ f ih =>
    intro a h ha w
    by_cases hle : s.size ≤ a
    · have hlei : (s.size : Int) ≤ (a : Int) := by omega
      have HE := Lib.hid (show endP s a = -1 from endF_end s _ a hle)
      go_enter Try.func61, Try.ntmps61
      go_wp2
      go_ret
      exact ⟨ret_int HE.out.symm, rfl⟩
    · have hlei : ¬ (s.size : Int) ≤ (a : Int) := by omega
      have hii : (a : Int) < (s.size : Int) := by omega
      have hbt := get_bt s
      by_cases e1 : bt s a = 46
      · have b1 : (bt s a == 46) = true := by simp [e1]
        have HE := Lib.hid (endP_dot s a hle e1)
        clear e1
        go_enter Try.func61, Try.ntmps61
        go_wp2
        go_ret
        exact ⟨ret_int HE.out.symm, rfl⟩
      · have b1 : (bt s a == 46) = false := by simp [e1]
        by_cases e2 : bt s a = 40
        · have b2 : (bt s a != 40) = false := by simp [e2]
          have HI := Lib.hid (ih (a + 1) (by omega) (by omega))
          have HC := Lib.hid (show (((a + 1 : Nat) : Int)) = (a : Int) + 1 by omega)
          rw [HC.out] at HI
          rcases endP_in s (a + 1) with hx | ⟨x1, x2⟩
          · have HE := Lib.hid (endP_left s a hle e2 (by omega))
            rw [hx] at HI
            clear e1 e2 hx
            go_enter Try.func61, Try.ntmps61
            go_wp2_with fail
            (with_reducible refine (HI.out _).mono ?_)
            rintro e w' ⟨rfl, rfl⟩
            go_wp2
            go_ret
            exact ⟨ret_int HE.out.symm, rfl⟩
          · obtain ⟨x, hx⟩ : ∃ x : Nat, endP s (a + 1) = x := ⟨(endP s (a + 1)).toNat, by omega⟩
            have HE := Lib.hid (endP_pair s a x hle e2 hx)
            have HJ := Lib.hid (ih x (by omega) (by omega))
            rw [hx] at HI
            have hx0 : ¬ (x : Int) < 0 := by omega
            clear e1 e2 hx x1 x2
            rcases endP_in s x with hy | ⟨y1, y2⟩
            · have HE2 := Lib.hid (HE.out.trans (if_pos (.inl (by omega))))
              rw [hy] at HJ
              clear hy
              go_enter Try.func61, Try.ntmps61
              go_wp2_with fail
              (with_reducible refine (HI.out _).mono ?_)
              rintro e w' ⟨rfl, rfl⟩
              go_wp2_with fail
              (with_reducible refine (HJ.out _).mono ?_)
              rintro e w' ⟨rfl, rfl⟩
              go_wp2
              go_ret
              exact ⟨ret_int HE2.out.symm, rfl⟩
            · obtain ⟨y, hy⟩ : ∃ y : Nat, endP s x = y := ⟨(endP s x).toNat, by omega⟩
              rw [hy] at HJ HE y2
              have HY := Lib.hid (show ((y : Int)).toNat = y from rfl)
              clear hy y1
              by_cases l1 : (s.size : Int) ≤ (y : Int)
              · have HE2 := Lib.hid (HE.out.trans (if_pos (.inr (.inl l1))))
                go_enter Try.func61, Try.ntmps61
                go_wp2_with fail
                (with_reducible refine (HI.out _).mono ?_)
                rintro e w' ⟨rfl, rfl⟩
                go_wp2_with fail
                (with_reducible refine (HJ.out _).mono ?_)
                rintro e w' ⟨rfl, rfl⟩
                go_wp2
                go_ret
                exact ⟨ret_int HE2.out.symm, rfl⟩
              · have hyi : (y : Int) < (s.size : Int) := by omega
                by_cases e3 : bt s y = 41
                · have b3 : (bt s y != 41) = false := by simp [e3]
                  have HE2 := Lib.hid (HE.out.trans (if_neg (by rintro (h | h | h); omega; omega; exact h e3)))
                  clear e3
                  go_enter Try.func61, Try.ntmps61
                  go_wp2_with fail
                  (with_reducible refine (HI.out _).mono ?_)
                  rintro e w' ⟨rfl, rfl⟩
                  go_wp2_with fail
                  (with_reducible refine (HJ.out _).mono ?_)
                  rintro e w' ⟨rfl, rfl⟩
                  go_wp2
                  go_ret
                  exact ⟨ret_int HE2.out.symm, rfl⟩
                · have b3 : (bt s y != 41) = true := by simp [e3]
                  have HE2 := Lib.hid (HE.out.trans (if_pos (.inr (.inr e3))))
                  clear e3
                  go_enter Try.func61, Try.ntmps61
                  go_wp2_with fail
                  (with_reducible refine (HI.out _).mono ?_)
                  rintro e w' ⟨rfl, rfl⟩
                  go_wp2_with fail
                  (with_reducible refine (HJ.out _).mono ?_)
                  rintro e w' ⟨rfl, rfl⟩
                  go_wp2
                  go_ret
                  exact ⟨ret_int HE2.out.symm, rfl⟩
        · have b2 : (bt s a != 40) = true := by simp [e2]
          have HE := Lib.hid (endP_other s a hle e1 e2)
          clear e1 e2
          go_enter Try.func61, Try.ntmps61
          go_wp2
          go_ret
          exact ⟨ret_int HE.out.symm, rfl⟩
theorem l6End (s : ByteArray) (a : Nat) (w : World) (hs : s.size ≤ 1099511627776) (ha : a ≤ 1099511627776) : Calls Try.prog 61 #[.string s, .int .i64 a] w fun e w' => e = .returned (.int .i64 (endP s a)) ∧ w = w' := l6EndF s hs (s.size + 1) a (by omega) ha w
theorem l6End0 (s : ByteArray) (w : World) (hs : s.size ≤ 1099511627776) : Calls Try.prog 61 #[.string s, .int .i64 0] w fun e w' => e = .returned (.int .i64 (endP s 0)) ∧ w = w' := l6End s 0 w hs (by omega)
theorem l6End1 (s : ByteArray) (w : World) (hs : s.size ≤ 1099511627776) : Calls Try.prog 61 #[.string s, .int .i64 1] w fun e w' => e = .returned (.int .i64 (endP s 1)) ∧ w = w' := l6End s 1 w hs (by omega)

/-- Is it a tree. -/
def binB (s : ByteArray) : Bool := decide (s.size ≤ 25) && (endP s 0 == (s.size : Int))
theorem bin_full {s : ByteArray} (h : binB s = true) : s.size ≤ 25 ∧ endP s 0 = (s.size : Int) ∧ 0 < s.size := by
  unfold binB at h
  simp only [Bool.and_eq_true, decide_eq_true_eq, beq_iff_eq] at h
  have := endP_in s 0
  omega

set_option maxRecDepth 100000 in
set_option maxHeartbeats 1600000 in
theorem isBinary (s : ByteArray) (w : World) (hs : s.size ≤ 1099511627776) : Calls Try.prog 24 #[.string s] w fun e w' => e = .returned (.bool (binB s)) ∧ w = w' := by
  by_cases h25 : s.size ≤ 25
  · have h25i : (s.size : Int) ≤ 25 := by omega
    have HE := Lib.hid (l6End0 s w hs)
    have HB := Lib.hid (show binB s = (endP s 0 == (s.size : Int)) by unfold binB; rw [decide_eq_true h25]; rfl)
    have hin := endP_in s 0
    by_cases h0 : endP s 0 = (s.size : Int)
    · have hne := str_full s (by omega)
      have HB2 := Lib.hid (show binB s = true by rw [HB.out, h0]; simp)
      rw [h0] at HE
      clear h0 hin
      go_enter Try.func24, Try.ntmps24
      go_wp2_with fail
      (with_reducible refine HE.out.mono ?_)
      rintro e w' ⟨rfl, rfl⟩
      go_wp2
      go_ret
      exact ⟨ret_bool HB2.out.symm, rfl⟩
    · have HB2 := Lib.hid (show binB s = false by rw [HB.out]; exact beq_eq_false_iff_ne.2 h0)
      have hb : (endP s 0 == (s.size : Int)) = false := beq_eq_false_iff_ne.2 h0
      clear h0 hin
      generalize endP s 0 = x at *
      go_enter Try.func24, Try.ntmps24
      go_wp2_with fail
      (with_reducible refine HE.out.mono ?_)
      rintro e w' ⟨rfl, rfl⟩
      go_wp2
      go_ret
      exact ⟨ret_bool HB2.out.symm, rfl⟩
  · have h25i : ¬ (s.size : Int) ≤ 25 := by omega
    have HB := Lib.hid (show binB s = false by unfold binB; rw [decide_eq_false h25]; rfl)
    go_enter Try.func24, Try.ntmps24
    go_wp2
    go_ret
    exact ⟨ret_bool HB.out.symm, rfl⟩

end Go.Proofs.Ytbbbnnkkjgikbaa
