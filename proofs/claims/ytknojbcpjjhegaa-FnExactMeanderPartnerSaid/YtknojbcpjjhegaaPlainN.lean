/- Plain words: the next path, as the letters give it, and as the ranks give it. -/
import Derived.Test.YtknojbcpjjhegaaSpec3D
import Derived.Lib.RepeatB
namespace Go.Proofs.Ytknojbcpjjhegaa
open Go.RowKit
set_option linter.unusedVariables false

/-- The first word of up letters u and down letters d to come. -/
def frL (u d : Nat) : List UInt8 := Lib.repeatL [117] u ++ Lib.repeatL [100] d
theorem frL_up (u d : Nat) : frL (u + 1) d = 117 :: frL u d := rfl
theorem frL_none (d : Nat) : frL 0 (d + 1) = 100 :: frL 0 d := rfl
theorem frL_len (u d : Nat) : (frL u d).length = u + d := by unfold frL; rw [List.length_append, Lib.repeatL_length, Lib.repeatL_length]; simp
/-- The next word behind the letters l, where there is one. -/
def nxL : List UInt8 → Nat → Nat → Option (List UInt8)
  | [], _, _ => none
  | c :: l, u, d => if c.toNat = 117 then (match nxL l (u - 1) d with | some x => some (117 :: x) | none => if u < d then some (100 :: frL u (d - 1)) else none) else (match nxL l u (d - 1) with | some x => some (100 :: x) | none => none)
theorem nxL_up (c : UInt8) (l : List UInt8) (u d : Nat) (e : c.toNat = 117) : nxL (c :: l) u d = (match nxL l (u - 1) d with | some x => some (117 :: x) | none => if u < d then some (100 :: frL u (d - 1)) else none) := by rw [nxL, if_pos e]
theorem nxL_down (c : UInt8) (l : List UInt8) (u d : Nat) (e : c.toNat ≠ 117) : nxL (c :: l) u d = (match nxL l u (d - 1) with | some x => some (100 :: x) | none => none) := by rw [nxL, if_neg e]

theorem wy_pos : ∀ (u d : Nat), u ≤ d → 0 < wy u d := by
  intro u
  induction u with
  | zero => intro d _; rw [wy_zero]; decide
  | succ u ih =>
    intro d hd
    obtain ⟨e, rfl⟩ : ∃ e, d = e + 1 := ⟨d - 1, by omega⟩
    induction e with
    | zero =>
      obtain rfl : u = 0 := by omega
      rw [wy_diag]; exact ih _ (by omega)
    | succ e ihe =>
      by_cases h : u + 1 = e + 1 + 1
      · rw [h, show e + 1 + 1 = (e + 1) + 1 by omega]
        obtain rfl : u = e + 1 := by omega
        rw [wy_diag]; exact ih _ (by omega)
      · rw [wy_step _ _ (by omega)]
        have h1 := ih (e + 1 + 1) (by omega)
        have h2 := ihe (by omega)
        omega
/-- The words begin with u or with d. -/
theorem wy_split (u d : Nat) (hd : 0 < d) (hud : u ≤ d) : wy u d = ways u d + if u < d then wy u (d - 1) else 0 := by
  obtain ⟨e, rfl⟩ : ∃ e, d = e + 1 := ⟨d - 1, by omega⟩
  rw [show e + 1 - 1 = e by omega]
  cases u with
  | zero => rw [wy_zero, wy_zero]; unfold ways; simp
  | succ u =>
    have hw : ways (u + 1) (e + 1) = wy u (e + 1) := by unfold ways; rw [if_pos (by omega)]; rfl
    rw [hw]
    by_cases hue : u = e
    · subst hue; rw [wy_diag, if_neg (by omega)]; omega
    · rw [wy_step _ _ (by omega), if_pos (by omega)]
theorem ways_up (u d : Nat) (h : 0 < u) : ways u d = wy (u - 1) d := by unfold ways; rw [if_pos h]
theorem unr_first : ∀ (f u d : Nat), u + d = f → u ≤ d → unrL f u d 0 = frL u d := by
  intro f
  induction f with
  | zero =>
    intro u d h _
    obtain rfl : u = 0 := by omega
    obtain rfl : d = 0 := by omega
    rw [unrL_end]; rfl
  | succ f ih =>
    intro u d h hud
    cases u with
    | zero =>
      obtain ⟨e, rfl⟩ : ∃ e, d = e + 1 := ⟨d - 1, by omega⟩
      have h1 := unrL_down f 0 (e + 1) 0 (by omega) (by unfold ways; simp)
      rw [h1, show (0 : Int) - ways 0 (e + 1) = 0 by unfold ways; simp, show e + 1 - 1 = e by omega, ih 0 e (by omega) (by omega), frL_none]
    | succ u =>
      have hw := ways_up (u + 1) d (by omega)
      have hp := wy_pos u d (by omega)
      rw [show u + 1 - 1 = u by omega] at hw
      rw [unrL_up f (u + 1) d 0 (by omega) (by rw [hw]; exact hp), show u + 1 - 1 = u by omega, ih u d (by omega) (by omega), frL_up]
/-- What the next word is, by the ranks. -/
theorem nx_rank : ∀ (l : List UInt8) (h u d : Nat), ends h u d l → u ≤ 8 → d ≤ 8 → (nxL l u d = none → rkL l u d + 1 = wy u d) ∧ (∀ x, nxL l u d = some x → rkL l u d + 1 < wy u d ∧ unrL (u + d) u d (rkL l u d + 1) = x) := by
  intro l
  induction l with
  | nil =>
    intro h u d he hu8 hd8
    obtain ⟨-, h2, h3⟩ := he
    simp only [List.length_nil] at h3
    have hu0 : u = 0 := by omega
    have hd0 : d = 0 := by omega
    subst hu0 hd0
    exact ⟨fun _ => (by rw [rkL_nil, wy_zero]; rfl), fun x hx => (by rw [nxL] at hx; cases hx)⟩
  | cons c l ih =>
    intro h u d he hu8 hd8
    have hud : u ≤ d := by have := he.2.1; omega
    have hlen := he.2.2
    rw [List.length_cons] at hlen
    by_cases e : c.toNat = 117
    · obtain ⟨hu, he'⟩ := ends_up he e
      obtain ⟨i1, i2⟩ := ih _ _ _ he' (by omega) hd8
      rw [nxL_up _ _ _ _ e, rkL_up _ _ _ _ e]
      have hw := ways_up u d (by omega)
      have hsp := wy_split u d (by omega) hud
      rcases hx : nxL l (u - 1) d with _ | y
      · have hr := i1 hx
        refine ⟨fun hn => ?_, fun x hx' => ?_⟩
        · by_cases hlt : u < d
          · simp [hlt] at hn
          · rw [hsp, if_neg hlt, hw, hr]; omega
        · by_cases hlt : u < d
          · simp only [hlt, if_true, Option.some.injEq] at hx'
            subst hx'
            have hp := wy_pos u (d - 1) (by omega)
            refine ⟨by rw [hsp, if_pos hlt, hw, hr]; omega, ?_⟩
            rw [show u + d = (u + d - 1) + 1 by omega, hr, ← hw, unrL_down _ _ _ _ (by omega) (by omega), show ways u d - ways u d = 0 by omega, show u + d - 1 = u + (d - 1) by omega, unr_first _ _ _ rfl (by omega)]
          · simp [hlt] at hx'
      · obtain ⟨r1, r2⟩ := i2 y hx
        refine ⟨fun hn => by simp at hn, fun x hx' => ?_⟩
        simp only [Option.some.injEq] at hx'
        subst hx'
        have h0 : 0 ≤ (if u < d then wy u (d - 1) else 0) := by
          split
          · have := wy_pos u (d - 1) (by omega); omega
          · omega
        refine ⟨by rw [hsp, hw]; omega, ?_⟩
        rw [show u + d = (u - 1 + d) + 1 by omega, unrL_up _ _ _ _ (by omega) (by rw [hw]; exact r1), r2]
    · obtain ⟨hh, hd1, he'⟩ := ends_down he e
      have hlt : u < d := by have := he.2.1; omega
      obtain ⟨i1, i2⟩ := ih _ _ _ he' hu8 (by omega)
      have hsp := wy_split u d (by omega) hud
      rw [if_pos hlt] at hsp
      have hrk : rkL (c :: l) u d = ways u d + rkL l u (d - 1) := rkL_down c l u d e
      rw [nxL_down _ _ _ _ e, hrk]
      rcases hx : nxL l u (d - 1) with _ | y
      · have hr := i1 hx
        exact ⟨fun _ => (by rw [hsp, ← hr]; omega), fun x hx' => (by cases hx')⟩
      · obtain ⟨r1, r2⟩ := i2 y hx
        refine ⟨fun hn => (by cases hn), fun x hx' => ?_⟩
        simp only [Option.some.injEq] at hx'
        subst hx'
        have hr0 := (rkL_bd l _ _ _ he' hu8 (by omega)).1
        refine ⟨by rw [hsp]; omega, ?_⟩
        rw [show u + d = (u + (d - 1)) + 1 by omega, unrL_down _ _ _ _ (by omega) (by omega), show ways u d + rkL l u (d - 1) + 1 - ways u d = rkL l u (d - 1) + 1 by omega, r2]

end Go.Proofs.Ytknojbcpjjhegaa
