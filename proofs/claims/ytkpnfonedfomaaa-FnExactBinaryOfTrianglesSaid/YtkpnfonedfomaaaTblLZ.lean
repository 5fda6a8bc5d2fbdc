/- Tables of ints read only; eqIntSS at equal tables. -/
import Derived.Test.YtkpnfonedfomaaaTblZ
import Derived.Deep.RegionLaw
import Derived.BigRegion
namespace Go.Proofs.Ytkpnfonedfomaaa
open Go.ChangeShapes Go.WideShapes Go.ChangeAt Go.RowKit
set_option linter.unusedVariables false

/-- v is a table of the rows ls, all of whose blocks lie from lo on and below hi. -/
def OwnT (w : World) (lo hi : Nat) (v : Value) (ls : List (List Int)) : Prop :=
  ∃ A cap, v = .slice A ls.length cap ∧ ∀ j, j < ls.length → ∃ o rv, A = some ⟨o, 0, none⟩ ∧ lo ≤ o ∧ o < hi ∧ w.cell? ⟨o, j, none⟩ = some rv ∧ OwnI w lo hi rv (ls.getD j [])
theorem OwnT.of {w : World} {base : Nat} {v : Value} {vs : List Value} {ls : List (List Int)} (h : Tb w base v vs ls) : OwnT w base w.heap.size v ls := by
  obtain ⟨A, cap, e⟩ := h.form
  refine ⟨A, cap, e, fun j hj => ?_⟩
  obtain ⟨o, c, e2, h1, h2, h3, -⟩ := h.cell hj
  rw [e] at e2
  simp only [Value.slice.injEq] at e2
  exact ⟨o, _, e2.1, h1, h2, h3, OwnI.of_row (h.row j hj)⟩
theorem OwnT.keep {w w' : World} {lo hi B : Nat} {v : Value} {ls : List (List Int)} (h : OwnT w lo hi v ls) (hb : Below B w w') (hB : hi ≤ B) : OwnT w' lo hi v ls := by
  obtain ⟨A, cap, e, h⟩ := h
  refine ⟨A, cap, e, fun j hj => ?_⟩
  obtain ⟨o, rv, h1, h2, h3, h4, h5⟩ := h j hj
  exact ⟨o, rv, h1, h2, h3, (hb.cell (p := ⟨o, j, none⟩) (by show o < B; omega)).trans h4, h5.keep hb hB⟩
theorem OwnT.cell {w : World} {lo hi : Nat} {A : Option Addr} {n cap : Nat} {ls : List (List Int)} (h : OwnT w lo hi (.slice A n cap) ls) {j : Nat} (hj : j < ls.length) :
    ∃ o rv, A = some ⟨o, 0, none⟩ ∧ lo ≤ o ∧ o < hi ∧ w.cell? ⟨o, j, none⟩ = some rv ∧ OwnI w lo hi rv (ls.getD j []) := by
  obtain ⟨A', c', e, h⟩ := h
  simp only [Value.slice.injEq] at e
  obtain ⟨rfl, -, -⟩ := e
  exact h j hj

set_option maxRecDepth 100000 in
set_option maxHeartbeats 1600000 in
theorem eqSS_same (v u : Value) (lo hi lo' hi' : Nat) (ls : List (List Int)) (w : World) (hv : OwnT w lo hi v ls) (hu : OwnT w lo' hi' u ls) (h1 : hi ≤ w.heap.size) (h2 : hi' ≤ w.heap.size) (hl : ls.length ≤ 1099511627776) (hr : ∀ j, (ls.getD j []).length ≤ 1099511627776) :
    Calls Try.prog 13 #[v, u] w fun e w' => e = .returned (.bool true) ∧ Below w.heap.size w w' := by
  obtain ⟨A1, c1, rfl, k1⟩ := id hv
  obtain ⟨A2, c2, rfl, k2⟩ := id hu
  clear k1 k2
  have HV := Lib.hid hv
  have HU := Lib.hid hu
  have HR := Lib.hid hr
  clear hv hu hr
  go_enter Try.func13, Try.ntmps13
  go_wp2
  go_loopw [5] (fun x wr => ∃ j : Nat, j ≤ ls.length ∧ x = .int .i64 j ∧ Below w.heap.size w wr) (fun x _ => ls.length - (intOf x).toNat)
  case atStart => exact ⟨0, Nat.zero_le _, rfl, Below.refl _ _⟩
  case round =>
    obtain ⟨j, hj, rfl, hb⟩ := hrel
    have HB := Lib.hid hb
    have hB := hb.size
    clear hb
    by_cases hlt : j < ls.length
    · obtain ⟨o1, r1, rfl, -, -, hc1, ho1⟩ := (HV.out.keep HB.out h1).cell hlt
      obtain ⟨o2, r2, rfl, -, -, hc2, ho2⟩ := (HU.out.keep HB.out h2).cell hlt
      have hji : (j : Int) < (ls.length : Int) := by omega
      have HRJ := Lib.hid (HR.out j)
      generalize ls.getD j [] = l at *
      have HE := Lib.hid (eqI_same r1 r2 lo hi lo' hi' l wr.drew (ho1.keep (Below.refl wr.heap.size wr).drew (by omega)) (ho2.keep (Below.refl wr.heap.size wr).drew (by omega)) HRJ.out)
      have HE0 := Lib.hid (eqI_same r1 r2 lo hi lo' hi' l wr ho1 ho2 HRJ.out)
      clear ho1 ho2
      go_wp2_with fail
      go_region_law (go_simp; go_at_call 26; (first | (with_reducible refine HE.out.mono ?_) | (with_reducible refine HE0.out.mono ?_)); rintro e w3 ⟨rfl, hb3⟩; have HB3 := Lib.hid hb3; clear hb3)
      all_goals go_wp2
      all_goals exact ⟨⟨j + 1, by omega, by simp, HB.out.drew.trans (HB3.out.mono hB)⟩, by simp [intOf]; omega⟩
    · obtain rfl : j = ls.length := by omega
      go_wp2
      go_ret
      exact ⟨rfl, HB.out⟩

/-- The rows of a table, marked one after another from k on. -/
def mkT (k : Int) : List (List Int) → List (List Int)
  | [] => []
  | l :: ls => marks k l.length :: mkT (k + l.length) ls
def tot : List (List Int) → Nat
  | [] => 0
  | l :: ls => l.length + tot ls
theorem mkT_len (ls : List (List Int)) : ∀ k, (mkT k ls).length = ls.length := by
  induction ls with
  | nil => intro k; rfl
  | cons l ls ih => intro k; simp [mkT, ih]
theorem mkT_at (ls : List (List Int)) : ∀ k j, j < ls.length → (mkT k ls).getD j [] = marks (k + (tot (ls.take j) : Int)) (ls.getD j []).length := by
  induction ls with
  | nil => intro k j h; simp at h
  | cons l ls ih =>
    intro k j h
    cases j with
    | zero => simp [mkT, tot]
    | succ j =>
      have := ih (k + l.length) j (by simpa using h)
      simp only [mkT, List.getD_cons_succ, List.take_succ_cons, tot] at this ⊢
      rw [this]
      congr 1
      omega
theorem tot_take (ls : List (List Int)) : ∀ j, j < ls.length → tot (ls.take (j + 1)) = tot (ls.take j) + (ls.getD j []).length := by
  induction ls with
  | nil => intro j h; simp at h
  | cons l ls ih =>
    intro j h
    cases j with
    | zero => simp [tot]
    | succ j =>
      have := ih j (by simpa using h)
      simp only [List.getD_cons_succ, List.take_succ_cons, tot] at this ⊢
      omega
theorem tot_le (ls : List (List Int)) : ∀ j, tot (ls.take j) ≤ tot ls := by
  induction ls with
  | nil => intro j; simp [tot]
  | cons l ls ih =>
    intro j
    cases j with
    | zero => simp [tot]
    | succ j => have := ih j; simp only [List.take_succ_cons, tot]; omega

set_option maxRecDepth 100000 in
set_option maxHeartbeats 1600000 in
theorem heldSS (v : Value) (lo hi : Nat) (ls : List (List Int)) (k : Int) (w : World) (hv : OwnT w lo hi v (mkT k ls)) (h1 : hi ≤ w.heap.size) (hl : ls.length ≤ 1099511627776) (ht : tot ls ≤ 1099511627) (hk0 : 0 ≤ k) (hk : k ≤ 1099511627) :
    Calls Try.prog 17 #[v, .int .i64 k] w fun e w' => e = .returned (.int .i64 (k + tot ls)) ∧ Below w.heap.size w w' := by
  obtain ⟨A1, c1, e, k1⟩ := id hv
  clear k1
  rw [mkT_len] at e
  subst e
  have HV := Lib.hid hv
  clear hv
  go_enter Try.func17, Try.ntmps17
  go_wp2
  go_loopw [1, 5] (fun x y wr => ∃ j : Nat, j ≤ ls.length ∧ y = .int .i64 j ∧ x = .int .i64 (k + (tot (ls.take j) : Int)) ∧ Below w.heap.size w wr) (fun _ y _ => ls.length - (intOf y).toNat)
  case atStart => exact ⟨0, Nat.zero_le _, rfl, by simp [tot], Below.refl _ _⟩
  case round =>
    obtain ⟨j, hj, rfl, rfl, hb⟩ := hrel
    have HB := Lib.hid hb
    have hB := hb.size
    clear hb
    by_cases hlt : j < ls.length
    · obtain ⟨o1, r1, rfl, -, -, hc1, ho1⟩ := (HV.out.keep HB.out h1).cell (j := j) (by rw [mkT_len]; exact hlt)
      rw [mkT_at _ _ _ hlt] at ho1
      have hji : (j : Int) < (ls.length : Int) := by omega
      have HTJ := Lib.hid (tot_take ls j hlt)
      have h3 := tot_le ls j
      have h4 := tot_le ls (j + 1)
      rw [HTJ.out] at h4
      generalize tot (ls.take j) = t at *
      generalize ls.getD j [] = l at *
      have hn0 : ¬ (k + (t : Int) + (l.length : Int) < 0) := by omega
      have HE := Lib.hid (heldI r1 lo hi l.length (k + (t : Int)) wr ho1 (by omega) (by omega) (by omega))
      have HE1 := Lib.hid (heldI r1 lo hi l.length (k + (t : Int)) wr.drew (ho1.keep (Below.refl wr.heap.size wr).drew (by omega)) (by omega) (by omega) (by omega))
      clear ho1
      go_wp2_with fail
      (with_reducible refine HE.out.mono ?_)
      rintro e w' ⟨rfl, rfl⟩
      go_wp2
      exact ⟨⟨j + 1, by omega, by simp, by rw [HTJ.out]; congr 1; omega, HB.out⟩, by simp [intOf]; omega⟩
    · obtain rfl : j = ls.length := by omega
      go_wp2
      go_ret
      exact ⟨by rw [List.take_length]; rfl, HB.out⟩

end Go.Proofs.Ytkpnfonedfomaaa
