/- The program's MultiplyPolynomials: the list of terms. -/
import Derived.Test.YtomimlpmfcbkdaaMul14I
namespace Go.Proofs.Ytomimlpmfcbkdaa
open Go.ChangeShapes Go.WideShapes Go.ChangeAt Go.RowKit
set_option linter.unusedVariables false

theorem infoT : (Try.prog.info? 41).map (fun i => (i.zero, i.size, i.bytes)) = some (some (.agg #[.int .i64 0, .int .i64 0]), 2, 16) := by kernel_rfl
/-- Block h has room for n terms, and the first m are those of xs. -/
def TmA (w : World) (h n m : Nat) (xs : List Int) : Prop := ∃ C : Array Value, w.heap[h]? = some (.cells C 41 (0, 0)) ∧ C.size = n * 2 ∧ ∀ k, k < m → C[k * 2]? = some (.int .i64 (xs.getD k 0)) ∧ C[k * 2 + 1]? = some (.int .i64 (k : Int))
theorem TmA.lt {w : World} {h n m : Nat} {xs : List Int} (H : TmA w h n m xs) : h < w.heap.size := by
  obtain ⟨C, h1, -⟩ := H
  exact (Array.getElem?_eq_some_iff.1 h1).1
theorem TmA.keep {w w' : World} {h n m : Nat} {xs : List Int} (H : TmA w h n m xs) (hb : Below w.heap.size w w') : TmA w' h n m xs := by
  have := H.lt
  obtain ⟨C, h1, h2⟩ := H
  exact ⟨C, (hb.block h this).trans h1, h2⟩
theorem TmA.cell {w : World} {h n m k : Nat} {xs : List Int} (H : TmA w h n m xs) (hk : k < m) : w.cell? ⟨h, k * 2, none⟩ = some (.int .i64 (xs.getD k 0)) ∧ w.cell? ⟨h, k * 2 + 1, none⟩ = some (.int .i64 (k : Int)) := by
  obtain ⟨C, h1, h0, h2⟩ := H
  rw [cell_of_row w h _ C _ (0, 0) h1, cell_of_row w h _ C _ (0, 0) h1]
  exact h2 k hk
theorem TmA.any {w : World} {h n m k : Nat} {xs : List Int} (H : TmA w h n m xs) (hk : k < n) : (∃ a, w.cell? ⟨h, k * 2, none⟩ = some a) ∧ (∃ a, w.cell? ⟨h, k * 2 + 1, none⟩ = some a) ∧ w.frozen? ⟨h, k * 2, none⟩ = false ∧ w.frozen? ⟨h, k * 2 + 1, none⟩ = false := by
  obtain ⟨C, h1, h0, h2⟩ := H
  rw [cell_of_row w h _ C _ (0, 0) h1, cell_of_row w h _ C _ (0, 0) h1]
  refine ⟨⟨_, Array.getElem?_eq_getElem (by omega)⟩, ⟨_, Array.getElem?_eq_getElem (by omega)⟩, by simp [World.frozen?, h1], by simp [World.frozen?, h1]⟩
theorem TmA.put {w : World} {h n m : Nat} {xs : List Int} (H : TmA w h n m xs) (hk : m < n) : TmA ((w.setCell ⟨h, m * 2, none⟩ (.int .i64 (xs.getD m 0))).setCell ⟨h, m * 2 + 1, none⟩ (.int .i64 (m : Int))) h n (m + 1) xs := by
  obtain ⟨C, h1, h0, h2⟩ := H
  refine ⟨(C.setIfInBounds (m * 2) (.int .i64 (xs.getD m 0))).setIfInBounds (m * 2 + 1) (.int .i64 (m : Int)), by simp [World.setCell, Array.getElem?_modify, h1], by simpa using h0, fun k hk' => ?_⟩
  by_cases e : k = m
  · subst e
    rw [Array.getElem?_setIfInBounds_ne (by omega), Array.getElem?_setIfInBounds_self_of_lt (by omega), Array.getElem?_setIfInBounds_self_of_lt (by simp; omega)]
    exact ⟨rfl, rfl⟩
  · rw [Array.getElem?_setIfInBounds_ne (by omega), Array.getElem?_setIfInBounds_ne (by omega), Array.getElem?_setIfInBounds_ne (by omega), Array.getElem?_setIfInBounds_ne (by omega)]
    exact h2 k (by omega)
theorem TmA.made {w : World} {b0 base n : Nat} {xs : List Int} {l : List Value} (h : w.ownsRow b0 41 2 (.slice (some ⟨base, 0, none⟩) n n) n l) : TmA w base n 0 xs := by
  rcases h.2 with ⟨h1, _⟩ | ⟨g, cap, cur, hv, hb, hh, hnc, hcm, hcur, htake⟩
  · cases h1
  · simp only [Value.slice.injEq, Option.some.injEq, Addr.mk.injEq] at hv
    obtain ⟨⟨rfl, _, _⟩, _, rfl⟩ := hv
    exact ⟨cur, hh, by simpa using hcur, fun k hk => absurd hk (Nat.not_lt_zero _)⟩

set_option maxRecDepth 100000 in
set_option maxHeartbeats 1600000 in
theorem termsOf (A : Option Addr) (xs : List Int) (cap lo hi : Nat) (w : World) (hv : OwnI w lo hi (.slice A xs.length cap) xs) (hhi : hi ≤ w.heap.size) (hl : xs.length ≤ 1000) :
    Calls Try.prog 36 #[.slice A xs.length cap] w fun e w' => e = .returned (.slice (some ⟨w.heap.size, 0, none⟩) xs.length xs.length) ∧ TmA w' w.heap.size xs.length xs.length xs ∧ Below w.heap.size w w' := by
  have HV := Lib.hid hv
  obtain ⟨i0, hi0, hz0, hz1, hzb⟩ := info_parts infoT
  clear hv
  go_enter Try.func36, Try.ntmps36
  go_wp2_with (at_make; go_must (refine wpList_make_full _ rfl _ _ 42 rfl w.heap.size 41 i0 (.agg #[.int .i64 0, .int .i64 0]) 2 Try.underlying42 hi0 hz0 hz1 .i64 .i64 (xs.length : Int) (xs.length : Int) xs.length rfl rfl rfl rfl (by rw [hzb]; omega) (by unfold maxLen; omega) (Nat.le_refl _) ?_); intro w2 hown1 hgrow1)
  have HT0 := Lib.hid (TmA.made (xs := xs) hown1)
  have HB2 := Lib.hid ((Below.refl w.heap.size w).grown hgrow1 (Nat.le_refl _) (fun k hk => by cases hk))
  clear hown1 hgrow1
  go_wp2
  go_loopw [11] (fun y wr => ∃ j : Nat, j ≤ xs.length ∧ y = .int .i64 j ∧ TmA wr w.heap.size xs.length j xs ∧ Below w.heap.size w wr) (fun y _ => xs.length - (intOf y).toNat)
  case atStart => exact ⟨0, Nat.zero_le _, rfl, HT0.out, HB2.out⟩
  case round =>
    obtain ⟨j, hj, rfl, ht, hb⟩ := hrel
    have HT := Lib.hid ht
    have HB3 := Lib.hid hb
    clear ht hb HT0 HB2
    by_cases hlt : j < xs.length
    · have hji : (j : Int) < (xs.length : Int) := by omega
      obtain ⟨g2, p2, e2, -, -, hc2, -⟩ := (HV.out.keep HB3.out hhi).cell hlt
      simp only [Value.slice.injEq] at e2
      obtain ⟨rfl, -, rfl⟩ := e2
      have HPUT := Lib.hid (HT.out.put hlt)
      obtain ⟨⟨a0, hd0⟩, ⟨a1, hd1⟩, hf0, hf1⟩ := HT.out.any hlt
      generalize xs.getD j 0 = z at *
      go_wp2
      exact ⟨⟨j + 1, by omega, by simp, HPUT.out, (HB3.out.setCell (p := ⟨w.heap.size, j * 2, none⟩) (Nat.le_refl _) _).setCell (p := ⟨w.heap.size, j * 2 + 1, none⟩) (Nat.le_refl _) _⟩, by simp [intOf]; omega⟩
    · obtain rfl : j = xs.length := by omega
      go_wp2
      go_ret
      exact ⟨rfl, HT.out, HB3.out⟩

end Go.Proofs.Ytomimlpmfcbkdaa
