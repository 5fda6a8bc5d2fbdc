/- The permutation that a stack sorts along a path, plain. -/
import Derived.Test.YtkpnfonedfomaaaPlainH
import Derived.Test.YtkpnfonedfomaaaFact10
namespace Go.Proofs.Ytkpnfonedfomaaa
open Go.ChangeShapes Go.WideShapes Go.ChangeAt Go.RowKit
open Go.PlainAid (bt bt_nonneg bt_le get_bt)
set_option linter.unusedVariables false

/-- How many numbers have been put on the stack. -/
def psN (s : ByteArray) : Nat → Nat
  | 0 => 0
  | i + 1 => if bt s i = 117 then psN s i + 1 else psN s i
/-- The stack. -/
def psS (s : ByteArray) : Nat → List Int
  | 0 => []
  | i + 1 => if bt s i = 117 then psS s i ++ [(psN s i : Int)] else (psS s i).dropLast
/-- The number at its top. -/
def psT (s : ByteArray) (i : Nat) : Nat := ((psS s i).getD ((psS s i).length - 1) 0).toNat
/-- The permutation so far. -/
def psO (s : ByteArray) : Nat → List Int
  | 0 => List.replicate (s.size / 2) 0
  | i + 1 => if bt s i = 117 then psO s i else (psO s i).set (psT s i) ((psN s i : Int) - ((psS s i).length : Int))
theorem psO_len (s : ByteArray) (i : Nat) : (psO s i).length = s.size / 2 := by
  induction i with
  | zero => simp [psO]
  | succ i ih => rw [psO]; split; exact ih; rw [List.length_set, ih]
def PsOk (s : ByteArray) (i : Nat) : Prop := ((psS s i).length : Int) = hAt s i ∧ 2 * (psN s i : Int) = i + hAt s i ∧ ∀ x ∈ psS s i, 0 ≤ x ∧ x < psN s i
theorem ps_ok {s : ByteArray} (hd : dyck s = true) : ∀ i, i ≤ s.size → PsOk s i := by
  intro i
  induction i with
  | zero => intro _; exact ⟨by rw [hAt_zero]; rfl, by rw [hAt_zero]; rfl, fun x hx => by simp [psS] at hx⟩
  | succ i ih =>
    intro hi
    obtain ⟨h1, h2, h3⟩ := ih (by omega)
    have hb := get_bt s i (by omega)
    by_cases e : bt s i = 117
    · have hu := hAt_up s i (by omega) (by omega)
      unfold PsOk
      rw [psS, psN, if_pos e, if_pos e, hu]
      refine ⟨by rw [List.length_append, ← h1]; simp, by push_cast; omega, fun x hx => ?_⟩
      rw [List.mem_append, List.mem_singleton] at hx
      rcases hx with hx | rfl
      · have := h3 x hx; omega
      · omega
    · have hu := hAt_down s i (by omega) (by omega)
      have h0 := (hAt_fit hd (i + 1) hi).1
      unfold PsOk
      rw [psS, psN, if_neg e, if_neg e, hu]
      refine ⟨by rw [List.length_dropLast]; omega, by push_cast; omega, fun x hx => h3 x ((List.dropLast_sublist _).subset hx)⟩
/-- What holds where the next letter is d. -/
theorem ps_top {s : ByteArray} (hd : dyck s = true) {i : Nat} (hi : i < s.size) (e : bt s i ≠ 117) :
    1 ≤ (psS s i).length ∧ (psS s i).length ≤ 8 ∧ (psS s i).getD ((psS s i).length - 1) 0 = (psT s i : Int) ∧ psT s i < s.size / 2 ∧ (psS s i).length ≤ psN s i ∧ psN s i ≤ 8 := by
  obtain ⟨h1, h2, h3⟩ := ps_ok hd i (by omega)
  have hb := get_bt s i hi
  have hu := hAt_down s i (by omega) (by omega)
  have h0 := (hAt_fit hd (i + 1) hi).1
  have hf := (hAt_fit hd i (by omega)).2
  have h16 := dyck_size hd
  obtain ⟨k, hk1, hk2, hk3⟩ := hAt_path hd i (by omega)
  have hz := df_low _ _ hk3
  have hr : (rest s i).length = s.size - i := by unfold rest; simp
  have hl : 1 ≤ (psS s i).length := by omega
  have hm : (psS s i).getD ((psS s i).length - 1) 0 ∈ psS s i := by
    have hx : (psS s i).length - 1 < (psS s i).length := by omega
    rw [List.getD_eq_getElem?_getD, List.getElem?_eq_getElem hx]
    exact List.getElem_mem hx
  have h4 := h3 _ hm
  refine ⟨hl, by omega, by unfold psT; omega, by unfold psT; omega, by omega, by omega⟩
theorem ps_room {s : ByteArray} (hd : dyck s = true) {i : Nat} (hi : i ≤ s.size) : (psS s i).length ≤ 8 ∧ psN s i ≤ 8 := by
  obtain ⟨h1, h2, h3⟩ := ps_ok hd i hi
  have hf := (hAt_fit hd i hi).2
  have h16 := dyck_size hd
  obtain ⟨k, hk1, hk2, hk3⟩ := hAt_path hd i hi
  have hz := df_low _ _ hk3
  have hr : (rest s i).length = s.size - i := by unfold rest; simp
  exact ⟨by omega, by omega⟩
def permOfP (s : ByteArray) : List Int := if dyck s = true then psO s s.size else []
/-- The place of each number. -/
def ivL (xs : List Int) : Nat → List Int
  | 0 => List.replicate xs.length 0
  | i + 1 => (ivL xs i).set (xs.getD i 0).toNat (i : Int)
theorem ivL_len (xs : List Int) (i : Nat) : (ivL xs i).length = xs.length := by
  induction i with
  | zero => simp [ivL]
  | succ i ih => rw [ivL, List.length_set, ih]
def invOfP (xs : List Int) : List Int := if permB xs = true then ivL xs xs.length else []

end Go.Proofs.Ytkpnfonedfomaaa
