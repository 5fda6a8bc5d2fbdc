/- Chords of a partition cross exactly when two blocks cross. -/
import Derived.Test.YtpkfgjlbkiiciaaImpl8D
namespace Go.Proofs.Ytpkfgjlbkiiciaa
open Go.ChangeShapes Go.WideShapes Go.ChangeAt Go.RowKit
set_option linter.unusedVariables false

/-- The last place before i with the value y, where there is one. -/
theorem laK_some (y : Int) (xs : List Int) : ∀ i : Nat, 0 ≤ laK y xs i → ∃ m : Nat, laK y xs i = (m : Int) ∧ m < i ∧ xs.getD m 0 = y ∧ ∀ j, m < j → j < i → xs.getD j 0 ≠ y := by
  intro i
  induction i with
  | zero => intro h; simp [laK] at h
  | succ i ih =>
    intro h
    rw [laK] at h ⊢
    split
    · next e => exact ⟨i, rfl, Nat.lt_succ_self _, e, fun j h1 h2 => by omega⟩
    · next e =>
      rw [if_neg e] at h
      obtain ⟨m, h1, h2, h3, h4⟩ := ih h
      refine ⟨m, h1, by omega, h3, fun j h5 h6 => ?_⟩
      by_cases e2 : j < i
      · exact h4 j h5 e2
      · obtain rfl : j = i := by omega
        exact e
theorem laK_there (y : Int) (xs : List Int) (i m : Nat) (hm : m < i) (h : xs.getD m 0 = y) : (m : Int) ≤ laK y xs i := by
  induction i with
  | zero => omega
  | succ i ih =>
    rw [laK]
    split
    · omega
    · next e =>
      by_cases e2 : m < i
      · exact ih e2
      · obtain rfl : m = i := by omega
        exact absurd h e
/-- f and t follow one another in a block. -/
def Nx (xs : List Int) (f t : Nat) : Prop := f < t ∧ xs.getD f 0 = xs.getD t 0 ∧ ∀ j, f < j → j < t → xs.getD j 0 ≠ xs.getD t 0
theorem chd_mem (xs : List Int) (n : Nat) : ∀ p, p ∈ chdL xs n → ∃ f t : Nat, p = ((f : Int), (t : Int)) ∧ t < n ∧ Nx xs f t := by
  induction n with
  | zero => intro p h; simp [chdL] at h
  | succ n ih =>
    intro p h
    rw [chdL] at h
    split at h
    · next e =>
      rcases List.mem_append.1 h with h | h
      · obtain ⟨f, t, h1, h2, h3⟩ := ih p h
        exact ⟨f, t, h1, by omega, h3⟩
      · obtain ⟨m, h1, h2, h3, h4⟩ := laK_some _ xs n e
        exact ⟨m, n, by rw [List.mem_singleton.1 h, h1], Nat.lt_succ_self _, h2, h3, h4⟩
    · obtain ⟨f, t, h1, h2, h3⟩ := ih p h
      exact ⟨f, t, h1, by omega, h3⟩
theorem chd_has (xs : List Int) (n t m : Nat) (ht : t < n) (hm : m < t) (h : xs.getD m 0 = xs.getD t 0) : (laK (xs.getD t 0) xs t, (t : Int)) ∈ chdL xs n := by
  induction n with
  | zero => omega
  | succ n ih =>
    rw [chdL]
    by_cases e : t < n
    · split
      · exact List.mem_append_left _ (ih e)
      · exact ih e
    · obtain rfl : t = n := by omega
      have := laK_there _ xs t m hm h
      rw [if_pos (by omega)]
      exact List.mem_append_right _ (List.mem_singleton.2 rfl)
open Classical in
theorem anyX_mem (l : List (Int × Int)) : anyX l = true ↔ ∃ p ∈ l, ∃ q ∈ l, crossB p.1 p.2 q.1 q.2 = true := by
  have hg : ∀ j (h : j < l.length), l.getD j (0, 0) = l[j] := fun j h => by rw [List.getD_eq_getElem?_getD, List.getElem?_eq_getElem h]; rfl
  constructor
  · intro h
    obtain ⟨j, k, hj, hk, hx⟩ := of_decide_eq_true h
    rw [xAt, hg j hj, hg k hk] at hx
    exact ⟨_, List.getElem_mem hj, _, List.getElem_mem hk, hx⟩
  · rintro ⟨p, hp, q, hq, hx⟩
    obtain ⟨j, hj, rfl⟩ := List.mem_iff_getElem.1 hp
    obtain ⟨k, hk, rfl⟩ := List.mem_iff_getElem.1 hq
    exact anyX_yes hj hk (by rw [xAt, hg j hj, hg k hk]; exact hx)
theorem nx_cr {xs : List Int} {a c b d : Nat} (h1 : Nx xs a c) (h2 : Nx xs b d) (hab : a < b) (hbc : b < c) (hcd : c < d) (hd : d < xs.length) : Cr xs :=
  ⟨a, b, c, d, hab, hbc, hcd, hd, h1.2.1, h2.2.1, fun e => h1.2.2 b hab hbc (e.symm.trans h1.2.1)⟩
/-- The least place from b on with the value y. -/
theorem least (xs : List Int) (y : Int) (b : Nat) : ∀ k c : Nat, c - b ≤ k → b < c → xs.getD c 0 = y → ∃ i, b < i ∧ i ≤ c ∧ xs.getD i 0 = y ∧ ∀ j, b < j → j < i → xs.getD j 0 ≠ y := by
  intro k
  induction k with
  | zero => intro c h1 h2; omega
  | succ k ih =>
    intro c h1 h2 h3
    by_cases e : ∃ j, b < j ∧ j < c ∧ xs.getD j 0 = y
    · obtain ⟨j, h4, h5, h6⟩ := e
      obtain ⟨i, g1, g2, g3, g4⟩ := ih j (by omega) h4 h6
      exact ⟨i, g1, by omega, g3, g4⟩
    · exact ⟨c, h2, Nat.le_refl _, h3, fun j h4 h5 h6 => e ⟨j, h4, h5, h6⟩⟩
theorem cr_iff (xs : List Int) : Cr xs ↔ anyX (chdL xs xs.length) = true := by
  rw [anyX_mem]
  constructor
  · rintro ⟨a, b, c, d, hab, hbc, hcd, hd, e1, e2, e3⟩
    obtain ⟨i, bi, ic, ei, li⟩ := least xs (xs.getD a 0) b _ c (Nat.le_refl _) hbc e1.symm
    obtain ⟨k, ik, kd, ek, lk⟩ := least xs (xs.getD b 0) i _ d (Nat.le_refl _) (by omega) e2.symm
    have m1 := chd_has xs xs.length i a (by omega) (by omega) ei.symm
    have m2 := chd_has xs xs.length k b (by omega) (by omega) ek.symm
    obtain ⟨f, hf1, hf2, hf3, hf4⟩ := laK_some (xs.getD i 0) xs i (by have := laK_there (xs.getD i 0) xs i a (by omega) ei.symm; omega)
    obtain ⟨g, hg1, hg2, hg3, hg4⟩ := laK_some (xs.getD k 0) xs k (by have := laK_there (xs.getD k 0) xs k b (by omega) ek.symm; omega)
    have hb2 := laK_there (xs.getD k 0) xs k b (by omega) ek.symm
    have hgi : g < i := by
      rcases Nat.lt_trichotomy g i with h | h | h
      · exact h
      · subst h; exact absurd (ei.symm.trans (hg3.trans ek)) e3
      · exact absurd (hg3.trans ek) (lk g h hg2)
    have hfb : f < b := by
      rcases Nat.lt_trichotomy f b with h | h | h
      · exact h
      · subst h; exact absurd (ei.symm.trans hf3.symm) e3
      · exact absurd (hf3.trans ei) (li f h hf2)
    exact ⟨_, m1, _, m2, decide_eq_true (.inl (by show laK _ _ _ < laK _ _ _ ∧ laK _ _ _ < (i : Int) ∧ (i : Int) < (k : Int); omega))⟩
  · rintro ⟨p, hp, q, hq, hx⟩
    obtain ⟨a, c, rfl, hc, h1⟩ := chd_mem xs _ p hp
    obtain ⟨b, d, rfl, hd, h2⟩ := chd_mem xs _ q hq
    rcases of_decide_eq_true hx with ⟨g1, g2, g3⟩ | ⟨g1, g2, g3⟩
    · exact nx_cr h1 h2 (by simpa using g1) (by simpa using g2) (by simpa using g3) hd
    · exact nx_cr h2 h1 (by simpa using g1) (by simpa using g2) (by simpa using g3) hc
theorem non_iff (xs : List Int) : nonB xs = (prtB xs && !anyX (chdL xs xs.length)) := by
  by_cases h : Cr xs
  · rw [non_no h, (cr_iff xs).1 h]; simp
  · have : anyX (chdL xs xs.length) = false := by
      rcases hx : anyX (chdL xs xs.length) with _ | _
      · rfl
      · exact absurd ((cr_iff xs).2 hx) h
    rw [non_yes h, this]; simp

set_option maxRecDepth 100000 in
set_option maxHeartbeats 1600000 in
theorem isNoncrossingI (A : Option Addr) (xs : List Int) (cap lo hi : Nat) (w : World) (hv : OwnI w lo hi (.slice A xs.length cap) xs) (hhi : hi ≤ w.heap.size) (hwf : ∀ y ∈ xs, (Lit.int .i64 y).wf = true) :
    Calls Try.prog 41 #[.slice A xs.length cap] w fun e w' => e = .returned (.bool (nonB xs)) ∧ Below w.heap.size w w' := by
  have HR := Lib.hid (isPartitionI A xs cap lo hi w hv hhi hwf)
  have HV := Lib.hid hv
  have HPI := Lib.hid (non_iff xs)
  clear hv
  rcases h8 : prtB xs with _ | _
  · rw [h8] at HR HPI
    clear h8
    go_enter Try.func41, Try.ntmps41
    go_wp2_with fail
    (with_reducible refine HR.out.mono ?_)
    rintro e w1 ⟨rfl, hb⟩
    have HB := Lib.hid hb
    clear hb
    go_wp2
    go_ret
    exact ⟨ret_bool HPI.out.symm, HB.out⟩
  · have hlen : xs.length ≤ 8 := (prt_yes h8).1
    rw [h8, Bool.true_and] at HPI
    rw [h8] at HR
    clear h8
    have HCL := Lib.hid (chdL_le xs xs.length)
    have HCH := Lib.hid (fun w1 (hb : Below w.heap.size w w1) => chordsOf A xs cap lo hi w1 (HV.out.keep hb hhi) (by have := hb.size; omega) hwf (by omega))
    generalize chdL xs xs.length = l at *
    go_enter Try.func41, Try.ntmps41
    go_wp2_with fail
    (with_reducible refine HR.out.mono ?_)
    rintro e w1 ⟨rfl, hb⟩
    have z1 := hb.size
    have HB := Lib.hid hb
    clear hb
    go_wp2_with fail
    (with_reducible refine (HCH.out w1 HB.out).mono ?_)
    rintro e w2 ⟨v, rfl, hrow, hb2⟩
    have z2 := hb2.size
    have HB2 := Lib.hid (HB.out.trans (hb2.mono z1))
    have HH := Lib.hid (hasPairC v l _ w2 hrow (by have := HCL.out; omega))
    clear hb2 hrow
    generalize anyX l = b at *
    go_wp2_with fail
    (with_reducible refine HH.out.mono ?_)
    rintro e w3 ⟨rfl, hb3⟩
    have HB3 := Lib.hid (HB2.out.trans (hb3.mono (by omega)))
    clear hb3
    go_wp2
    go_ret
    exact ⟨ret_bool HPI.out.symm, HB3.out⟩

end Go.Proofs.Ytpkfgjlbkiiciaa
