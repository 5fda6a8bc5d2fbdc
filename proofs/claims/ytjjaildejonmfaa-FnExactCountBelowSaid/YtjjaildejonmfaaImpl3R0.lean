/- The contracts of the program's firstPath and PathsOf. -/
import Derived.Test.YtjjaildejonmfaaImpl3Q
import Derived.Test.YtjjaildejonmfaaSpec3F
import Derived.Deep.LoopGhost
namespace Go.Proofs.Ytjjaildejonmfaa
open Go.ChangeShapes Go.WideShapes Go.ChangeAt Go.RowKit
set_option linter.unusedVariables false

theorem ends_cons_up {h u d : Nat} {l : List UInt8} (he : ends (h + 1) u d l) : ends h (u + 1) d (117 :: l) := by
  obtain ⟨h1, h2, h3⟩ := he
  exact ⟨by rw [df_up _ _ _ rfl]; exact h1, by omega, by rw [List.length_cons]; omega⟩
theorem ends_cons_down {h u d : Nat} {l : List UInt8} (he : ends h u d l) : ends (h + 1) u (d + 1) (100 :: l) := by
  obtain ⟨h1, h2, h3⟩ := he
  exact ⟨by rw [df_down _ _ _ rfl]; exact h1, by omega, by rw [List.length_cons]; omega⟩
theorem frL_ends : ∀ (u d h : Nat), h + u = d → ends h u d (frL u d) := by
  intro u
  induction u with
  | zero =>
    intro d
    induction d with
    | zero =>
      intro h hh
      obtain rfl : h = 0 := by omega
      exact ⟨rfl, rfl, rfl⟩
    | succ d ih =>
      intro h hh
      obtain rfl : h = d + 1 := by omega
      rw [frL_none]
      exact ends_cons_down (ih d (by omega))
  | succ u ih =>
    intro d h hh
    rw [frL_up]
    exact ends_cons_up (ih d (h + 1) (by omega))
theorem nx_ends : ∀ (l : List UInt8) (h u d : Nat) (x : List UInt8), ends h u d l → nxL l u d = some x → ends h u d x := by
  intro l
  induction l with
  | nil => intro h u d x _ hx; rw [nxL] at hx; cases hx
  | cons c l ih =>
    intro h u d x he hx
    have hhu := he.2.1
    by_cases e : c.toNat = 117
    · obtain ⟨h1, h2⟩ := ends_up he e
      obtain ⟨u, rfl⟩ : ∃ k, u = k + 1 := ⟨u - 1, by omega⟩
      rw [nxL_up _ _ _ _ e] at hx
      rcases hy : nxL l (u + 1 - 1) d with _ | y
      · rw [hy] at hx
        by_cases hlt : u + 1 < d
        · simp only [hlt, if_true, Option.some.injEq] at hx
          subst hx
          obtain ⟨d, rfl⟩ : ∃ k, d = k + 1 := ⟨d - 1, by omega⟩
          obtain ⟨h, rfl⟩ : ∃ k, h = k + 1 := ⟨h - 1, by omega⟩
          exact ends_cons_down (frL_ends _ _ _ (by omega))
        · simp [hlt] at hx
      · rw [hy] at hx
        simp only [Option.some.injEq] at hx
        subst hx
        exact ends_cons_up (ih _ _ _ _ h2 hy)
    · obtain ⟨h1, h2, h3⟩ := ends_down he e
      obtain ⟨d, rfl⟩ : ∃ k, d = k + 1 := ⟨d - 1, by omega⟩
      obtain ⟨h, rfl⟩ : ∃ k, h = k + 1 := ⟨h - 1, by omega⟩
      rw [nxL_down _ _ _ _ e] at hx
      rcases hy : nxL l u (d + 1 - 1) with _ | y
      · rw [hy] at hx; cases hx
      · rw [hy] at hx
        simp only [Option.some.injEq] at hx
        subst hx
        exact ends_cons_down (ih _ _ _ _ h3 hy)

/-- From l on the next words are r, which begins with l. -/
inductive Runs (u d : Nat) : List UInt8 → List (List UInt8) → Prop
  | last (l : List UInt8) : nxL l u d = none → Runs u d l [l]
  | more (l x : List UInt8) (r : List (List UInt8)) : nxL l u d = some x → Runs u d x r → Runs u d l (l :: r)
theorem Runs.down {u d : Nat} {l : List UInt8} {r : List (List UInt8)} (h : Runs u d l r) : Runs u (d + 1) (100 :: l) (r.map (100 :: ·)) := by
  induction h with
  | last l hn => exact .last _ (by rw [nxL_down _ _ _ _ (by decide), Nat.add_sub_cancel, hn])
  | more l x r hs _ ih => exact .more _ (100 :: x) _ (by rw [nxL_down _ _ _ _ (by decide), Nat.add_sub_cancel, hs]) ih
theorem Runs.up {u d : Nat} {l : List UInt8} {r : List (List UInt8)} (h : Runs u d l r) (hn : ¬ u + 1 < d) : Runs (u + 1) d (117 :: l) (r.map (117 :: ·)) := by
  induction h with
  | last l h0 => exact .last _ (by rw [nxL_up _ _ _ _ rfl, Nat.add_sub_cancel, h0]; simp [hn])
  | more l x r hs _ ih => exact .more _ (117 :: x) _ (by rw [nxL_up _ _ _ _ rfl, Nat.add_sub_cancel, hs]) ih
theorem Runs.both {u d : Nat} {l : List UInt8} {r r2 : List (List UInt8)} (h : Runs u d l r) (hn : u + 1 < d) (h2 : Runs (u + 1) d (100 :: frL (u + 1) (d - 1)) r2) : Runs (u + 1) d (117 :: l) (r.map (117 :: ·) ++ r2) := by
  induction h with
  | last l h0 => exact .more _ _ _ (by rw [nxL_up _ _ _ _ rfl, Nat.add_sub_cancel, h0]; simp [hn]) h2
  | more l x r hs _ ih => exact .more _ (117 :: x) _ (by rw [nxL_up _ _ _ _ rfl, Nat.add_sub_cancel, hs]) ih
def listF : Nat → Nat → Nat → List (List UInt8)
  | 0, _, _ => [[]]
  | f + 1, u, d => (if 0 < u then (listF f (u - 1) d).map (117 :: ·) else []) ++ (if u < d then (listF f u (d - 1)).map (100 :: ·) else [])
theorem list_runs : ∀ (f u d : Nat), u + d = f → u ≤ d → Runs u d (frL u d) (listF f u d) := by
  intro f
  induction f with
  | zero =>
    intro u d h1 h2
    have hu : u = 0 := by omega
    have hd : d = 0 := by omega
    subst hu hd
    exact .last _ rfl
  | succ f ih =>
    intro u d h1 h2
    rw [listF]
    rcases u with _ | u
    · obtain ⟨d, rfl⟩ : ∃ k, d = k + 1 := ⟨d - 1, by omega⟩
      rw [if_neg (by omega), if_pos (by omega), List.nil_append, frL_none, Nat.add_sub_cancel]
      exact (ih 0 d (by omega) (by omega)).down
    · have i1 := ih u d (by omega) (by omega)
      rw [if_pos (by omega), frL_up, Nat.add_sub_cancel]
      by_cases hlt : u + 1 < d
      · rw [if_pos hlt]
        obtain ⟨d, rfl⟩ : ∃ k, d = k + 1 := ⟨d - 1, by omega⟩
        have i2 := (ih (u + 1) d (by omega) (by omega)).down
        exact i1.both hlt i2
      · rw [if_neg hlt, List.append_nil]
        exact i1.up hlt
theorem str_add (s : ByteArray) (c : UInt8) (l : List UInt8) : (s ++ ⟨#[c]⟩) ++ ⟨l.toArray⟩ = s ++ ⟨(c :: l).toArray⟩ := by
  rw [ByteArray.append_assoc]
  congr 1
theorem all_list : ∀ (f : Nat) (s : ByteArray) (u d : Nat), allF f s u d = (listF f u d).map fun l => s ++ ⟨l.toArray⟩ := by
  intro f
  induction f with
  | zero =>
    intro s u d
    rw [allF, listF]
    have : (⟨([] : List UInt8).toArray⟩ : ByteArray) = ByteArray.empty := rfl
    simp [this]
  | succ f ih =>
    intro s u d
    rw [allF, listF, List.map_append]
    congr 1
    · split
      · rw [ih, List.map_map]
        apply List.map_congr_left
        intro l _
        exact str_add s 117 l
      · rfl
    · split
      · rw [ih, List.map_map]
        apply List.map_congr_left
        intro l _
        exact str_add s 100 l
      · rfl
def strL (l : List UInt8) : ByteArray := ⟨l.toArray⟩
theorem paths_list (m : Nat) (hm : m ≤ 6) : pathsP m = (listF (m + m) m m).map strL := by
  unfold pathsP
  rw [if_pos (by omega)]
  simp only [Int.toNat_natCast]
  rw [all_list]
  apply List.map_congr_left
  intro l _
  show ByteArray.empty ++ _ = _
  rw [ByteArray.empty_append]; rfl
theorem str_dyck {l : List UInt8} {m : Nat} (he : ends 0 m m l) (hm : m ≤ 6) : dyck (strL l) = true ∧ (strL l).size = m + m ∧ rest (strL l) 0 = l := by
  have hs : (strL l).size = m + m := by unfold strL; rw [str_len]; exact he.2.2
  have hr : rest (strL l) 0 = l := rfl
  exact ⟨by rw [dyck_short (by omega)]; exact he.1, hs, hr⟩

theorem Runs.pos {u d : Nat} {l : List UInt8} {r : List (List UInt8)} (h : Runs u d l r) : ∃ t, r = l :: t := by
  cases h with
  | last _ _ => exact ⟨[], rfl⟩
  | more _ x r _ _ => exact ⟨r, rfl⟩
/-- What the two answers of NextPath are, at a path of the letters l. -/
theorem next_letters {l : List UInt8} {m : Nat} (he : ends 0 m m l) (hm : m ≤ 6) : (nxL l m m = none → nextOk (strL l) = false) ∧ (∀ x, nxL l m m = some x → nextOk (strL l) = true ∧ nextP (strL l) = strL x) := by
  obtain ⟨hd, hs, hr⟩ := str_dyck he hm
  obtain ⟨c1, c2⟩ := c_start hd
  rw [hs, show (m + m) / 2 = m by omega] at c1 c2
  refine ⟨fun h => ?_, fun x h => ?_⟩
  · have h' : nxL (rest (strL l) 0) (cU (rest (strL l) 0)) (cD (rest (strL l) 0)) = none := by rw [c1, c2, hr]; exact h
    exact (next_none hd h').1
  · have h' : nxL (rest (strL l) 0) (cU (rest (strL l) 0)) (cD (rest (strL l) 0)) = some x := by rw [c1, c2, hr]; exact h
    obtain ⟨n1, n2, -⟩ := next_some hd h'
    exact ⟨n1, n2⟩

set_option maxRecDepth 100000 in
theorem firstPath (m : Nat) (w : World) (hm : m ≤ 6) : Calls Try.prog 82 #[.int .i64 m] w fun e w' => e = .returned (.string (strL (frL m m))) ∧ Below w.heap.size w w' := by
  have HF := Lib.hid (show repS 117 m ++ repS 100 m = strL (frL m m) by
    unfold repS strL frL
    rw [ByteArray.mk_append_mk])
  have h1 : (repS 117 m).size ≤ 8 := by unfold repS; rw [Lib.size_eq]; simp [Lib.repeatL_length]; omega
  have h2 : (repS 100 m).size ≤ 8 := by unfold repS; rw [Lib.size_eq]; simp [Lib.repeatL_length]; omega
  go_enter Try.func82, Try.ntmps82
  go_wp2_with fail
  refine (repU m _ (by omega)).mono ?_
  rintro e w1 ⟨rfl, hb1⟩
  have z1 := hb1.size
  go_wp2_with fail
  refine (repD m _ (by omega)).mono ?_
  rintro e w2 ⟨rfl, hb2⟩
  generalize repS 117 m = R1 at *
  generalize repS 100 m = R2 at *
  have hsum : ¬ 9223372036854775807 < R1.size + R2.size := by omega
  go_wp2
  go_ret
  exact ⟨ret_str HF.out, hb1.trans (hb2.mono z1)⟩

end Go.Proofs.Ytjjaildejonmfaa
