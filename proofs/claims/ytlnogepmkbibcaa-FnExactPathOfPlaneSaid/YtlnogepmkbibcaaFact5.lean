/- The path of a plane tree, vertex by vertex; a path turned round is a path. -/
import Derived.Test.YtlnogepmkbibcaaImpl5A
namespace Go.Proofs.Ytlnogepmkbibcaa
open Go.ChangeShapes Go.WideShapes Go.ChangeAt Go.RowKit
open Go.PlainAid (bt bt_nonneg bt_le get_bt)
set_option linter.unusedVariables false

/-- Whoever is met on the way up stands no higher. -/
theorem up_lev (xs : List Int) (y : Nat) : ∀ (j : Nat), (∀ i, 0 < i → i ≤ j → 0 ≤ xs.getD i 0 ∧ xs.getD i 0 < (i : Int)) → xs.getD 0 0 < 0 → upHas xs y (j + 1) j = true → lev xs y ≤ lev xs j := by
  intro j
  induction j using Nat.strongRecOn with
  | _ j ih =>
    intro hx h0 h
    rw [upHas_step _ _ _ _ (by omega), Int.toNat_natCast, Bool.or_eq_true] at h
    rcases h with h | h
    · have : j = y := by have : (j : Int) = y := by simpa using h
                         omega
      rw [this]; exact Int.le_refl _
    · by_cases hj : j = 0
      · subst hj; rw [upHas_end _ _ _ _ h0] at h; cases h
      · obtain ⟨a, b⟩ := hx j (by omega) (Nat.le_refl _)
        obtain ⟨k, hk⟩ : ∃ k : Nat, xs.getD j 0 = k := ⟨(xs.getD j 0).toNat, by omega⟩
        have hl := lev_step xs j (by omega) a b
        rw [hk, up_fuel xs y k j (k + 1) (fun i h1 h2 => hx i h1 (by omega)) h0 (by omega) (by omega)] at h
        have := ih k (by omega) (fun i h1 h2 => hx i h1 (by omega)) h0 h
        rw [hk, Int.toNat_natCast] at hl
        omega
/-- What is known of the levels of a plane tree. -/
structure LvOk (l : List Int) : Prop where
  zero : l.getD 0 0 = 0
  step : ∀ k, k + 1 < l.length → 1 ≤ l.getD (k + 1) 0 ∧ l.getD (k + 1) 0 ≤ l.getD k 0 + 1
theorem LvOk.bd {l : List Int} (h : LvOk l) : ∀ k, k < l.length → 0 ≤ l.getD k 0 ∧ l.getD k 0 ≤ k := by
  intro k
  induction k with
  | zero => intro _; rw [h.zero]; omega
  | succ k ih =>
    intro hk
    have := ih (by omega)
    have := h.step k hk
    omega
theorem plane_in {xs : List Int} (hp : planeB xs = true) : ∀ i, 0 < i → i < xs.length → 0 ≤ xs.getD i 0 ∧ xs.getD i 0 < (i : Int) := by
  intro i h0 hi
  have := (plane_yes hp).2 i hi
  unfold plOk at this
  rw [if_neg (by omega)] at this
  omega
theorem plane_lev {xs : List Int} (hp : planeB xs = true) (j : Nat) (hj : j < xs.length) : (levelsP xs).getD j 0 = lev xs j := by
  unfold levelsP
  rw [if_pos hp]
  exact lvL_at xs _ j hj
theorem plane_first' {xs : List Int} (h : planeB xs = true) : xs.getD 0 0 = -1 := by
  obtain ⟨⟨h1, -⟩, h2⟩ := plane_yes h
  have := h2 0 (by omega)
  unfold plOk at this
  rwa [if_pos rfl] at this
theorem lvOk {xs : List Int} (hp : planeB xs = true) : LvOk (levelsP xs) := by
  have hl : (levelsP xs).length = xs.length := by unfold levelsP; rw [if_pos hp, lvL_len]
  have h9 := (plane_yes hp).1
  have hf := plane_first' hp
  have hin := plane_in hp
  refine ⟨by rw [plane_lev hp 0 (by omega)]; rfl, fun k hk => ?_⟩
  rw [plane_lev hp (k + 1) (by omega), plane_lev hp k (by omega)]
  obtain ⟨a, b⟩ := hin (k + 1) (by omega) (by omega)
  obtain ⟨q, hq⟩ : ∃ q : Nat, xs.getD (k + 1) 0 = q := ⟨(xs.getD (k + 1) 0).toNat, by omega⟩
  have hs := lev_step xs (k + 1) (by omega) a b
  have hpl := (plane_yes hp).2 (k + 1) (by omega)
  unfold plOk at hpl
  rw [if_neg (by omega), show (((k + 1 : Nat) : Int) - 1) = (k : Int) by omega, up_fuel xs _ k (k + 1 + 1) (k + 1) (fun i h1 h2 => hin i h1 (by omega)) (by omega) (by omega) (by omega)] at hpl
  rw [hq, Int.toNat_natCast] at hs
  have hu := hpl.2.2
  rw [hq] at hu
  have := up_lev xs q k (fun i h1 h2 => hin i h1 (by omega)) (by omega) hu
  have := (lev_bd xs q (fun i h1 h2 => hin i h1 (by omega))).1
  omega
/-- The path when the first k vertices below the root are there. -/
def wkL (l : List Int) (k : Nat) : List UInt8 := qL l k ++ List.replicate (l.getD k 0).toNat 100
theorem wkL_len {l : List Int} (h : LvOk l) : ∀ k, k < l.length → (wkL l k).length = 2 * k := by
  intro k
  induction k with
  | zero => intro _; unfold wkL; rw [h.zero]; rfl
  | succ k ih =>
    intro hk
    have i := ih (by omega)
    have s := h.step k hk
    have b := h.bd k (by omega)
    unfold wkL at i ⊢
    rw [List.length_append, List.length_replicate] at i ⊢
    rw [qL, List.length_append, List.length_append, List.length_replicate, List.length_singleton]
    omega
theorem wkL_step {l : List Int} (h : LvOk l) (k v : Nat) (hk : k + 1 < l.length) (hv : l.getD (k + 1) 0 = ((v + 1 : Nat) : Int)) : wkL l (k + 1) = (wkL l k).take (2 * k - v) ++ 117 :: List.replicate (v + 1) 100 := by
  have hl := wkL_len h k (by omega)
  have s := h.step k hk
  have b := h.bd k (by omega)
  obtain ⟨a, ha⟩ : ∃ a : Nat, l.getD k 0 = a := ⟨(l.getD k 0).toNat, by omega⟩
  unfold wkL at hl ⊢
  rw [ha, List.length_append, List.length_replicate, Int.toNat_natCast] at hl
  rw [ha, hv, Int.toNat_natCast, Int.toNat_natCast, List.take_append, List.take_of_length_le (by omega), List.take_replicate, qL, ha, hv]
  have e1 : ((a : Int) - ((v + 1 : Nat) : Int) + 1).toNat = a - v := by omega
  have e2 : min (2 * k - v - (qL l k).length) a = a - v := by omega
  rw [e1, e2, List.append_assoc]
  rfl
theorem wkL_dyck {l : List Int} (h : LvOk l) : ∀ k, k < l.length → ∀ m, dyckFrom 0 (qL l k ++ m) = dyckFrom (l.getD k 0).toNat m := by
  have downs : ∀ (n a : Nat) (m : List UInt8), dyckFrom (a + n) (List.replicate n 100 ++ m) = dyckFrom a m := by
    intro n
    induction n with
    | zero => intro a m; rfl
    | succ n ih =>
      intro a m
      rw [List.replicate_succ, List.cons_append]
      show dyckFrom (a + n + 1) _ = _
      rw [df_down _ _ _ rfl]; exact ih a m
  intro k
  induction k with
  | zero => intro _ m; rw [h.zero]; rfl
  | succ k ih =>
    intro hk m
    have s := h.step k hk
    have b := h.bd k (by omega)
    rw [qL, List.append_assoc, List.append_assoc, ih (by omega)]
    obtain ⟨a, ha⟩ : ∃ a : Nat, l.getD k 0 = a := ⟨(l.getD k 0).toNat, by omega⟩
    obtain ⟨v, hv⟩ : ∃ v : Nat, l.getD (k + 1) 0 = ((v + 1 : Nat) : Int) := ⟨(l.getD (k + 1) 0).toNat - 1, by omega⟩
    rw [ha, hv, Int.toNat_natCast, Int.toNat_natCast, show ((a : Int) - ((v + 1 : Nat) : Int) + 1).toNat = a - v by omega]
    obtain ⟨d, rfl⟩ : ∃ d, a = v + d := ⟨a - v, by omega⟩
    rw [Nat.add_sub_cancel_left, downs]
    show dyckFrom v (117 :: m) = _
    rw [df_up _ _ _ rfl]
theorem pop_eq {xs : List Int} (hp : planeB xs = true) : popP xs = ⟨(wkL (levelsP xs) (xs.length - 1)).toArray⟩ := by
  unfold popP; rw [if_pos hp]; rfl
theorem pop_dyck {xs : List Int} (hp : planeB xs = true) : dyck (popP xs) = true := by
  have h9 := (plane_yes hp).1
  have hl : (levelsP xs).length = xs.length := by unfold levelsP; rw [if_pos hp, lvL_len]
  have hk := lvOk hp
  have hlen := wkL_len hk (xs.length - 1) (by omega)
  have hd := wkL_dyck hk (xs.length - 1) (by omega) (List.replicate ((levelsP xs).getD (xs.length - 1) 0).toNat 100)
  rw [pop_eq hp, dyck_short (by rw [show (⟨(wkL (levelsP xs) (xs.length - 1)).toArray⟩ : ByteArray).size = (wkL (levelsP xs) (xs.length - 1)).length by simp [ByteArray.size]]; omega)]
  show dyckFrom 0 (wkL (levelsP xs) (xs.length - 1)) = true
  unfold wkL
  rw [hd]
  have downs : ∀ (n : Nat), dyckFrom n (List.replicate n 100) = true := by
    intro n
    induction n with
    | zero => rfl
    | succ n ih => rw [List.replicate_succ, df_down _ _ _ rfl]; exact ih
  exact downs _

end Go.Proofs.Ytlnogepmkbibcaa
