/- The vertices of a plane tree, as the program has them: upTo, child, verticesOf. -/
import Derived.Test.YtlnogepmkbibcaaSpec5D
import Derived.Deep.AppendLies
import Derived.Deep.RegionHeld3
namespace Go.Proofs.Ytlnogepmkbibcaa
open Go.ChangeShapes Go.WideShapes Go.ChangeAt Go.RowKit
open Go.PlainAid (bt bt_nonneg bt_le get_bt)
set_option linter.unusedVariables false

theorem up_fuel (xs : List Int) (y : Int) : ∀ (j f g : Nat), (∀ i, 0 < i → i ≤ j → 0 ≤ xs.getD i 0 ∧ xs.getD i 0 < (i : Int)) → xs.getD 0 0 < 0 → j + 1 ≤ f → j + 1 ≤ g → upHas xs y f j = upHas xs y g j := by
  intro j
  induction j using Nat.strongRecOn with
  | _ j ih =>
    intro f g hx h0 hf hg
    obtain ⟨f, rfl⟩ : ∃ f', f = f' + 1 := ⟨f - 1, by omega⟩
    obtain ⟨g, rfl⟩ : ∃ g', g = g' + 1 := ⟨g - 1, by omega⟩
    rw [upHas_step _ _ _ _ (by omega), upHas_step _ _ _ _ (by omega), Int.toNat_natCast]
    congr 1
    by_cases hj : j = 0
    · subst hj
      rw [upHas_end _ _ _ _ h0, upHas_end _ _ _ _ h0]
    · obtain ⟨a, b⟩ := hx j (by omega) (Nat.le_refl _)
      obtain ⟨k, hk⟩ : ∃ k : Nat, xs.getD j 0 = k := ⟨(xs.getD j 0).toNat, by omega⟩
      rw [hk]
      exact ih k (by omega) f g (fun i h1 h2 => hx i h1 (by omega)) h0 (by omega) (by omega)
/-- What is met on the way up lies below. -/
theorem up_in (xs : List Int) (y : Int) : ∀ (j : Nat), (∀ i, 0 < i → i ≤ j → 0 ≤ xs.getD i 0 ∧ xs.getD i 0 < (i : Int)) → xs.getD 0 0 < 0 → upHas xs y (j + 1) j = true → 0 ≤ y ∧ y ≤ j := by
  intro j
  induction j using Nat.strongRecOn with
  | _ j ih =>
    intro hx h0 h
    rw [upHas_step _ _ _ _ (by omega), Int.toNat_natCast, Bool.or_eq_true] at h
    rcases h with h | h
    · have : (j : Int) = y := by simpa using h
      omega
    · by_cases hj : j = 0
      · subst hj; rw [upHas_end _ _ _ _ h0] at h; cases h
      · obtain ⟨a, b⟩ := hx j (by omega) (Nat.le_refl _)
        obtain ⟨k, hk⟩ : ∃ k : Nat, xs.getD j 0 = k := ⟨(xs.getD j 0).toNat, by omega⟩
        rw [hk, up_fuel xs y k j (k + 1) (fun i h1 h2 => hx i h1 (by omega)) h0 (by omega) (by omega)] at h
        have := ih k (by omega) (fun i h1 h2 => hx i h1 (by omega)) h0 h
        omega
/-- A vertex's level. -/
def lev (xs : List Int) (j : Nat) : Int := (lvL xs (j + 1)).getD j 0
theorem lev_zero (xs : List Int) : lev xs 0 = 0 := rfl
theorem lvL_at (xs : List Int) : ∀ (n j : Nat), j < n → (lvL xs n).getD j 0 = lev xs j := by
  intro n
  induction n with
  | zero => intro j h; omega
  | succ n ih =>
    intro j h
    by_cases e : j = n
    · subst e; rfl
    · rw [lvL, ga_old _ _ _ _ (by rw [lvL_len]; omega)]; exact ih j (by omega)
theorem lev_step (xs : List Int) (n : Nat) (h0 : 0 < n) (h1 : 0 ≤ xs.getD n 0) (h2 : xs.getD n 0 < n) : lev xs n = lev xs (xs.getD n 0).toNat + 1 := by
  unfold lev
  rw [lvL, ga_new _ _ _ _ (lvL_len xs n).symm, if_neg (by omega), lvL_at xs n _ (by omega)]
  rfl

def pA (g : Nat) : Value := .pointer (some ⟨g, 0, none⟩)
/-- The parent's place. -/
def pUp (gs : List Nat) (xs : List Int) (j : Nat) : Value := if j = 0 then .pointer none else pA (gs.getD (xs.getD j 0).toNat 0)
/-- The vertices of the first gs.length numbers lie in the blocks gs. -/
structure VS (w : World) (lo : Nat) (gs : List Nat) (xs : List Int) : Prop where
  len : 1 ≤ gs.length ∧ gs.length ≤ xs.length
  root : xs.getD 0 0 = -1
  inn : ∀ j, 0 < j → j < gs.length → 0 ≤ xs.getD j 0 ∧ xs.getD j 0 < (j : Int)
  up : ∀ i j, i < j → j < gs.length → gs.getD i 0 < gs.getD j 0
  lo_ : ∀ j, j < gs.length → lo ≤ gs.getD j 0
  blk : ∀ j, j < gs.length → w.heap[gs.getD j 0]? = some (.cells #[pUp gs xs j, .int .i64 j, .int .i64 (lev xs j)] 41 (0, 0))
section
variable {w : World} {lo : Nat} {gs : List Nat} {xs : List Int}
theorem VS.at_ (h : VS w lo gs xs) (j : Nat) (hj : j < gs.length) : lo ≤ gs.getD j 0 ∧ gs.getD j 0 < w.heap.size := ⟨h.lo_ j hj, (Array.getElem?_eq_some_iff.1 (h.blk j hj)).1⟩
theorem VS.c0 (h : VS w lo gs xs) (j : Nat) (hj : j < gs.length) : w.cell? ⟨gs.getD j 0, 0, none⟩ = some (pUp gs xs j) := by rw [cell_of_row w _ 0 _ _ (0, 0) (h.blk j hj)]; rfl
theorem VS.c1 (h : VS w lo gs xs) (j : Nat) (hj : j < gs.length) : w.cell? ⟨gs.getD j 0, 1, none⟩ = some (.int .i64 j) := by rw [cell_of_row w _ 1 _ _ (0, 0) (h.blk j hj)]; rfl
theorem VS.c2 (h : VS w lo gs xs) (j : Nat) (hj : j < gs.length) : w.cell? ⟨gs.getD j 0, 2, none⟩ = some (.int .i64 (lev xs j)) := by rw [cell_of_row w _ 2 _ _ (0, 0) (h.blk j hj)]; rfl
theorem VS.same {w' : World} (h : VS w lo gs xs) (hb : ∀ (g : Nat) (C : Array Value), w.heap[g]? = some (Obj.cells C 41 (0, 0)) → w'.heap[g]? = w.heap[g]?) : VS w' lo gs xs :=
  ⟨h.len, h.root, h.inn, h.up, h.lo_, fun j hj => (hb _ _ (h.blk j hj)).trans (h.blk j hj)⟩
theorem VS.keep {w' : World} {B : Nat} (h : VS w lo gs xs) (hb : Below B w w') (hB : w.heap.size ≤ B) : VS w' lo gs xs :=
  h.same fun g C e => hb.block g (Nat.lt_of_lt_of_le (Array.getElem?_eq_some_iff.1 e).1 hB)
end
theorem lev_bd (xs : List Int) : ∀ j, (∀ i, 0 < i → i ≤ j → 0 ≤ xs.getD i 0 ∧ xs.getD i 0 < (i : Int)) → 0 ≤ lev xs j ∧ lev xs j ≤ j := by
  intro j
  induction j using Nat.strongRecOn with
  | _ j ih =>
    intro h
    by_cases h0 : j = 0
    · subst h0; rw [lev_zero]; omega
    · obtain ⟨a, b⟩ := h j (by omega) (Nat.le_refl _)
      have := ih (xs.getD j 0).toNat (by omega) (fun i h1 h2 => h i h1 (by omega))
      rw [lev_step xs j (by omega) a b]
      omega

def upRes (gs : List Nat) (xs : List Int) (y : Int) (j : Nat) : Value := if upHas xs y (j + 1) j = true then pA (gs.getD y.toNat 0) else .pointer none
theorem ret_val {a b : Value} (h : a = b) : Ending.returned a = .returned b := by rw [h]
def ptrOf : Value → Nat
  | .pointer (some a) => a.block + 1
  | _ => 0
set_option maxRecDepth 100000 in
set_option maxHeartbeats 1600000 in
theorem upTo (w : World) (lo : Nat) (gs : List Nat) (xs : List Int) (hv : VS w lo gs xs) (j : Nat) (hj : j < gs.length) (y : Int) :
    Calls Try.prog 37 #[pA (gs.getD j 0), .int .i64 y] w fun e w' => e = .returned (upRes gs xs y j) ∧ w = w' := by
  have HV := Lib.hid hv
  clear hv
  show Calls Try.prog 37 #[.pointer (some ⟨gs.getD j 0, 0, none⟩), .int .i64 y] w _
  obtain ⟨R, hR⟩ : ∃ R, upRes gs xs y j = R := ⟨_, rfl⟩
  rw [hR]
  have HRR := Lib.hid hR
  clear hR
  go_enter Try.func37, Try.ntmps37
  go_wp2
  go_loop [0] (fun x => (∃ k, k < gs.length ∧ x = .pointer (some ⟨gs.getD k 0, 0, none⟩) ∧ upRes gs xs y k = R) ∨ (x = .pointer none ∧ R = .pointer none)) (fun x => ptrOf x)
  case atStart => exact .inl ⟨j, hj, rfl, HRR.out⟩
  case round =>
    rcases hrel with ⟨k, hk, rfl, hr⟩ | ⟨rfl, rfl⟩
    · have h0 := HV.out.c0 k hk
      have h1 := HV.out.c1 k hk
      have hin : ∀ i, 0 < i → i ≤ k → 0 ≤ xs.getD i 0 ∧ xs.getD i 0 < (i : Int) := fun i a b => HV.out.inn i a (by omega)
      by_cases e : (k : Int) = y
      · have hu : upHas xs y (k + 1) k = true := by rw [upHas_step _ _ _ _ (by omega), e]; simp
        have HR := Lib.hid (show R = .pointer (some ⟨gs.getD k 0, 0, none⟩) by rw [← hr]; unfold upRes; rw [if_pos hu, ← e]; rfl)
        have hne : ((k : Int) != y) = false := by simp [e]
        generalize gs.getD k 0 = g at *
        clear e hr hu hin h0
        go_wp2
        go_ret
        exact ⟨ret_val HR.out.symm, rfl⟩
      · have hne : ((k : Int) != y) = true := by simp [e]
        have hst : upHas xs y (k + 1) k = upHas xs y k (xs.getD k 0) := by
          rw [upHas_step _ _ _ _ (by omega), Int.toNat_natCast, show ((k : Int) == y) = false from beq_eq_false_iff_ne.2 e]; rfl
        by_cases k0 : k = 0
        · subst k0
          have hup : pUp gs xs 0 = .pointer none := rfl
          rw [hup] at h0
          have HR := Lib.hid (show R = .pointer none by
            rw [← hr]; unfold upRes
            rw [hst, upHas_end _ _ _ _ (by rw [HV.out.root]; omega)]; rfl)
          generalize gs.getD 0 0 = g at *
          clear e hr hst hin
          go_wp2
          refine ⟨.inr ⟨rfl, HR.out⟩, ?_⟩
          simp [ptrOf]
        · obtain ⟨a, b⟩ := hin k (by omega) (Nat.le_refl _)
          obtain ⟨q, hq⟩ : ∃ q : Nat, xs.getD k 0 = q := ⟨(xs.getD k 0).toNat, by omega⟩
          have hup : pUp gs xs k = .pointer (some ⟨gs.getD q 0, 0, none⟩) := by unfold pUp; rw [if_neg k0, hq]; rfl
          rw [hup] at h0
          have HR := Lib.hid (show upRes gs xs y q = R by
            rw [← hr]; unfold upRes
            rw [hst, hq, up_fuel xs y q k (q + 1) (fun i h1 h2 => hin i h1 (by omega)) (by rw [HV.out.root]; omega) (by omega) (by omega)])
          have HLT := Lib.hid (HV.out.up q k (by omega) hk)
          have hqk : q < gs.length := by omega
          clear e hr hst hin hup a b hq
          generalize hgk : gs.getD k 0 = gk at *
          generalize hgq : gs.getD q 0 = gq at *
          go_wp2
          refine ⟨.inl ⟨q, hqk, by rw [hgq], HR.out⟩, ?_⟩
          have := HLT.out
          simp [ptrOf]; omega
    · go_wp2
      go_ret
      exact ⟨rfl, rfl⟩

set_option maxRecDepth 100000 in
set_option maxHeartbeats 1600000 in
theorem childC (w : World) (g : Nat) (n l : Int) (h : w.cell? ⟨g, 2, none⟩ = some (.int .i64 l)) (hl : 0 ≤ l ∧ l ≤ 1000000) :
    Calls Try.prog 32 #[.pointer (some ⟨g, 0, none⟩), .int .i64 n] w fun e w' => e = .returned (.pointer (some ⟨w.heap.size, 0, none⟩)) ∧ w' = w.alloc (.cells #[.pointer (some ⟨g, 0, none⟩), .int .i64 n, .int .i64 (l + 1)] 41) := by
  have hw : IntKind.i64.wrap (l + 1) = l + 1 := IntWalk.i64_in _ (by omega)
  go_enter Try.func32, Try.ntmps32
  go_wp2
  go_ret
  exact ⟨rfl, rfl⟩

end Go.Proofs.Ytlnogepmkbibcaa
