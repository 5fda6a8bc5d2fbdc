/- The program's RenumberBlocks and IsPartition. -/
import Derived.Test.YtefbbkogfoongaaSpec8A
import Derived.Maps.OwnSet
import Derived.Maps.OwnOps
import Derived.Carry
namespace Go.Proofs.Ytefbbkogfoongaa
open Go.ChangeShapes Go.WideShapes Go.ChangeAt Go.RowKit
set_option linter.unusedVariables false

/-- Block g is a row of the ints l. -/
def TbR (w : World) (g : Nat) (l : List Int) : Prop := w.heap[g]? = some (Obj.cells (l.map (Value.int .i64)).toArray 3 (0, 0))
theorem TbR.lt {w : World} {g : Nat} {l : List Int} (h : TbR w g l) : g < w.heap.size := (Array.getElem?_eq_some_iff.1 h).1
theorem TbR.cell {w : World} {g : Nat} {l : List Int} (h : TbR w g l) {j : Nat} (hj : j < l.length) : w.cell? ⟨g, j, none⟩ = some (.int .i64 (l.getD j 0)) ∧ w.frozen? ⟨g, j, none⟩ = false := by
  refine ⟨?_, by simp [World.frozen?, show w.heap[g]? = _ from h]⟩
  rw [cell_of_row w g j _ 3 (0, 0) h]
  simp [List.getD, hj]
theorem TbR.set {w : World} {g : Nat} {l : List Int} (h : TbR w g l) (q : Nat) (y : Int) : TbR (w.setCell ⟨g, q, none⟩ (.int .i64 y)) g (l.set q y) := by
  unfold TbR at h ⊢
  simp [World.setCell, Array.getElem?_modify, h, List.map_set]
theorem TbR.keep {w w' : World} {g : Nat} {l : List Int} (h : TbR w g l) (e : w'.heap[g]? = w.heap[g]?) : TbR w' g l := e.trans h
theorem TbR.made {w : World} {base m : Nat} (h : w.ownsRow base 3 1 (.slice (some ⟨base, 0, none⟩) m m) m (madeCells (Value.int .i64 0).cells (m * 1)).toList) : TbR w base (List.replicate m 0) := by
  rcases h.2 with ⟨h1, _⟩ | ⟨g, cap, cur, hv, hb, hh, hnc, hcm, hcur, htake⟩
  · cases h1
  · simp only [Value.slice.injEq, Option.some.injEq, Addr.mk.injEq] at hv
    obtain ⟨⟨rfl, _, _⟩, _, rfl⟩ := hv
    unfold TbR
    rw [hh]
    congr 2
    apply Array.toList_inj.1
    rw [show (Value.int IntKind.i64 0).cells = #[Value.int .i64 0] from rfl, toList_madeCells_one, List.take_of_length_le (by rw [Array.length_toList, hcur]; exact Nat.le_refl _)] at htake
    rw [htake]; simp
theorem TbR.own {w : World} {g lo : Nat} {l : List Int} (h : TbR w g l) (hg : lo ≤ g) (cap : Nat) : OwnI w lo w.heap.size (.slice (some ⟨g, 0, none⟩) l.length cap) l :=
  ⟨_, cap, rfl, .inr ⟨g, _, hg, h.lt, rfl, h, fun j hj => by simp [List.getD, hj]⟩⟩

/-- The map holds the names ns with their numbers. -/
structure MapOk (D : DataW Unit) (ns : List Int) : Prop where
  tidy : Maps.Tidy D
  has : ∀ x : Int, Maps.has D (.int .i64 x) = decide (0 ≤ la x ns)
  at_ : ∀ x : Int, 0 ≤ la x ns → D.atKey (.int .i64 x) (.lit (.int .i64 0)) = .lit (.int .i64 (la x ns))
  size : Maps.size D = ns.length
theorem MapOk.nil : MapOk (.map []) [] := ⟨Maps.tidy_empty, fun x => rfl, fun x h => by simp [la, laK] at h, rfl⟩
theorem MapOk.put {D : DataW Unit} {ns : List Int} (h : MapOk D ns) (x : Int) (hx : la x ns < 0) : MapOk (D.put (.int .i64 x) (.lit (.int .i64 (ns.length : Int)))) (ns ++ [x]) := by
  have hk : WideAt.IsKeyLit (.int .i64 x) := by simp [WideAt.IsKeyLit]
  have hne : ∀ y : Int, y ≠ x → (Lit.int .i64 y) ≠ .int .i64 x := fun y h e => h (by simpa using e)
  refine ⟨h.tidy.put hk _, fun y => ?_, fun y hy => ?_, ?_⟩
  · by_cases e : y = x
    · subst e
      rw [Maps.has_put_same h.tidy.isMap hk, la_new]
      exact (decide_eq_true (by omega)).symm
    · rw [Maps.has_put_other (hne y e), la_old _ _ _ e]; exact h.has y
  · by_cases e : y = x
    · subst e
      rw [Maps.atKey_put_same h.tidy.isMap hk, la_new]
    · rw [la_old _ _ _ e] at hy ⊢
      rw [Maps.atKey_put_other (hne y e)]; exact h.at_ y hy
  · rw [Maps.size_put h.tidy, h.has x, decide_eq_false (by omega), h.size]
    simp
theorem keyI : Maps.Keyed Try.prog 3 := Maps.int_keyed Try.underlying3

theorem set_step (l : List Int) (n i : Nat) (y : Int) (hl : l.length = i) (hi : i < n) : (l ++ List.replicate (n - i) 0).set i y = (l ++ [y]) ++ List.replicate (n - (i + 1)) 0 := by
  obtain ⟨k, hk⟩ : ∃ k, n - i = k + 1 := ⟨n - i - 1, by omega⟩
  rw [hk, show n - (i + 1) = k by omega, List.set_append_right _ _ (by omega), hl, Nat.sub_self, List.replicate_succ, List.set_cons_zero]
  simp
theorem zeroI (w : World) : (zeroValue 3).run Try.prog w = .ok (.int .i64 0) w := by kernel_rfl
noncomputable abbrev RI : Value → Option (DataW Unit × List MemPlace) := plainElem Try.prog 3
theorem valI {a : Int} (h : (Lit.int .i64 a).wf = true) : RI (.int .i64 a) = some (.lit (.int .i64 a), []) := plainElem_int Try.underlying3 h
theorem lit_inj {a b : Int} (h : (DataW.lit (.int .i64 a) : DataW Unit) = .lit (.int .i64 b)) : a = b := by simpa using h
theorem wf_small {a : Int} (h : -9223372036854775808 ≤ a ∧ a ≤ 9223372036854775807) : (Lit.int .i64 a).wf = true := by
  simp [Lit.wf, IntKind.min, IntKind.max, IntKind.signed, IntKind.bits]; omega

theorem la_range (n : Nat) (x : Int) : la x ((List.range n).map fun (i : Nat) => (i : Int)) = if 0 ≤ x ∧ x < n then x else -1 := by
  induction n with
  | zero => rw [if_neg (by omega)]; rfl
  | succ n ih =>
    rw [List.range_succ, List.map_append, List.map_cons, List.map_nil]
    by_cases e : x = (n : Int)
    · subst e
      rw [la_new, if_pos (by omega)]; simp
    · rw [la_old _ _ _ e, ih]
      by_cases h : 0 ≤ x ∧ x < n
      · rw [if_pos h, if_pos (by omega)]
      · rw [if_neg h, if_neg (by omega)]
def okTo (xs : List Int) (i : Nat) : Prop := ∀ j, j < i → 0 ≤ xs.getD j 0 ∧ xs.getD j 0 ≤ (ptN xs j : Int)
theorem rn_ok {xs : List Int} : ∀ i, i ≤ xs.length → okTo xs i → rnN xs i = (List.range (ptN xs i)).map (fun (k : Nat) => (k : Int)) ∧ rnO xs i = xs.take i := by
  intro i
  induction i with
  | zero => intro _ _; exact ⟨rfl, rfl⟩
  | succ i ih =>
    intro hi h
    obtain ⟨h1, h2⟩ := ih (by omega) (fun j hj => h j (by omega))
    have hx := h i (by omega)
    have hlr := la_range (ptN xs i) (xs.getD i 0)
    rw [rnN, rnO, h1, h2, take_int xs i hi, hlr, ptN]
    by_cases e : xs.getD i 0 = (ptN xs i : Int)
    · have hla : (if 0 ≤ xs.getD i 0 ∧ xs.getD i 0 < (ptN xs i : Int) then xs.getD i 0 else -1) = -1 := if_neg (by omega)
      rw [hla, if_pos (show (-1 : Int) < 0 by decide), if_pos e, if_pos (show (-1 : Int) < 0 by decide), List.range_succ, List.map_append]
      constructor
      · rw [e]; rfl
      · rw [e]; simp
    · have hla : (if 0 ≤ xs.getD i 0 ∧ xs.getD i 0 < (ptN xs i : Int) then xs.getD i 0 else -1) = xs.getD i 0 := if_pos (by omega)
      rw [hla, if_neg (show ¬ xs.getD i 0 < 0 by omega), if_neg e, if_neg (show ¬ xs.getD i 0 < 0 by omega)]
      exact ⟨rfl, rfl⟩
theorem rn_back {xs : List Int} : ∀ i, i ≤ xs.length → rnO xs i = xs.take i → okTo xs i := by
  intro i
  induction i with
  | zero => intro _ _ j hj; omega
  | succ i ih =>
    intro hi h
    rw [rnO, take_int xs i hi] at h
    have hl := rnO_len xs i
    obtain ⟨h1, h2⟩ := List.append_inj h (by rw [hl, List.length_take]; omega)
    have hok := ih (by omega) h1
    have h2 := List.singleton_inj.1 h2
    have hr := (rn_ok i (by omega) hok).1
    rw [hr, la_range] at h2
    intro j hj
    by_cases e : j < i
    · exact hok j e
    · obtain rfl : j = i := by omega
      by_cases hin : 0 ≤ xs.getD j 0 ∧ xs.getD j 0 < (ptN xs j : Int)
      · exact ⟨hin.1, Int.le_of_lt hin.2⟩
      · rw [if_neg hin, if_pos (show (-1 : Int) < 0 by decide), List.length_map, List.length_range] at h2
        omega
theorem prt_iff (xs : List Int) : prtB xs = (renOk xs && decide (renP xs = xs)) := by
  by_cases h8 : xs.length ≤ 8
  · have e1 : renOk xs = true := decide_eq_true h8
    have e2 : renP xs = rnO xs xs.length := if_pos h8
    rw [e1, e2, Bool.true_and]
    by_cases h : okTo xs xs.length
    · have := (rn_ok xs.length (Nat.le_refl _) h).2
      rw [List.take_length] at this
      rw [decide_eq_true this]
      exact decide_eq_true ⟨h8, h⟩
    · rw [decide_eq_false fun e => h (rn_back xs.length (Nat.le_refl _) (by rw [List.take_length]; exact e))]
      exact decide_eq_false fun h2 => h h2.2
  · have e1 : renOk xs = false := decide_eq_false h8
    rw [e1]
    exact decide_eq_false fun h2 => h8 h2.1

set_option maxRecDepth 100000 in
set_option maxHeartbeats 800000 in
theorem equalC (v u : Value) (xs ys : List Int) (lo hi lo' hi' : Nat) (w : World) (hv : OwnI w lo hi v xs) (hu : OwnI w lo' hi' u ys) (hl : xs.length ≤ 1099511627776) :
    Calls Try.prog 32 #[v, u] w fun e w' => e = .returned (.bool (decide (xs = ys))) ∧ Below w.heap.size w w' := by
  obtain ⟨A1, c1, rfl, k1⟩ := id hv
  obtain ⟨A2, c2, rfl, k2⟩ := id hu
  clear k1 k2
  have HV := Lib.hid hv
  have HU := Lib.hid hu
  clear hv hu
  by_cases hll : xs.length = ys.length
  · have hne : ((xs.length : Int) != (ys.length : Int)) = false := by simp [hll]
    have HLL := Lib.hid hll
    clear hll
    go_enter Try.func32, Try.ntmps32
    go_wp2
    go_loopw [13] (fun x wr => ∃ i d : Nat, i ≤ xs.length ∧ x = .int .i64 i ∧ wr = w.drewN d ∧ ∀ j, j < i → xs.getD j 0 = ys.getD j 0) (fun x _ => xs.length - (intOf x).toNat)
    case atStart => exact ⟨0, 0, Nat.zero_le _, rfl, rfl, fun j hj => absurd hj (Nat.not_lt_zero _)⟩
    case round =>
      obtain ⟨i, d, hi1, rfl, rfl, ha⟩ := hrel
      have HA := Lib.hid ha
      clear ha
      by_cases hlt : i < xs.length
      · obtain ⟨g1, p1, e1, -, -, hc1, -⟩ := HV.out.cell hlt
        obtain ⟨g2, p2, e2, -, -, hc2, -⟩ := HU.out.cell (show i < ys.length by have := HLL.out; omega)
        simp only [Value.slice.injEq] at e1 e2
        obtain ⟨rfl, -, -⟩ := e1
        obtain ⟨rfl, -, -⟩ := e2
        have hii : (i : Int) < (xs.length : Int) := by omega
        have hi2 : (i : Int) < (ys.length : Int) := by have := HLL.out; omega
        have HNX := Lib.hid (show xs.getD i 0 = ys.getD i 0 → ∀ j, j < i + 1 → xs.getD j 0 = ys.getD j 0 from fun h j hj => by
          by_cases e : j < i
          · exact HA.out j e
          · obtain rfl : j = i := by omega
            exact h)
        have HNO := Lib.hid (show xs.getD i 0 ≠ ys.getD i 0 → decide (xs = ys) = false from fun h => decide_eq_false fun h2 => h (by rw [h2]))
        generalize xs.getD i 0 = y at *
        generalize ys.getD i 0 = z at *
        by_cases e : y = z
        · have he : (y != z) = false := by simp [e]
          have HX := Lib.hid (HNX.out e)
          clear e HNX HNO
          go_wp2
          go_quiet (fail)
          go_wp2
          exact ⟨⟨i + 1, _, by omega, by simp, rfl, HX.out⟩, by simp [intOf]; omega⟩
        · have he : (y != z) = true := by simp [e]
          have HX := Lib.hid (HNO.out e)
          clear e HNX HNO
          go_wp2
          go_quiet (fail)
          go_wp2
          go_ret
          exact ⟨ret_bool HX.out.symm, below_drewN (below_drewN (Below.refl _ _) _) _⟩
      · obtain rfl : i = xs.length := by omega
        have HD := Lib.hid (show decide (xs = ys) = true from decide_eq_true (by
          apply List.ext_getElem HLL.out
          intro j h1 h2
          have := HA.out j h1
          rwa [List.getD_eq_getElem?_getD, List.getD_eq_getElem?_getD, List.getElem?_eq_getElem h1, List.getElem?_eq_getElem h2] at this))
        go_wp2
        go_ret
        exact ⟨ret_bool HD.out.symm, below_drewN (Below.refl _ _) _⟩
  · have hne : ((xs.length : Int) != (ys.length : Int)) = true := by simp; omega
    have HD := Lib.hid (show decide (xs = ys) = false from decide_eq_false fun h => hll (by rw [h]))
    clear hll
    go_enter Try.func32, Try.ntmps32
    go_wp2
    go_ret
    exact ⟨ret_bool HD.out.symm, Below.refl _ _⟩

end Go.Proofs.Ytefbbkogfoongaa
