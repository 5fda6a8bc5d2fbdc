/- Chords compared and sorted. -/
import Derived.Test.YtkpnfonedfomaaaImpl7A
import Derived.Test.YtkpnfonedfomaaaPg7S
import Derived.Shelf.SlSortCmp.NoneTotal
import Derived.Shelf.SlicesG.Cmp
import Derived.Shelf.Small.Bits
import Derived.Shelf.Lay
import Derived.Shelf.SlGeneric
import Derived.Ground.SlsfProg
import Derived.Ground.SlgcProg
import Derived.Ground.NamesProg
import Derived.Deep.RegionLaw
namespace Go.Proofs
open Go.Shelf Go.RowKit Go.Lib Go.Sort
shelf_lay_g SlLaysF0.n6 Slsf 6 at Try 60 as Try.sortCh
shelf_lay_g SlLaysC2.n5 Slgc 5 at Try 73 as Try.cmpInt
end Go.Proofs
namespace Go.Proofs.Ytkpnfonedfomaaa
open Go.ChangeShapes Go.WideShapes Go.ChangeAt Go.RowKit Go.Sort
set_option linter.unusedVariables false

abbrev cmpI (x y : Int) : Int := Lib.compareInt x y
/-- What compare says. -/
def cfC (x y : Ch) : Int := if cmpI x.1 y.1 = 0 then cmpI x.2 y.2 else cmpI x.1 y.1
theorem ltC (x y : Ch) : ltOf cfC x y = bef x y := by
  unfold ltOf cfC cmpI Lib.compareInt bef
  congr 1
  apply propext
  by_cases h1 : x.1 < y.1
  · simp [h1]
  · by_cases h2 : y.1 < x.1
    · simp [h1, h2]; omega
    · have h3 : x.1 = y.1 := by omega
      by_cases h4 : x.2 < y.2
      · simp [h3, h4]
      · by_cases h5 : y.2 < x.2 <;> simp [h3, h4, h5]
theorem swoC : Sort.SWO (ltOf cfC) where
  irrefl x := by rw [ltC, ← Bool.not_eq_true, bef_iff]; omega
  trans x y z h1 h2 := by rw [ltC, bef_iff] at *; omega
  ntrans x y z h1 h2 := by rw [ltC, ← Bool.not_eq_true, bef_iff] at *; omega
theorem totC (x y : Ch) (h1 : ltOf cfC x y = false) (h2 : ltOf cfC y x = false) : x = y := by
  rw [ltC, ← Bool.not_eq_true, bef_iff] at *
  exact Prod.ext (by omega) (by omega)
theorem leC_eq : (fun x y => !(ltOf cfC) y x) = leC := by funext x y; rw [ltC]; rfl

theorem cmpIntI (x y : Int) (w : World) : Calls Try.prog 73 #[.int .i64 x, .int .i64 y] w fun e w' => e = .returned (.int .i64 (cmpI x y)) ∧ w' = w := by
  have hcon := AnyG.cmp_Compare_int Try.cmpInt x y w
  change Calls Try.prog 73 _ _ _ at hcon
  exact hcon

set_option maxRecDepth 100000 in
set_option maxHeartbeats 1600000 in
theorem cmpOrI (x y : Int) (g : Nat) (w : World) (h0 : w.cell? ⟨g, 0, none⟩ = some (.int .i64 x)) (h1 : w.cell? ⟨g, 1, none⟩ = some (.int .i64 y)) :
    Calls Try.prog 72 #[.slice (some ⟨g, 0, none⟩) 2 2] w fun e w' => e = .returned (.int .i64 (if x = 0 then y else x)) ∧ w' = w := by
  by_cases hx : x = 0
  · rw [if_pos hx]
    subst hx
    by_cases hy : y = 0
    · subst hy
      go_enter Try.func72, Try.ntmps72
      go_wp2
      refine wp_loop_rounds 3 ?_
      rw [rounds_succ]
      go_wp2
      rw [rounds_succ]
      go_wp2
      rw [rounds_succ]
      go_wp2
      go_ret
      exact ⟨rfl, rfl⟩
    · have dy : (y != 0) = true := by simp [hy]
      go_enter Try.func72, Try.ntmps72
      go_wp2
      refine wp_loop_rounds 2 ?_
      rw [rounds_succ]
      go_wp2
      rw [rounds_succ]
      go_wp2
      go_ret
      exact ⟨rfl, rfl⟩
  · rw [if_neg hx]
    have dx : (x != 0) = true := by simp [hx]
    go_enter Try.func72, Try.ntmps72
    go_wp2
    refine wp_loop_rounds 1 ?_
    rw [rounds_succ]
    go_wp2
    go_ret
    exact ⟨rfl, rfl⟩

/-- A world with draws and blocks behind. -/
def Later (W w' : World) : Prop := ∃ q os, w' = grow (W.drewN q) os
theorem Later.below {W w' : World} (h : Later W w') : Below W.heap.size W w' := by
  obtain ⟨q, os, rfl⟩ := h
  refine (below_drewN (Below.refl W.heap.size W) q).trans ⟨rfl, rfl, rfl, by rw [size_grow]; exact Nat.le_add_right _ _, fun k hk => heap_grow_old _ _ (by simpa using hk)⟩

theorem later3 (w : World) (A B C : Obj) : Later w (((w.alloc A).alloc B).alloc C).drew :=
  ⟨1, #[A] ++ #[B] ++ #[C], by rw [alloc_eq_grow, alloc_eq_grow, alloc_eq_grow, grow_grow, grow_grow, drew_grow]; rfl⟩
set_option maxRecDepth 100000 in
set_option maxHeartbeats 3200000 in
theorem compareI (x y : Ch) (w : World) :
    Calls Try.prog 61 #[.agg #[.int .i64 x.1, .int .i64 x.2], .agg #[.int .i64 y.1, .int .i64 y.2]] w fun e w' => e = .returned (.int .i64 (cfC x y)) ∧ Later w w' := by
  have HR := Lib.hid (show (if cmpI x.1 y.1 = 0 then cmpI x.2 y.2 else cmpI x.1 y.1) = cfC x y from rfl)
  have HC1 := Lib.hid (fun W => cmpIntI x.1 y.1 W)
  have HC2 := Lib.hid (fun W => cmpIntI x.2 y.2 W)
  generalize cmpI x.1 y.1 = r1 at *
  generalize cmpI x.2 y.2 = r2 at *
  generalize cfC x y = r at *
  obtain ⟨a, b⟩ := x
  obtain ⟨c, d⟩ := y
  obtain ⟨W3, hW3⟩ : ∃ W3, W3 = (((w.alloc (.cells #[.int .i64 a, .int .i64 b] 42)).alloc (.cells #[.int .i64 c, .int .i64 d] 42)).alloc (.cells #[.int .i64 r1, .int .i64 r2] 3)) := ⟨_, rfl⟩
  have hs2 : ((w.alloc (.cells #[.int .i64 a, .int .i64 b] 42)).alloc (.cells #[.int .i64 c, .int .i64 d] 42)).heap.size = w.heap.size + 1 + 1 := by simp
  have HOR := Lib.hid (cmpOrI r1 r2 (w.heap.size + 1 + 1) W3.drew (by show W3.cell? _ = _; rw [hW3, World.cell?_alloc_at _ _ _ _ hs2.symm]; rfl) (by show W3.cell? _ = _; rw [hW3, World.cell?_alloc_at _ _ _ _ hs2.symm]; rfl))
  rw [hW3, HR.out] at HOR
  clear hs2 hW3
  go_enter Try.func61, Try.ntmps61
  go_wp2_with fail
  go_region_law (first | (go_simp; go_at_call 73; (first | (with_reducible refine (HC1.out _).mono ?_) | (with_reducible refine (HC2.out _).mono ?_)); rintro e w3 ⟨rfl, rfl⟩) | (go_simp; go_at_call 72; (with_reducible refine HOR.out.mono ?_); rintro e w3 ⟨rfl, rfl⟩))
  all_goals go_wp2
  all_goals go_ret
  all_goals exact ⟨rfl, later3 _ _ _ _⟩

theorem cmpLaysC (blk off size : Nat) (w : World) : CmpLays Try.prog 61 #[] enC 2 cfC blk off size w :=
  fun _ _ _ _ x y => compareI x y _

/-- slices.SortFunc at the diagonals of a polygon. -/
theorem sortChI (g : Nat) (n : Int) (cs : List Ch) (w : World) (h : Pg w g n cs.length (flF cs)) (hl : cs.length ≤ 7) :
    Calls Try.prog 60 #[.slice (some ⟨g, 2, none⟩) cs.length 7, .func (.func 61) #[] #[]] w fun e w' => e = .returned (.tuple #[]) ∧ Pg w' g n cs.length (flF (srt cs)) ∧ Onl g w w' := by
  have eg : ∀ args w, (callFunc 61 args).run Try.prog w = .ok (.enter 61 args) w := enters_of Try.func61 (by kernel_rfl) rfl
  have hcon := AnyQ.slices_SortFunc_total Try.sortCh 2 Try.isAgg42 Try.sizeOf42 enC (fun _ => rfl) (fun x v hv => by simp [enC] at hv; rcases hv with rfl | rfl <;> rfl) cfC swoC 61 #[] g 2 7 cs.toArray w eg (cmpLaysC g 2 _ w) (h.holds hl) h.lt (by simp; omega) totC
  change Calls Try.prog 60 _ _ _ at hcon
  rw [leC_eq] at hcon
  refine hcon.mono ?_
  rintro e w' ⟨rfl, q, os, rfl⟩
  refine ⟨rfl, ?_, sorted_onl (ds := srt cs) h.lt⟩
  have := h.sorted (q := q) (os := os) (ds := srt cs) hl (srt_len cs)
  rw [srt_len] at this
  exact this

end Go.Proofs.Ytkpnfonedfomaaa
