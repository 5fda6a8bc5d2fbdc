/- The program's polygons: joins (written by tools/mk7c.py). -/
import Derived.Test.YtkpnfonedfomaaaImpl7B
import Derived.Deep.RegionLaw
namespace Go.Proofs.Ytkpnfonedfomaaa
open Go.ChangeShapes Go.WideShapes Go.ChangeAt Go.RowKit
set_option linter.unusedVariables false

/-- The two boxes of joins. -/
def Jn (n : Int) (cs : List Ch) (a b : Int) (w W : World) : Prop := W.cell? ⟨w.heap.size, 0, none⟩ = some (.int .i64 n) ∧ W.cell? ⟨w.heap.size, 1, none⟩ = some (.int .i64 (cs.length : Int)) ∧ W.cell? ⟨w.heap.size, 2, none⟩ = some (.int .i64 ((flF cs) 0)) ∧ W.cell? ⟨w.heap.size, 3, none⟩ = some (.int .i64 ((flF cs) 1)) ∧ W.cell? ⟨w.heap.size, 4, none⟩ = some (.int .i64 ((flF cs) 2)) ∧ W.cell? ⟨w.heap.size, 5, none⟩ = some (.int .i64 ((flF cs) 3)) ∧ W.cell? ⟨w.heap.size, 6, none⟩ = some (.int .i64 ((flF cs) 4)) ∧ W.cell? ⟨w.heap.size, 7, none⟩ = some (.int .i64 ((flF cs) 5)) ∧ W.cell? ⟨w.heap.size, 8, none⟩ = some (.int .i64 ((flF cs) 6)) ∧ W.cell? ⟨w.heap.size, 9, none⟩ = some (.int .i64 ((flF cs) 7)) ∧ W.cell? ⟨w.heap.size, 10, none⟩ = some (.int .i64 ((flF cs) 8)) ∧ W.cell? ⟨w.heap.size, 11, none⟩ = some (.int .i64 ((flF cs) 9)) ∧ W.cell? ⟨w.heap.size, 12, none⟩ = some (.int .i64 ((flF cs) 10)) ∧ W.cell? ⟨w.heap.size, 13, none⟩ = some (.int .i64 ((flF cs) 11)) ∧ W.cell? ⟨w.heap.size, 14, none⟩ = some (.int .i64 ((flF cs) 12)) ∧ W.cell? ⟨w.heap.size, 15, none⟩ = some (.int .i64 ((flF cs) 13)) ∧ W.cell? ⟨w.heap.size + 1, 0, none⟩ = some (.int .i64 a) ∧ W.cell? ⟨w.heap.size + 1, 1, none⟩ = some (.int .i64 b) ∧ Below w.heap.size w W ∧ w.heap.size + 1 < W.heap.size
theorem Jn.start (n : Int) (cs : List Ch) (a b : Int) (w : World) : Jn n cs a b w ((w.alloc (.cells (pgA n cs.length (flF cs)) 45)).alloc (.cells #[.int .i64 a, .int .i64 b] 42)) := by
  have h := (Pg.start w n cs.length (flF cs) 45).keep ((Below.refl (w.heap.size + 1) _).alloc (by simp) (.cells #[.int .i64 a, .int .i64 b] 42)) (Nat.lt_succ_self _)
  have hs : (w.alloc (.cells (pgA n cs.length (flF cs)) 45)).heap.size = w.heap.size + 1 := by simp
  obtain ⟨p0, p1, p2, p3, p4, p5, p6, p7, p8, p9, p10, p11, p12, p13, p14, p15⟩ := h.all
  exact ⟨p0, p1, p2, p3, p4, p5, p6, p7, p8, p9, p10, p11, p12, p13, p14, p15, by rw [World.cell?_alloc_at _ _ _ _ hs.symm]; rfl, by rw [World.cell?_alloc_at _ _ _ _ hs.symm]; rfl, ((Below.refl w.heap.size w).alloc (Nat.le_refl _) _).alloc (by simp) _, by simp⟩
theorem Jn.call {n : Int} {cs : List Ch} {a b : Int} {w W w' : World} (hb : Below W.heap.size W w') (h : Jn n cs a b w W) : Jn n cs a b w w' := by
  obtain ⟨p0, p1, p2, p3, p4, p5, p6, p7, p8, p9, p10, p11, p12, p13, p14, p15, q0, q1, hB, hs⟩ := h
  have z := hb.size
  have k : ∀ j, w'.cell? ⟨w.heap.size, j, none⟩ = W.cell? ⟨w.heap.size, j, none⟩ := fun j => hb.cell (p := ⟨w.heap.size, j, none⟩) (by show w.heap.size < _; omega)
  have k1 : ∀ j, w'.cell? ⟨w.heap.size + 1, j, none⟩ = W.cell? ⟨w.heap.size + 1, j, none⟩ := fun j => hb.cell (p := ⟨w.heap.size + 1, j, none⟩) (by show w.heap.size + 1 < _; omega)
  exact ⟨(k 0).trans p0, (k 1).trans p1, (k 2).trans p2, (k 3).trans p3, (k 4).trans p4, (k 5).trans p5, (k 6).trans p6, (k 7).trans p7, (k 8).trans p8, (k 9).trans p9, (k 10).trans p10, (k 11).trans p11, (k 12).trans p12, (k 13).trans p13, (k 14).trans p14, (k 15).trans p15, (k1 0).trans q0, (k1 1).trans q1, hB.trans (hb.mono (by omega)), by omega⟩
theorem Jn.drew {n : Int} {cs : List Ch} {a b : Int} {w W : World} (h : Jn n cs a b w W) : Jn n cs a b w W.drew := h.call (Below.refl _ _).drew

/-- slices.Contains at the diagonals of a polygon. -/
theorem contI (g : Nat) (n : Int) (cs : List Ch) (a b : Int) (w : World) (h : Pg w g n cs.length (flF cs)) (hl : cs.length ≤ 7) :
    Calls Try.prog 62 #[.slice (some ⟨g, 2, none⟩) cs.length 7, .agg #[.int .i64 a, .int .i64 b]] w fun e w' => e = .returned (.bool (cs.any fun y => decide (y = (a, b)))) ∧ Below w.heap.size w w' := by
  have hcon := AnyQ.slices_Contains Try.contCh 2 Try.isAgg42 Try.sizeOf42 enC (fun _ => rfl) (fun x y => x.1 == y.1 && x.2 == y.2) ⟨fun x y w => eqlC x.1 x.2 y.1 y.2 w, GuardAt.agg _ (by kernel_rfl)⟩ g 2 cs.length 7 cs (a, b) w (Nat.le_refl _) (by omega) (fun j hj i v hv => by
    have hi : i < 2 := by
      have := (List.getElem?_eq_some_iff.1 hv).1
      exact this
    have e : cs[j]! = cs.getD j (0, 0) := by rw [getElem!_pos cs j hj, List.getD_eq_getElem?_getD, List.getElem?_eq_getElem hj]; rfl
    rw [e] at hv
    have hf := h.cs (j * 2 + i) (by omega)
    rw [← Nat.add_assoc] at hf
    rw [hf]
    unfold flF
    match i, hi, hv with
    | 0, _, hv => rw [if_pos (by omega), show (j * 2 + 0) / 2 = j by omega]; exact hv
    | 1, _, hv => rw [if_neg (by omega), show (j * 2 + 1) / 2 = j by omega]; exact hv)
  change Calls Try.prog 62 _ _ _ at hcon
  refine hcon.mono ?_
  rintro e w' ⟨rfl, hb⟩
  refine ⟨?_, hb⟩
  rw [List.take_length]
  congr 2
  apply congrArg
  funext y
  rw [Bool.eq_iff_iff, Bool.and_eq_true, beq_iff_eq, beq_iff_eq, decide_eq_true_iff]
  exact ⟨fun h => Prod.ext h.1.symm h.2.symm, fun h => by rw [h]; exact ⟨rfl, rfl⟩⟩
theorem chordsB (n : Int) (cs : List Ch) (w : World) (hl : cs.length ≤ 7) : Calls Try.prog 48 #[pgV n cs.length (flF cs)] w fun e w' => e = .returned (.slice (some ⟨w.heap.size, 2, none⟩) cs.length 7) ∧ Below w.heap.size w w' ∧ Pg w' w.heap.size n cs.length (flF cs) :=
  (chordsI n cs.length (flF cs) w hl).mono fun _ _ h => ⟨h.1, by rw [h.2]; exact (Below.refl _ _).alloc (Nat.le_refl _) _, by rw [h.2]; exact Pg.start w n cs.length (flF cs) _⟩

set_option maxRecDepth 100000 in
set_option maxHeartbeats 6400000 in
theorem joinsI (n a b : Int) (cs : List Ch) (w : World) (hl : cs.length ≤ 7) (hn : 0 ≤ n ∧ n ≤ 100) (ha : -100 ≤ a ∧ a ≤ 100) (hb : -100 ≤ b ∧ b ≤ 100) :
    Calls Try.prog 46 #[pgV n cs.length (flF cs), .agg #[.int .i64 a, .int .i64 b]] w fun e w' => e = .returned (.bool (jnB n cs (a, b))) ∧ Below w.heap.size w w' := by
  have HS := Lib.hid (Jn.start n cs a b w)
  have HSD := Lib.hid (fun W => isSideI n cs.length a b (flF cs) W hn ha hb)
  have HCH := Lib.hid (fun W => chordsB n cs W hl)
  have HCO := Lib.hid (fun g W (h : Pg W g n cs.length (flF cs)) => contI g n cs a b W h hl)
  rcases hs : sideB n (a, b) with _ | _
  · rw [hs] at HSD
    have HR := Lib.hid (show (cs.any fun y => decide (y = (a, b))) = jnB n cs (a, b) by unfold jnB; rw [hs]; rfl)
    rw [HR.out] at HCO
    clear hs
    go_enter Try.func46, Try.ntmps46
    go_wp2
    have HD := Lib.hid (Jn.drew HS.out)
    go_region_law (first | (go_simp; go_at_call 59; (with_reducible refine (HSD.out _).mono ?_); rintro e w3 ⟨rfl, hb3⟩; have HJ3 := Lib.hid (Jn.call hb3 HD.out); obtain ⟨p0, p1, p2, p3, p4, p5, p6, p7, p8, p9, p10, p11, p12, p13, p14, p15, q0, q1, -, -⟩ := HJ3.out; clear hb3) | (go_simp; go_at_call 48; (with_reducible refine (HCH.out _).mono ?_); rintro e w4 ⟨rfl, hb4, hpg⟩; have HJ4 := Lib.hid (Jn.call hb4 HJ3.out); have HPG := Lib.hid hpg; obtain ⟨-, -, -, -, -, -, -, -, -, -, -, -, -, -, -, -, q2, q3, -, -⟩ := HJ4.out; clear hb4 hpg) | (go_simp; go_at_call 62; (with_reducible refine (HCO.out _ _ HPG.out).mono ?_); rintro e w5 ⟨rfl, hb5⟩; have HJ5 := Lib.hid (Jn.call hb5 HJ4.out)))
    all_goals go_wp2
    all_goals go_ret
    all_goals exact ⟨rfl, HJ5.out.2.2.2.2.2.2.2.2.2.2.2.2.2.2.2.2.2.2.1⟩
  · rw [hs] at HSD
    have HR := Lib.hid (show true = jnB n cs (a, b) by unfold jnB; rw [hs]; rfl)
    clear hs
    go_enter Try.func46, Try.ntmps46
    go_wp2
    have HD := Lib.hid (Jn.drew HS.out)
    go_region_law (go_simp; go_at_call 59; (with_reducible refine (HSD.out _).mono ?_); rintro e w3 ⟨rfl, hb3⟩; have HJ5 := Lib.hid (Jn.call hb3 HD.out))
    all_goals go_wp2
    all_goals go_ret
    all_goals exact ⟨congrArg (fun x => Ending.returned (Value.bool x)) HR.out, HJ5.out.2.2.2.2.2.2.2.2.2.2.2.2.2.2.2.2.2.2.1⟩

end Go.Proofs.Ytkpnfonedfomaaa
