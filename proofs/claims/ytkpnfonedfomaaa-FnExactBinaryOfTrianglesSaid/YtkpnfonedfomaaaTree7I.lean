/- The program's treeAt (written by tools/mk7t.py). -/
import Derived.Test.YtkpnfonedfomaaaImpl7G
import Derived.Test.YtkpnfonedfomaaaK6
import Derived.Deep.RegionHeld3
namespace Go.Proofs.Ytkpnfonedfomaaa
open Go.ChangeShapes Go.WideShapes Go.ChangeAt Go.RowKit
set_option linter.unusedVariables false

/-- The polygon's box and the boxes of two chords. -/
structure TA (n : Int) (cs : List Ch) (f m t : Int) (w : World) (bl br : Nat) (W : World) : Prop where
  pg : Pg W w.heap.size n cs.length (flF cs)
  l0 : W.cell? ⟨bl, 0, none⟩ = some (.int .i64 f)
  l1 : W.cell? ⟨bl, 1, none⟩ = some (.int .i64 m)
  r0 : W.cell? ⟨br, 0, none⟩ = some (.int .i64 m)
  r1 : W.cell? ⟨br, 1, none⟩ = some (.int .i64 t)
  b0 : W.cell? ⟨w.heap.size + 1, 0, none⟩ = some (.int .i64 f)
  b1 : W.cell? ⟨w.heap.size + 1, 1, none⟩ = some (.int .i64 t)
  ll : bl < W.heap.size
  lr : br < W.heap.size
  lb : w.heap.size + 1 < W.heap.size
  be : Below w.heap.size w W
theorem TA.call {n : Int} {cs : List Ch} {f m t : Int} {w : World} {bl br : Nat} {W W' : World} (h : TA n cs f m t w bl br W) (hb : Below W.heap.size W W') : TA n cs f m t w bl br W' := by
  have z := hb.size
  obtain ⟨h1, h2, h3, h4, h5, h6, h7, h8, h9, h10, h11⟩ := h
  exact ⟨h1.keep hb h1.lt, (hb.cell (p := ⟨bl, 0, none⟩) h8).trans h2, (hb.cell (p := ⟨bl, 1, none⟩) h8).trans h3, (hb.cell (p := ⟨br, 0, none⟩) h9).trans h4, (hb.cell (p := ⟨br, 1, none⟩) h9).trans h5, (hb.cell (p := ⟨w.heap.size + 1, 0, none⟩) h10).trans h6, (hb.cell (p := ⟨w.heap.size + 1, 1, none⟩) h10).trans h7, by omega, by omega, by omega, h11.trans (hb.mono (by omega))⟩
theorem TA.drew {n : Int} {cs : List Ch} {f m t : Int} {w : World} {bl br : Nat} {W : World} (h : TA n cs f m t w bl br W) : TA n cs f m t w bl br W.drew := h.call (Below.refl _ _).drew
def TS (n : Int) (cs : List Ch) (f m t : Int) (w : World) (bl br : Nat) (W : World) : Prop := W.cell? ⟨w.heap.size, 0, none⟩ = some (.int .i64 n) ∧ W.cell? ⟨w.heap.size, 1, none⟩ = some (.int .i64 (cs.length : Int)) ∧ W.cell? ⟨w.heap.size, 2, none⟩ = some (.int .i64 ((flF cs) 0)) ∧ W.cell? ⟨w.heap.size, 3, none⟩ = some (.int .i64 ((flF cs) 1)) ∧ W.cell? ⟨w.heap.size, 4, none⟩ = some (.int .i64 ((flF cs) 2)) ∧ W.cell? ⟨w.heap.size, 5, none⟩ = some (.int .i64 ((flF cs) 3)) ∧ W.cell? ⟨w.heap.size, 6, none⟩ = some (.int .i64 ((flF cs) 4)) ∧ W.cell? ⟨w.heap.size, 7, none⟩ = some (.int .i64 ((flF cs) 5)) ∧ W.cell? ⟨w.heap.size, 8, none⟩ = some (.int .i64 ((flF cs) 6)) ∧ W.cell? ⟨w.heap.size, 9, none⟩ = some (.int .i64 ((flF cs) 7)) ∧ W.cell? ⟨w.heap.size, 10, none⟩ = some (.int .i64 ((flF cs) 8)) ∧ W.cell? ⟨w.heap.size, 11, none⟩ = some (.int .i64 ((flF cs) 9)) ∧ W.cell? ⟨w.heap.size, 12, none⟩ = some (.int .i64 ((flF cs) 10)) ∧ W.cell? ⟨w.heap.size, 13, none⟩ = some (.int .i64 ((flF cs) 11)) ∧ W.cell? ⟨w.heap.size, 14, none⟩ = some (.int .i64 ((flF cs) 12)) ∧ W.cell? ⟨w.heap.size, 15, none⟩ = some (.int .i64 ((flF cs) 13)) ∧ W.cell? ⟨bl, 0, none⟩ = some (.int .i64 f) ∧ W.cell? ⟨bl, 1, none⟩ = some (.int .i64 m) ∧ W.cell? ⟨br, 0, none⟩ = some (.int .i64 m) ∧ W.cell? ⟨br, 1, none⟩ = some (.int .i64 t) ∧ TA n cs f m t w bl br W
theorem TA.out {n : Int} {cs : List Ch} {f m t : Int} {w : World} {bl br : Nat} {W : World} (h : TA n cs f m t w bl br W) : TS n cs f m t w bl br W := by
  obtain ⟨p0, p1, p2, p3, p4, p5, p6, p7, p8, p9, p10, p11, p12, p13, p14, p15⟩ := h.pg.all
  exact ⟨p0, p1, p2, p3, p4, p5, p6, p7, p8, p9, p10, p11, p12, p13, p14, p15, h.l0, h.l1, h.r0, h.r1, h⟩
theorem TS.ta {n : Int} {cs : List Ch} {f m t : Int} {w : World} {bl br : Nat} {W : World} (h : TS n cs f m t w bl br W) : TA n cs f m t w bl br W := by
  obtain ⟨-, -, -, -, -, -, -, -, -, -, -, -, -, -, -, -, -, -, -, -, h⟩ := h
  exact h
theorem TS.call {n : Int} {cs : List Ch} {f m t : Int} {w : World} {bl br : Nat} {W W' : World} (hb : Below W.heap.size W W') (h : TS n cs f m t w bl br W) : TS n cs f m t w bl br W' := (h.ta.call hb).out
theorem TS.drew {n : Int} {cs : List Ch} {f m t : Int} {w : World} {bl br : Nat} {W : World} (h : TS n cs f m t w bl br W) : TS n cs f m t w bl br W.drew := h.ta.drew.out
/-- The state of the loop: the polygon's box, the base's box. -/
structure TB (n : Int) (cs : List Ch) (f t : Int) (w W : World) : Prop where
  pg : Pg W w.heap.size n cs.length (flF cs)
  b0 : W.cell? ⟨w.heap.size + 1, 0, none⟩ = some (.int .i64 f)
  b1 : W.cell? ⟨w.heap.size + 1, 1, none⟩ = some (.int .i64 t)
  lb : w.heap.size + 1 < W.heap.size
  be : Below w.heap.size w W
theorem TB.call {n : Int} {cs : List Ch} {f t : Int} {w W W' : World} (h : TB n cs f t w W) (hb : Below W.heap.size W W') : TB n cs f t w W' := by
  have z := hb.size
  obtain ⟨h1, h6, h7, h10, h11⟩ := h
  exact ⟨h1.keep hb h1.lt, (hb.cell (p := ⟨w.heap.size + 1, 0, none⟩) h10).trans h6, (hb.cell (p := ⟨w.heap.size + 1, 1, none⟩) h10).trans h7, by omega, h11.trans (hb.mono (by omega))⟩
theorem TA.tb {n : Int} {cs : List Ch} {f m t : Int} {w : World} {bl br : Nat} {W : World} (h : TA n cs f m t w bl br W) : TB n cs f t w W := ⟨h.pg, h.b0, h.b1, h.lb, h.be⟩
theorem TB.start (n : Int) (cs : List Ch) (f t : Int) (w : World) : TB n cs f t w ((w.alloc (.cells (pgA n cs.length (flF cs)) 45)).alloc (.cells #[.int .i64 f, .int .i64 t] 42)) := by
  have hs : (w.alloc (.cells (pgA n cs.length (flF cs)) 45)).heap.size = w.heap.size + 1 := by simp
  exact ⟨(Pg.start w n cs.length (flF cs) 45).keep ((Below.refl (w.heap.size + 1) _).alloc (by simp) _) (Nat.lt_succ_self _), by rw [World.cell?_alloc_at _ _ _ _ hs.symm]; rfl, by rw [World.cell?_alloc_at _ _ _ _ hs.symm]; rfl, by simp, ((Below.refl w.heap.size w).alloc (Nat.le_refl _) _).alloc (by simp) _⟩
/-- Two boxes more, the left chord's first, or the right one's. -/
theorem TB.left {n : Int} {cs : List Ch} {f m t : Int} {w W : World} (h : TB n cs f t w W) : TA n cs f m t w W.heap.size (W.heap.size + 1) ((W.alloc (.cells #[.int .i64 f, .int .i64 m] 42)).alloc (.cells #[.int .i64 m, .int .i64 t] 42)).drew := by
  have hs : (W.alloc (.cells #[.int .i64 f, .int .i64 m] 42)).heap.size = W.heap.size + 1 := by simp
  have hb : Below W.heap.size W ((W.alloc (.cells #[.int .i64 f, .int .i64 m] 42)).alloc (.cells #[.int .i64 m, .int .i64 t] 42)).drew := (((Below.refl W.heap.size W).alloc (Nat.le_refl _) _).alloc (by simp) _).drew
  obtain ⟨h1, h2, h3, h4, h5⟩ := h.call hb
  have e0 : ∀ j, ((W.alloc (.cells #[.int .i64 f, .int .i64 m] 42)).alloc (.cells #[.int .i64 m, .int .i64 t] 42)).drew.cell? ⟨W.heap.size, j, none⟩ = (W.alloc (.cells #[.int .i64 f, .int .i64 m] 42)).cell? ⟨W.heap.size, j, none⟩ := fun j => World.cell?_alloc_lt _ _ ⟨W.heap.size, j, none⟩ (by show W.heap.size < (World.alloc _ _).heap.size; rw [hs]; exact Nat.lt_succ_self _)
  exact ⟨h1, by rw [e0, World.cell?_alloc_at _ _ _ _ rfl]; rfl, by rw [e0, World.cell?_alloc_at _ _ _ _ rfl]; rfl, by show (World.alloc _ _).cell? _ = _; rw [World.cell?_alloc_at _ _ _ _ hs.symm]; rfl, by show (World.alloc _ _).cell? _ = _; rw [World.cell?_alloc_at _ _ _ _ hs.symm]; rfl, h2, h3, by show _ < (World.alloc _ _).heap.size; simp; try omega, by show _ < (World.alloc _ _).heap.size; simp; try omega, h4, h5⟩
theorem TB.right {n : Int} {cs : List Ch} {f m t : Int} {w W : World} (h : TB n cs f t w W) : TA n cs f m t w (W.heap.size + 1) W.heap.size ((W.alloc (.cells #[.int .i64 m, .int .i64 t] 42)).alloc (.cells #[.int .i64 f, .int .i64 m] 42)).drew := by
  have hs : (W.alloc (.cells #[.int .i64 m, .int .i64 t] 42)).heap.size = W.heap.size + 1 := by simp
  have hb : Below W.heap.size W ((W.alloc (.cells #[.int .i64 m, .int .i64 t] 42)).alloc (.cells #[.int .i64 f, .int .i64 m] 42)).drew := (((Below.refl W.heap.size W).alloc (Nat.le_refl _) _).alloc (by simp) _).drew
  obtain ⟨h1, h2, h3, h4, h5⟩ := h.call hb
  have e0 : ∀ j, ((W.alloc (.cells #[.int .i64 m, .int .i64 t] 42)).alloc (.cells #[.int .i64 f, .int .i64 m] 42)).drew.cell? ⟨W.heap.size, j, none⟩ = (W.alloc (.cells #[.int .i64 m, .int .i64 t] 42)).cell? ⟨W.heap.size, j, none⟩ := fun j => World.cell?_alloc_lt _ _ ⟨W.heap.size, j, none⟩ (by show W.heap.size < (World.alloc _ _).heap.size; rw [hs]; exact Nat.lt_succ_self _)
  exact ⟨h1, by show (World.alloc _ _).cell? _ = _; rw [World.cell?_alloc_at _ _ _ _ hs.symm]; rfl, by show (World.alloc _ _).cell? _ = _; rw [World.cell?_alloc_at _ _ _ _ hs.symm]; rfl, by rw [e0, World.cell?_alloc_at _ _ _ _ rfl]; rfl, by rw [e0, World.cell?_alloc_at _ _ _ _ rfl]; rfl, h2, h3, by show _ < (World.alloc _ _).heap.size; simp; try omega, by show _ < (World.alloc _ _).heap.size; simp; try omega, h4, h5⟩

set_option maxRecDepth 100000 in
set_option maxHeartbeats 6400000 in
theorem treeAtI (n : Int) (cs : List Ch) (hl : cs.length ≤ 7) (hn : 0 ≤ n ∧ n ≤ 100) :
    ∀ (k : Nat) (f t : Int), 0 ≤ f → f < t → t ≤ 100 → t - f ≤ k → ∀ w : World, Calls Try.prog 44 #[pgV n cs.length (flF cs), .agg #[.int .i64 f, .int .i64 t]] w fun e w' => e = .returned (.iface (ty (trF (jnB n cs) k f t)) (body (trF (jnB n cs) k f t))) ∧ Below w.heap.size w w' := by
  intro k
  induction k with
  | zero => intro f t h0 h1 h2 h3; omega
  | succ k ih =>
    intro f t h0 h1 h2 h3 w
    have HIH := Lib.hid ih
    have HSI := Lib.hid (fun a b ha hb W => joinsI n a b cs W hl hn ha hb)
    obtain ⟨R, hR⟩ : ∃ R, thiP (jnB n cs) f t (t - f - 1).toNat (f + 1) = R := ⟨_, rfl⟩
    have HST := Lib.hid (fun m (hm : m < t) => thi_step (jnB n cs) f t hm)
    have HEN := Lib.hid (fun m (hm : ¬ m < t) => thi_end (jnB n cs) f t hm)
    have HLF := Lib.hid (show R = none → trF (jnB n cs) (k + 1) f t = .leaf from fun h => tr_leaf (by rw [hR]; exact h))
    have HND := Lib.hid (show ∀ m, R = some m → trF (jnB n cs) (k + 1) f t = .node (trF (jnB n cs) k f m) (trF (jnB n cs) k m t) from fun m h => tr_node (by rw [hR]; exact h))
    have HR0 := Lib.hid (show thiP (jnB n cs) f t (t - (f + 1)).toNat (f + 1) = R from by rw [show t - (f + 1) = t - f - 1 by omega]; exact hR)
    have HT0 := Lib.hid (TB.start n cs f t w)
    have hbd := bdLeaf
    have hmk := mkLeaf
    clear hR ih
    generalize jnB n cs = J at *
    obtain ⟨T, hT⟩ : ∃ T, trF J (k + 1) f t = T := ⟨_, rfl⟩
    rw [hT] at HLF HND
    rw [hT]
    clear hT
    go_enter Try.func44, Try.ntmps44
    go_wp2
    go_loopw [5] (fun x wr => ∃ m : Int, f + 1 ≤ m ∧ m ≤ t ∧ x = .int .i64 m ∧ TB n cs f t w wr ∧ thiP J f t (t - m).toNat m = R) (fun x _ => (t - intOf x).toNat)
    case atStart => exact ⟨f + 1, Int.le_refl _, by omega, rfl, HT0.out, HR0.out⟩
    case round =>
      obtain ⟨m, hm1, hm2, rfl, htb, hq⟩ := hrel
      have HQ := Lib.hid hq
      have HTB := Lib.hid htb
      have q0 := htb.b0
      have q1 := htb.b1
      have zlb := htb.lb
      clear hq htb HT0
      by_cases hlt : m < t
      · have HSM := Lib.hid ((HST.out m hlt).symm.trans HQ.out)
        have HS1 := Lib.hid (HSI.out f m ⟨by omega, by omega⟩ ⟨by omega, by omega⟩)
        have HS2 := Lib.hid (HSI.out m t ⟨by omega, by omega⟩ ⟨by omega, h2⟩)
        have HTL := Lib.hid (HTB.out.left (m := m))
        have HTR := Lib.hid (HTB.out.right (m := m))
        have hZ1 : ∀ o, Below wr.heap.size wr (wr.alloc o) := fun o => (Below.refl _ _).alloc (Nat.le_refl _) _
        have hZ2 : ∀ o o', Below wr.heap.size wr ((wr.alloc o).alloc o') := fun o o' => (hZ1 o).alloc (by simp) _
        have r0 := fun o => ((hZ1 o).cell (p := ⟨w.heap.size + 1, 0, none⟩) zlb).trans q0
        have r1 := fun o => ((hZ1 o).cell (p := ⟨w.heap.size + 1, 1, none⟩) zlb).trans q1
        have s0 := fun o o' => ((hZ2 o o').cell (p := ⟨w.heap.size + 1, 0, none⟩) zlb).trans q0
        have s1 := fun o o' => ((hZ2 o o').cell (p := ⟨w.heap.size + 1, 1, none⟩) zlb).trans q1
        clear hZ1 hZ2
        go_wp2
        obtain ⟨wo, hwo⟩ : ∃ wo, wo = wr := ⟨_, rfl⟩
        subst hwo
        go_region
        · have l0 := HTL.out.l0
          have l1 := HTL.out.l1
          have r0 := HTL.out.r0
          have r1 := HTL.out.r1
          go_wp2_with (refine wpLdPg rfl _ rfl _ _ _ _ HTL.out.pg rfl ?_)
          rcases j1 : J (f, m) with _ | _
          · rw [j1] at HS1 HSM
            have HNX := Lib.hid (show thiP J f t (t - (m + 1)).toNat (m + 1) = R from by simpa using HSM.out)
            clear j1 HSM
            (with_reducible refine (HS1.out _).mono ?_)
            rintro e w3 ⟨rfl, hb3⟩
            have HT3 := Lib.hid (HTL.out.call hb3).tb
            clear hb3 l0 l1 r0 r1
            go_wp2
            exact ⟨⟨m + 1, by omega, by omega, by simp, HT3.out, HNX.out⟩, by simp [intOf]; omega⟩
          · rw [j1] at HS1 HSM
            clear j1
            (with_reducible refine (HS1.out _).mono ?_)
            rintro e w3 ⟨rfl, hb3⟩
            have HT3 := Lib.hid (HTL.out.call hb3)
            clear hb3 l0 l1 r0 r1
            obtain ⟨p0, p1, p2, p3, p4, p5, p6, p7, p8, p9, p10, p11, p12, p13, p14, p15⟩ := HT3.out.pg.all
            have r0 := HT3.out.r0
            have r1 := HT3.out.r1
            go_wp2_with fail
            rcases j2 : J (m, t) with _ | _
            · rw [j2] at HS2 HSM
              have HNX := Lib.hid (show thiP J f t (t - (m + 1)).toNat (m + 1) = R from by simpa using HSM.out)
              clear j2 HSM
              (with_reducible refine (HS2.out _).mono ?_)
              rintro e w4 ⟨rfl, hb4⟩
              have HT4 := Lib.hid (HT3.out.call hb4).tb
              clear hb4 r0 r1 p0 p1 p2 p3 p4 p5 p6 p7 p8 p9 p10 p11 p12 p13 p14 p15
              go_wp2
              exact ⟨⟨m + 1, by omega, by omega, by simp, HT4.out, HNX.out⟩, by simp [intOf]; omega⟩
            · rw [j2] at HS2 HSM
              have HSO := Lib.hid (show R = some m from by simpa using HSM.out.symm)
              have HT := Lib.hid (HND.out m HSO.out)
              have HC1 := Lib.hid (fun W => HIH.out f m h0 (by omega) (by omega) (by omega) W)
              have HC2 := Lib.hid (fun W => HIH.out m t (by omega) hlt h2 (by omega) W)
              clear j2 HSM HSO
              generalize trF J k f m = a at *
              generalize trF J k m t = b at *
              have HB0 := Lib.hid (show body (.node a b) = .agg #[.iface (ty a) (body a), .iface (ty b) (body b)] from rfl)
              generalize ty a = Ta at *
              generalize ty b = Tb at *
              generalize body a = Va at *
              generalize body b = Vb at *
              (with_reducible refine (HS2.out _).mono ?_)
              rintro e w4 ⟨rfl, hb4⟩
              have HS4 := Lib.hid (HT3.out.call hb4).out
              clear hb4 r0 r1 p0 p1 p2 p3 p4 p5 p6 p7 p8 p9 p10 p11 p12 p13 p14 p15
              go_wp2
              as_aux_lemma =>
                go_region_held3 (fun W => W.cell? ⟨w.heap.size, 0, none⟩ = some (.int .i64 n) ∧ W.cell? ⟨w.heap.size, 1, none⟩ = some (.int .i64 (cs.length : Int)) ∧ W.cell? ⟨w.heap.size, 2, none⟩ = some (.int .i64 ((flF cs) 0)) ∧ W.cell? ⟨w.heap.size, 3, none⟩ = some (.int .i64 ((flF cs) 1)) ∧ W.cell? ⟨w.heap.size, 4, none⟩ = some (.int .i64 ((flF cs) 2)) ∧ W.cell? ⟨w.heap.size, 5, none⟩ = some (.int .i64 ((flF cs) 3)) ∧ W.cell? ⟨w.heap.size, 6, none⟩ = some (.int .i64 ((flF cs) 4)) ∧ W.cell? ⟨w.heap.size, 7, none⟩ = some (.int .i64 ((flF cs) 5)) ∧ W.cell? ⟨w.heap.size, 8, none⟩ = some (.int .i64 ((flF cs) 6)) ∧ W.cell? ⟨w.heap.size, 9, none⟩ = some (.int .i64 ((flF cs) 7)) ∧ W.cell? ⟨w.heap.size, 10, none⟩ = some (.int .i64 ((flF cs) 8)) ∧ W.cell? ⟨w.heap.size, 11, none⟩ = some (.int .i64 ((flF cs) 9)) ∧ W.cell? ⟨w.heap.size, 12, none⟩ = some (.int .i64 ((flF cs) 10)) ∧ W.cell? ⟨w.heap.size, 13, none⟩ = some (.int .i64 ((flF cs) 11)) ∧ W.cell? ⟨w.heap.size, 14, none⟩ = some (.int .i64 ((flF cs) 12)) ∧ W.cell? ⟨w.heap.size, 15, none⟩ = some (.int .i64 ((flF cs) 13)) ∧ W.cell? ⟨wo.heap.size, 0, none⟩ = some (.int .i64 f) ∧ W.cell? ⟨wo.heap.size, 1, none⟩ = some (.int .i64 m) ∧ W.cell? ⟨(wo.heap.size + 1), 0, none⟩ = some (.int .i64 m) ∧ W.cell? ⟨(wo.heap.size + 1), 1, none⟩ = some (.int .i64 t) ∧ TA n cs f m t w wo.heap.size (wo.heap.size + 1) W)
                  (first | exact HS4.out | exact TS.drew (by first | assumption | exact HS4.out) | exact TS.call (by assumption) (by first | assumption | exact HS4.out | exact TS.drew HS4.out | exact TS.drew (by assumption)))
                  (first | ((with_reducible refine (HC1.out _).mono ?_); rintro e w' ⟨rfl, hb⟩) | ((with_reducible refine (HC2.out _).mono ?_); rintro e w' ⟨rfl, hb⟩))
                all_goals go_wp2
                all_goals go_ret
                all_goals exact ⟨by rw [HT.out, HB0.out]; rfl, (TS.ta (n := n) (cs := cs) (f := f) (m := m) (t := t) (w := w) (bl := wo.heap.size) (br := (wo.heap.size + 1)) (by assumption)).be⟩
        · have l0 := HTR.out.l0
          have l1 := HTR.out.l1
          have r0 := HTR.out.r0
          have r1 := HTR.out.r1
          go_wp2_with (refine wpLdPg rfl _ rfl _ _ _ _ HTR.out.pg rfl ?_)
          rcases j1 : J (f, m) with _ | _
          · rw [j1] at HS1 HSM
            have HNX := Lib.hid (show thiP J f t (t - (m + 1)).toNat (m + 1) = R from by simpa using HSM.out)
            clear j1 HSM
            (with_reducible refine (HS1.out _).mono ?_)
            rintro e w3 ⟨rfl, hb3⟩
            have HT3 := Lib.hid (HTR.out.call hb3).tb
            clear hb3 l0 l1 r0 r1
            go_wp2
            exact ⟨⟨m + 1, by omega, by omega, by simp, HT3.out, HNX.out⟩, by simp [intOf]; omega⟩
          · rw [j1] at HS1 HSM
            clear j1
            (with_reducible refine (HS1.out _).mono ?_)
            rintro e w3 ⟨rfl, hb3⟩
            have HT3 := Lib.hid (HTR.out.call hb3)
            clear hb3 l0 l1 r0 r1
            obtain ⟨p0, p1, p2, p3, p4, p5, p6, p7, p8, p9, p10, p11, p12, p13, p14, p15⟩ := HT3.out.pg.all
            have r0 := HT3.out.r0
            have r1 := HT3.out.r1
            go_wp2_with fail
            rcases j2 : J (m, t) with _ | _
            · rw [j2] at HS2 HSM
              have HNX := Lib.hid (show thiP J f t (t - (m + 1)).toNat (m + 1) = R from by simpa using HSM.out)
              clear j2 HSM
              (with_reducible refine (HS2.out _).mono ?_)
              rintro e w4 ⟨rfl, hb4⟩
              have HT4 := Lib.hid (HT3.out.call hb4).tb
              clear hb4 r0 r1 p0 p1 p2 p3 p4 p5 p6 p7 p8 p9 p10 p11 p12 p13 p14 p15
              go_wp2
              exact ⟨⟨m + 1, by omega, by omega, by simp, HT4.out, HNX.out⟩, by simp [intOf]; omega⟩
            · rw [j2] at HS2 HSM
              have HSO := Lib.hid (show R = some m from by simpa using HSM.out.symm)
              have HT := Lib.hid (HND.out m HSO.out)
              have HC1 := Lib.hid (fun W => HIH.out f m h0 (by omega) (by omega) (by omega) W)
              have HC2 := Lib.hid (fun W => HIH.out m t (by omega) hlt h2 (by omega) W)
              clear j2 HSM HSO
              generalize trF J k f m = a at *
              generalize trF J k m t = b at *
              have HB0 := Lib.hid (show body (.node a b) = .agg #[.iface (ty a) (body a), .iface (ty b) (body b)] from rfl)
              generalize ty a = Ta at *
              generalize ty b = Tb at *
              generalize body a = Va at *
              generalize body b = Vb at *
              (with_reducible refine (HS2.out _).mono ?_)
              rintro e w4 ⟨rfl, hb4⟩
              have HS4 := Lib.hid (HT3.out.call hb4).out
              clear hb4 r0 r1 p0 p1 p2 p3 p4 p5 p6 p7 p8 p9 p10 p11 p12 p13 p14 p15
              go_wp2
              as_aux_lemma =>
                go_region_held3 (fun W => W.cell? ⟨w.heap.size, 0, none⟩ = some (.int .i64 n) ∧ W.cell? ⟨w.heap.size, 1, none⟩ = some (.int .i64 (cs.length : Int)) ∧ W.cell? ⟨w.heap.size, 2, none⟩ = some (.int .i64 ((flF cs) 0)) ∧ W.cell? ⟨w.heap.size, 3, none⟩ = some (.int .i64 ((flF cs) 1)) ∧ W.cell? ⟨w.heap.size, 4, none⟩ = some (.int .i64 ((flF cs) 2)) ∧ W.cell? ⟨w.heap.size, 5, none⟩ = some (.int .i64 ((flF cs) 3)) ∧ W.cell? ⟨w.heap.size, 6, none⟩ = some (.int .i64 ((flF cs) 4)) ∧ W.cell? ⟨w.heap.size, 7, none⟩ = some (.int .i64 ((flF cs) 5)) ∧ W.cell? ⟨w.heap.size, 8, none⟩ = some (.int .i64 ((flF cs) 6)) ∧ W.cell? ⟨w.heap.size, 9, none⟩ = some (.int .i64 ((flF cs) 7)) ∧ W.cell? ⟨w.heap.size, 10, none⟩ = some (.int .i64 ((flF cs) 8)) ∧ W.cell? ⟨w.heap.size, 11, none⟩ = some (.int .i64 ((flF cs) 9)) ∧ W.cell? ⟨w.heap.size, 12, none⟩ = some (.int .i64 ((flF cs) 10)) ∧ W.cell? ⟨w.heap.size, 13, none⟩ = some (.int .i64 ((flF cs) 11)) ∧ W.cell? ⟨w.heap.size, 14, none⟩ = some (.int .i64 ((flF cs) 12)) ∧ W.cell? ⟨w.heap.size, 15, none⟩ = some (.int .i64 ((flF cs) 13)) ∧ W.cell? ⟨(wo.heap.size + 1), 0, none⟩ = some (.int .i64 f) ∧ W.cell? ⟨(wo.heap.size + 1), 1, none⟩ = some (.int .i64 m) ∧ W.cell? ⟨wo.heap.size, 0, none⟩ = some (.int .i64 m) ∧ W.cell? ⟨wo.heap.size, 1, none⟩ = some (.int .i64 t) ∧ TA n cs f m t w (wo.heap.size + 1) wo.heap.size W)
                  (first | exact HS4.out | exact TS.drew (by first | assumption | exact HS4.out) | exact TS.call (by assumption) (by first | assumption | exact HS4.out | exact TS.drew HS4.out | exact TS.drew (by assumption)))
                  (first | ((with_reducible refine (HC1.out _).mono ?_); rintro e w' ⟨rfl, hb⟩) | ((with_reducible refine (HC2.out _).mono ?_); rintro e w' ⟨rfl, hb⟩))
                all_goals go_wp2
                all_goals go_ret
                all_goals exact ⟨by rw [HT.out, HB0.out]; rfl, (TS.ta (n := n) (cs := cs) (f := f) (m := m) (t := t) (w := w) (bl := (wo.heap.size + 1)) (br := wo.heap.size) (by assumption)).be⟩
      · obtain rfl : m = t := by omega
        have HN := Lib.hid (show R = none from by
          have := HEN.out m (by omega)
          rw [← HQ.out]; exact this)
        have HT := Lib.hid (HLF.out HN.out)
        have HBE := Lib.hid HTB.out.be
        go_wp2
        go_ret
        exact ⟨by rw [HT.out]; rfl, HBE.out⟩

end Go.Proofs.Ytkpnfonedfomaaa
