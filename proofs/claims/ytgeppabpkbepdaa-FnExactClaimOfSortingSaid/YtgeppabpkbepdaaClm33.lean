/- Claims of seven cells: in a box, equal. -/
import Derived.Test.YtgeppabpkbepdaaNil33
import Derived.Laws.ResultCell
import Derived.BigQuiet
import Derived.BigRegion
import Derived.Deep.RegionHeld3
namespace Go.Proofs.Ytgeppabpkbepdaa
open Go.ChangeShapes Go.WideShapes Go.ChangeAt Go.RowKit
set_option linter.unusedVariables false

/-- A claim without texts and rows. -/
abbrev clV (k : Int) (f : ByteArray) (u v : Value) : Value := .agg #[.int .i64 k, .string f, .string ⟨#[]⟩, .slice none 0 0, u, v, .slice none 0 0]
abbrev clO (k : Int) (f : ByteArray) (u v : Value) : Obj := .cells #[.int .i64 k, .string f, .string ⟨#[]⟩, .slice none 0 0, u, v, .slice none 0 0] 31
/-- The seven cells of a claim in a block. -/
structure Cl (W : World) (b : Nat) (k : Int) (f : ByteArray) (u v : Value) : Prop where
  c0 : W.cell? ⟨b, 0, none⟩ = some (.int .i64 k)
  c1 : W.cell? ⟨b, 1, none⟩ = some (.string f)
  c2 : W.cell? ⟨b, 2, none⟩ = some (.string ⟨#[]⟩)
  c3 : W.cell? ⟨b, 3, none⟩ = some (.slice none 0 0)
  c4 : W.cell? ⟨b, 4, none⟩ = some u
  c5 : W.cell? ⟨b, 5, none⟩ = some v
  c6 : W.cell? ⟨b, 6, none⟩ = some (.slice none 0 0)
  lt : b < W.heap.size
theorem Cl.start (w : World) (k : Int) (f : ByteArray) (u v : Value) : Cl (w.alloc (clO k f u v)) w.heap.size k f u v := by
  refine ⟨?_, ?_, ?_, ?_, ?_, ?_, ?_, by simp⟩ <;> (rw [World.cell?_alloc_at _ _ _ _ rfl]; rfl)
theorem Cl.keep {W w' : World} {b B : Nat} {k : Int} {f : ByteArray} {u v : Value} (h : Cl W b k f u v) (hb : Below B W w') (hB : b < B) : Cl w' b k f u v := by
  have := hb.size
  have h7 := h.lt
  exact ⟨(hb.cell (p := ⟨b, 0, none⟩) hB).trans h.c0, (hb.cell (p := ⟨b, 1, none⟩) hB).trans h.c1, (hb.cell (p := ⟨b, 2, none⟩) hB).trans h.c2, (hb.cell (p := ⟨b, 3, none⟩) hB).trans h.c3, (hb.cell (p := ⟨b, 4, none⟩) hB).trans h.c4, (hb.cell (p := ⟨b, 5, none⟩) hB).trans h.c5, (hb.cell (p := ⟨b, 6, none⟩) hB).trans h.c6, by omega⟩
theorem Cl.apart {W w' : World} {b lo hi : Nat} {k : Int} {f : ByteArray} {u v : Value} (h : Cl W b k f u v) (ha : Apart lo hi W w') (hd : b < lo ∨ hi ≤ b) : Cl w' b k f u v := by
  have := ha.size
  have h7 := h.lt
  have hc : ∀ j, w'.cell? ⟨b, j, none⟩ = W.cell? ⟨b, j, none⟩ := fun j => World.cell?_of_block (a := ⟨b, j, none⟩) (ha.block b hd)
  exact ⟨(hc 0).trans h.c0, (hc 1).trans h.c1, (hc 2).trans h.c2, (hc 3).trans h.c3, (hc 4).trans h.c4, (hc 5).trans h.c5, (hc 6).trans h.c6, by omega⟩

set_option maxRecDepth 100000 in
set_option maxHeartbeats 1600000 in
theorem eqClaim_same (k : Int) (f : ByteArray) (v1 v2 u1 u2 : Value) (xs ys : List Int) (l1 h1 l2 h2 l3 h3 l4 h4 : Nat) (w : World) (o1 : OwnI w l1 h1 v1 xs) (o2 : OwnI w l2 h2 v2 ys) (o3 : OwnI w l3 h3 u1 xs) (o4 : OwnI w l4 h4 u2 ys)
    (m1 : h1 ≤ w.heap.size) (m2 : h2 ≤ w.heap.size) (m3 : h3 ≤ w.heap.size) (m4 : h4 ≤ w.heap.size) (hx : xs.length ≤ 1048576) (hy : ys.length ≤ 1048576) :
    Calls Try.prog 12 #[clV k f v1 v2, clV k f u1 u2] w fun e w' => e = .returned (.bool true) ∧ Below w.heap.size w w' := by
  have hk1 : (k != k) = false := by simp
  have hk2 : (k == k) = true := by simp
  have hf1 : (f.toList != f.toList) = false := by simp
  have hf2 : (f.toList == f.toList) = true := by simp
  have hz1 : ((⟨#[]⟩ : ByteArray).toList != (⟨#[]⟩ : ByteArray).toList) = false := by simp
  have hz2 : ((⟨#[]⟩ : ByteArray).toList == (⟨#[]⟩ : ByteArray).toList) = true := by simp
  have HA := Lib.hid (Cl.start w k f v1 v2)
  have HB := Lib.hid (Cl.start (w.alloc (clO k f v1 v2)) k f u1 u2)
  have g1 : Below w.heap.size w (w.alloc (clO k f v1 v2)) := (Below.refl _ w).alloc (Nat.le_refl _) _
  have g2 : Below (w.heap.size + 1) (w.alloc (clO k f v1 v2)) ((w.alloc (clO k f v1 v2)).alloc (clO k f u1 u2)) := (Below.refl _ _).alloc (by simp) _
  have HA2 := Lib.hid (HA.out.keep g2 (Nat.lt_succ_self _))
  have e1 : (w.alloc (clO k f v1 v2)).heap.size = w.heap.size + 1 := by simp
  rw [e1] at HB
  have HG := Lib.hid (g1.trans (g2.mono (by omega)))
  have O1 := Lib.hid (o1.keep HG.out m1)
  have O2 := Lib.hid (o2.keep HG.out m2)
  have O3 := Lib.hid (o3.keep HG.out m3)
  have O4 := Lib.hid (o4.keep HG.out m4)
  have s2 : ((w.alloc (clO k f v1 v2)).alloc (clO k f u1 u2)).heap.size = w.heap.size + 2 := by simp
  clear o1 o2 o3 o4 HA g1 g2
  obtain ⟨a0, a1, a2, a3, a4, a5, a6, al⟩ := HA2.out
  obtain ⟨b0, b1, b2, b3, b4, b5, b6, bl⟩ := HB.out
  clear al bl
  go_enter Try.func12, Try.ntmps12
  go_wp2_with fail
  (with_reducible refine (eqStr0 _).mono ?_)
  rintro e w1 ⟨rfl, hw⟩
  subst hw
  go_wp2_with fail
  (with_reducible refine (eqI_same _ _ _ _ _ _ xs _ O1.out O3.out (by omega)).mono ?_)
  rintro e w2 ⟨rfl, hb⟩
  rw [s2] at hb
  have z2 := hb.size
  rw [s2] at z2
  clear a0 a1 a2 a3 a4 a5 a6 b0 b1 b2 b3 b4 b5 b6
  have HA3 := Lib.hid (HA2.out.keep hb (by omega))
  have HB3 := Lib.hid (HB.out.keep hb (by omega))
  have O2_2 := Lib.hid (O2.out.keep hb (by omega))
  have O4_2 := Lib.hid (O4.out.keep hb (by omega))
  have HG2 := Lib.hid (HG.out.trans (hb.mono (by omega)))
  clear hb
  obtain ⟨a0, a1, a2, a3, a4, a5, a6, al⟩ := HA3.out
  obtain ⟨b0, b1, b2, b3, b4, b5, b6, bl⟩ := HB3.out
  clear al bl
  go_wp2_with fail
  (with_reducible refine (eqI_same _ _ _ _ _ _ ys _ O2_2.out O4_2.out (by omega)).mono ?_)
  rintro e w3 ⟨rfl, hb⟩
  clear a0 a1 a2 a3 a4 a5 a6 b0 b1 b2 b3 b4 b5 b6
  have HA4 := Lib.hid (HA3.out.keep hb (by omega))
  have HB4 := Lib.hid (HB3.out.keep hb (by omega))
  have HG3 := Lib.hid (HG2.out.trans (hb.mono (by omega)))
  clear hb
  obtain ⟨a0, a1, a2, a3, a4, a5, a6, al⟩ := HA4.out
  obtain ⟨b0, b1, b2, b3, b4, b5, b6, bl⟩ := HB4.out
  clear al bl
  go_wp2_with fail
  (with_reducible refine (eqTab0 _).mono ?_)
  rintro e w4 ⟨rfl, hw⟩
  subst hw
  go_wp2
  go_ret
  exact ⟨rfl, HG3.out⟩

end Go.Proofs.Ytgeppabpkbepdaa
