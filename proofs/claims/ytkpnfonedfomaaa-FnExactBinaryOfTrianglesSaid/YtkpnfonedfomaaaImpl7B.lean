/- The program's polygons: inOrder, isCutWell, rows, joins. -/
import Derived.Test.YtkpnfonedfomaaaSrt7
import Derived.Shelf.SlicesQ.Contains
import Derived.Ground.SlgqProg
import Derived.BigQuiet
import Derived.Deep.RegionHeld3
namespace Go.Proofs
open Go.Shelf Go.RowKit Go.Lib Go.Sort
shelf_lay_g SlLaysQ.n7 Slgq 7 at Try 62 as Try.contCh
end Go.Proofs
namespace Go.Proofs.Ytkpnfonedfomaaa
open Go.ChangeShapes Go.WideShapes Go.ChangeAt Go.RowKit
set_option linter.unusedVariables false

/-- A whole polygon stored. -/
abbrev pgSt (W : World) (b : Nat) (n m : Int) (f : Nat → Int) : World := ((((((((((((((((W.setCell ⟨b, 0, none⟩ (.int .i64 n)).setCell ⟨b, 1, none⟩ (.int .i64 m)).setCell ⟨b, 2, none⟩ (.int .i64 (f 0))).setCell ⟨b, 3, none⟩ (.int .i64 (f 1))).setCell ⟨b, 4, none⟩ (.int .i64 (f 2))).setCell ⟨b, 5, none⟩ (.int .i64 (f 3))).setCell ⟨b, 6, none⟩ (.int .i64 (f 4))).setCell ⟨b, 7, none⟩ (.int .i64 (f 5))).setCell ⟨b, 8, none⟩ (.int .i64 (f 6))).setCell ⟨b, 9, none⟩ (.int .i64 (f 7))).setCell ⟨b, 10, none⟩ (.int .i64 (f 8))).setCell ⟨b, 11, none⟩ (.int .i64 (f 9))).setCell ⟨b, 12, none⟩ (.int .i64 (f 10))).setCell ⟨b, 13, none⟩ (.int .i64 (f 11))).setCell ⟨b, 14, none⟩ (.int .i64 (f 12))).setCell ⟨b, 15, none⟩ (.int .i64 (f 13)))
theorem Pg.head {W : World} {b : Nat} {n m : Int} {f : Nat → Int} (h : Pg W b n m f) (y : Int) : Pg (W.setCell ⟨b, 0, none⟩ (.int .i64 y)) b y m f := by
  refine ⟨by simpa [World.setCell] using h.lt, World.cell?_setCell_same W _ _ h.c0, ?_, fun j hj => ?_, fun j hj => by rw [World.frozen?_setCell]; exact h.fz j hj⟩
  · exact (World.cell?_setCell_other W _ _ _ (fun h => by have := congrArg Addr.off h; simp at this)).trans h.c1
  · exact (World.cell?_setCell_other W _ _ _ (fun h => by have := congrArg Addr.off h; simp at this; omega)).trans (h.cs j hj)
theorem Pg.put {W : World} {b : Nat} {n m n' m' : Int} {f f' : Nat → Int} (h : Pg W b n' m' f') : Pg (pgSt W b n m f) b n m f := by
  have h0 := (h.head n).count m
  have h1 := h0.set (k := 0) (by omega) (f 0)
  have h2 := h1.set (k := 1) (by omega) (f 1)
  have h3 := h2.set (k := 2) (by omega) (f 2)
  have h4 := h3.set (k := 3) (by omega) (f 3)
  have h5 := h4.set (k := 4) (by omega) (f 4)
  have h6 := h5.set (k := 5) (by omega) (f 5)
  have h7 := h6.set (k := 6) (by omega) (f 6)
  have h8 := h7.set (k := 7) (by omega) (f 7)
  have h9 := h8.set (k := 8) (by omega) (f 8)
  have h10 := h9.set (k := 9) (by omega) (f 9)
  have h11 := h10.set (k := 10) (by omega) (f 10)
  have h12 := h11.set (k := 11) (by omega) (f 11)
  have h13 := h12.set (k := 12) (by omega) (f 12)
  have h14 := h13.set (k := 13) (by omega) (f 13)
  refine h14.of fun j hj => ?_
  match j, hj with
  | 0, _ => rfl
  | 1, _ => rfl
  | 2, _ => rfl
  | 3, _ => rfl
  | 4, _ => rfl
  | 5, _ => rfl
  | 6, _ => rfl
  | 7, _ => rfl
  | 8, _ => rfl
  | 9, _ => rfl
  | 10, _ => rfl
  | 11, _ => rfl
  | 12, _ => rfl
  | 13, _ => rfl
theorem setCell_onl (W : World) (g q : Nat) (v : Value) : Onl g W (W.setCell ⟨g, q, none⟩ v) :=
  ⟨fun B hB => (Below.refl B W).setCell (p := ⟨g, q, none⟩) hB _, fun k hk hne => Below.heap_setCell W ⟨g, q, none⟩ v k (by show k ≠ g; exact hne)⟩
theorem pgSt_onl (W : World) (b : Nat) (n m : Int) (f : Nat → Int) : Onl b W (pgSt W b n m f) :=
  ((((((((((((((((setCell_onl W b 0 _).trans (setCell_onl _ b 1 _)).trans (setCell_onl _ b 2 _)).trans (setCell_onl _ b 3 _)).trans (setCell_onl _ b 4 _)).trans (setCell_onl _ b 5 _)).trans (setCell_onl _ b 6 _)).trans (setCell_onl _ b 7 _)).trans (setCell_onl _ b 8 _)).trans (setCell_onl _ b 9 _)).trans (setCell_onl _ b 10 _)).trans (setCell_onl _ b 11 _)).trans (setCell_onl _ b 12 _)).trans (setCell_onl _ b 13 _)).trans (setCell_onl _ b 14 _)).trans (setCell_onl _ b 15 _))
theorem pg_store {W : World} {b : Nat} {n' m' : Int} {f' : Nat → Int} (n m : Int) (f : Nat → Int) (h : Pg W b n' m' f') : ∃ w4, w4 = ((((((((((((((((W.setCell ⟨b, 0, none⟩ (.int .i64 n)).setCell ⟨b, 1, none⟩ (.int .i64 m)).setCell ⟨b, 2, none⟩ (.int .i64 (f 0))).setCell ⟨b, 3, none⟩ (.int .i64 (f 1))).setCell ⟨b, 4, none⟩ (.int .i64 (f 2))).setCell ⟨b, 5, none⟩ (.int .i64 (f 3))).setCell ⟨b, 6, none⟩ (.int .i64 (f 4))).setCell ⟨b, 7, none⟩ (.int .i64 (f 5))).setCell ⟨b, 8, none⟩ (.int .i64 (f 6))).setCell ⟨b, 9, none⟩ (.int .i64 (f 7))).setCell ⟨b, 10, none⟩ (.int .i64 (f 8))).setCell ⟨b, 11, none⟩ (.int .i64 (f 9))).setCell ⟨b, 12, none⟩ (.int .i64 (f 10))).setCell ⟨b, 13, none⟩ (.int .i64 (f 11))).setCell ⟨b, 14, none⟩ (.int .i64 (f 12))).setCell ⟨b, 15, none⟩ (.int .i64 (f 13))) ∧ Pg w4 b n m f ∧ Onl b W w4 :=
  ⟨_, rfl, h.put, pgSt_onl W b n m f⟩
set_option maxRecDepth 100000 in
set_option maxHeartbeats 1600000 in
theorem inOrderI (n : Int) (cs : List Ch) (w : World) (hl : cs.length ≤ 7) :
    Calls Try.prog 41 #[pgV n cs.length (flF cs)] w fun e w' => e = .returned (pgV n cs.length (flF (srt cs))) ∧ Below w.heap.size w w' := by
  have HA := Lib.hid ((Pg.start w n cs.length (flF cs) 45).keep ((Below.refl (w.heap.size + 1) _).alloc (by simp) (.cells (pgA 0 0 fun _ => 0) 45)) (Nat.lt_succ_self _))
  have HG := Lib.hid (((Below.refl w.heap.size w).alloc (Nat.le_refl _) (.cells (pgA n cs.length (flF cs)) 45)).alloc (by simp) (.cells (pgA 0 0 fun _ => 0) 45))
  have HS := Lib.hid (sortChI w.heap.size n cs _ HA.out hl)
  have HN := Lib.hid (show Pg ((w.alloc (.cells (pgA n cs.length (flF cs)) 45)).alloc (.cells (pgA 0 0 fun _ => 0) 45)) (w.heap.size + 1) 0 0 (fun _ => 0) from by
    have := Pg.start (w.alloc (.cells (pgA n cs.length (flF cs)) 45)) 0 0 (fun _ => 0) 45
    rwa [show (w.alloc (.cells (pgA n cs.length (flF cs)) 45)).heap.size = w.heap.size + 1 by simp] at this)
  have hsl := sliceArrI cs.length hl
  go_enter Try.func41, Try.ntmps41
  go_wp2_with fail
  (with_reducible refine HS.out.mono ?_)
  rintro e w3 ⟨rfl, hp, hb⟩
  have HB3 := Lib.hid (HG.out.trans (hb.below _ (Nat.le_refl _)))
  have HR := Lib.hid (HN.out.other hb (by omega))
  obtain ⟨p0, p1, p2, p3, p4, p5, p6, p7, p8, p9, p10, p11, p12, p13, p14, p15⟩ := hp.all
  obtain ⟨r0, r1, r2, r3, r4, r5, r6, r7, r8, r9, r10, r11, r12, r13, r14, r15⟩ := HR.out.all
  have s0 := HR.out.fz 0 (by omega)
  have s1 := HR.out.fz 1 (by omega)
  have s2 := HR.out.fz 2 (by omega)
  have s3 := HR.out.fz 3 (by omega)
  have s4 := HR.out.fz 4 (by omega)
  have s5 := HR.out.fz 5 (by omega)
  have s6 := HR.out.fz 6 (by omega)
  have s7 := HR.out.fz 7 (by omega)
  have s8 := HR.out.fz 8 (by omega)
  have s9 := HR.out.fz 9 (by omega)
  have s10 := HR.out.fz 10 (by omega)
  have s11 := HR.out.fz 11 (by omega)
  have s12 := HR.out.fz 12 (by omega)
  have s13 := HR.out.fz 13 (by omega)
  have s14 := HR.out.fz 14 (by omega)
  have s15 := HR.out.fz 15 (by omega)
  clear hb hp
  obtain ⟨w4, hw4, hP, hO⟩ := pg_store n cs.length (flF (srt cs)) HR.out
  have HW4 := Lib.hid hw4
  have HP := Lib.hid hP
  have HB4 := Lib.hid (HB3.out.trans (hO.below _ (Nat.le_succ _)))
  clear hw4 hP hO
  go_wp2
  rw [← HW4.out]
  clear p0 p1 p2 p3 p4 p5 p6 p7 p8 p9 p10 p11 p12 p13 p14 p15 r0 r1 r2 r3 r4 r5 r6 r7 r8 r9 r10 r11 r12 r13 r14 r15
  obtain ⟨p0, p1, p2, p3, p4, p5, p6, p7, p8, p9, p10, p11, p12, p13, p14, p15⟩ := HP.out.all
  refine bodyPost_ret (v := pgV n cs.length (flF (srt cs))) ?_ rfl ⟨rfl, HB4.out⟩
  rw [results_cell1 rfl]
  go_simp

end Go.Proofs.Ytkpnfonedfomaaa
