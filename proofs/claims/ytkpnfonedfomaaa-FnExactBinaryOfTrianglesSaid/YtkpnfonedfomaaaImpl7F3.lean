/- The program's polygonOf, a part (written by tools/mk7e.py). -/
import Derived.Test.YtkpnfonedfomaaaImpl7E2
namespace Go.Proofs.Ytkpnfonedfomaaa
open Go.ChangeShapes Go.WideShapes Go.ChangeAt Go.RowKit
set_option linter.unusedVariables false
set_option linter.unusedSimpArgs false

set_option maxRecDepth 100000 in
set_option maxHeartbeats 12800000 in
theorem pgMix (n : Int) (v : Value) (ls : List (List Int)) (lo hi : Nat) (w : World) (hv : OwnT w lo hi v ls) (hh : hi ≤ w.heap.size) (hl : ls.length ≤ 1048576) (hn : inN n ls) (hall : ∀ i, i < ls.length → okR n (ls.getD i [])) (hs : ¬ srt (csT ls) = csT ls) :
    Calls Try.prog 34 #[.int .i64 n, v] w (AnsPg n ls w) := by
  obtain ⟨A1, c1, rfl, k1⟩ := id hv
  clear k1
  unfold AnsPg
  have HR0 := Lib.hid (Pg.start w 0 0 (fun _ => 0) 45)
  have HB0 := Lib.hid ((Below.refl w.heap.size w).alloc (Nat.le_refl _) (.cells (pgA 0 0 fun _ => 0) 45))
  have hn1 := hn.1
  have hn2 := hn.2.1
  have hlen := hn.2.2
  have hlen7 : ls.length ≤ 7 := by omega
  have d1 : ((ls.length : Int) != max (n - 3) 0) = false := by rw [bne_eq_false_iff_eq, Int.max_comm]; exact hlen
  have d2 : decide (n < 2) = false := decide_eq_false (by omega)
  have d3 : decide (10 < n) = false := decide_eq_false (by omega)
  have HALL := Lib.hid hall
  have HN := Lib.hid hn
  have HV := Lib.hid hv
  have hs0 : (w.alloc (.cells (pgA 0 0 fun _ => 0) 45)).heap.size = w.heap.size + 1 := by simp
  have HBA : Below (w.heap.size + 1) (w.alloc (.cells (pgA 0 0 fun _ => 0) 45)) ((w.alloc (.cells (pgA 0 0 fun _ => 0) 45)).alloc (.cells (pgA 0 0 fun _ => 0) 45)) := (Below.refl _ _).alloc (by rw [hs0]; exact Nat.le_refl _) _
  have HRA := Lib.hid (HR0.out.keep HBA (Nat.lt_succ_self _))
  have HB1 := Lib.hid (HB0.out.trans (HBA.mono (Nat.le_succ _)))
  have HP0 := Lib.hid (show Pg ((w.alloc (.cells (pgA 0 0 fun _ => 0) 45)).alloc (.cells (pgA 0 0 fun _ => 0) 45)) (w.heap.size + 1) 0 0 (fun _ => 0) from by
    have := Pg.start (w.alloc (.cells (pgA 0 0 fun _ => 0) 45)) 0 0 (fun _ => 0) 45
    rw [hs0] at this
    exact this)
  clear HBA hn hlen hv HR0 HB0 hall
  go_enter Try.func34, Try.ntmps34
  go_wp2_with (refine wpStPg rfl _ _ rfl (w.heap.size + 1) n 0 (fun _ => 0) 0 0 (fun _ => 0) HP0.out rfl rfl ?_; intro w2 hP2 hO2; have HP1 := Lib.hid (show Pg w2 (w.heap.size + 1) n ((csT (ls.take 0)).length : Nat) (flF (csT (ls.take 0))) from hP2.of fun j _ => zero14 j); have HRA2 := Lib.hid (HRA.out.other hO2 (by omega)); have HB2 := Lib.hid (HB1.out.trans (hO2.below _ (Nat.le_succ _))); clear hP2 hO2 HP0 HRA HB1)
  go_loopw [28] (fun x wr => ∃ i : Nat, i ≤ ls.length ∧ x = .int .i64 i ∧ Pg wr (w.heap.size + 1) n ((csT (ls.take i)).length : Nat) (flF (csT (ls.take i))) ∧ Pg wr w.heap.size 0 0 (fun _ => 0) ∧ Below w.heap.size w wr ∧ ∀ j, j < i → okR n (ls.getD j [])) (fun x _ => ls.length - (intOf x).toNat)
  case atStart => exact ⟨0, Nat.zero_le _, rfl, HP1.out, HRA2.out, HB2.out, fun j hj => absurd hj (Nat.not_lt_zero _)⟩
  case round =>
    obtain ⟨i, hi1, rfl, hp, hr, hb, hok⟩ := hrel
    have HP := Lib.hid hp
    have HRR := Lib.hid hr
    have HB := Lib.hid hb
    have HOK := Lib.hid hok
    have zr := hp.lt
    clear hp hr hb hok HP1 HRA2 HB2
    by_cases hlt : i < ls.length
    · have hii : (i : Int) < (ls.length : Int) := by omega
      obtain ⟨o, rv, rfl, -, ho2, hc0, ho0⟩ := HV.out.cell hlt
      have hc := (HB.out.cell (p := ⟨o, i, none⟩) (by show o < _; omega)).trans hc0
      have HBAD := Lib.hid (fun h => tri_row HN.out hlt h)
      by_cases h2 : (ls.getD i []).length = 2
      · obtain ⟨rv', hc', hrw⟩ := rowC_at HV.out hlt h2
        rw [hc0] at hc'
        simp only [Option.some.injEq] at hc'
        subst hc'
        obtain ⟨g, cg, rfl, x0, x1⟩ := hrw
        have hgl : g < w.heap.size := by have := World.block_lt_of_cell? _ _ x0; exact this
        have hx0 : wr.cell? ⟨g, 0, none⟩ = some (.int .i64 ((ls.getD i []).getD 0 0)) := (HB.out.cell (p := ⟨g, 0, none⟩) hgl).trans x0
        have hx1 : wr.cell? ⟨g, 1, none⟩ = some (.int .i64 ((ls.getD i []).getD 1 0)) := (HB.out.cell (p := ⟨g, 1, none⟩) hgl).trans x1
        have HTK := Lib.hid (csT_take ls hlt)
        have HTL := Lib.hid (csT_tl ls (Nat.le_of_lt hlt))
        have HRX := Lib.hid (show rwC (ls.getD i []) = ((ls.getD i []).getD 0 0, (ls.getD i []).getD 1 0) from rfl)
        have HOR := Lib.hid (show okR n (ls.getD i []) ↔ ((ls.getD i []).length = 2 ∧ 0 ≤ (ls.getD i []).getD 0 0 ∧ (ls.getD i []).getD 0 0 < (ls.getD i []).getD 1 0 ∧ (ls.getD i []).getD 1 0 < n) from Iff.rfl)
        clear x0 x1 ho0 hc0
        generalize (ls.getD i []).getD 0 0 = a at *
        generalize (ls.getD i []).getD 1 0 = b at *
        by_cases hg : 0 ≤ a ∧ a < b ∧ b < n
        · have e1 : decide (a < 0) = false := decide_eq_false (by omega)
          have e2 : decide (b ≤ a) = false := decide_eq_false (by omega)
          have e3 : decide (n ≤ b) = false := decide_eq_false (by omega)
          have HOI := Lib.hid (HOR.out.2 ⟨h2, hg⟩)
          have HADD := Lib.hid (fun q => addI (w.heap.size + 1) n (csT (ls.take i)) (a, b) (wr.drewN (q + 1)) (HP.out.keep (below_drewN (Below.refl wr.heap.size wr) (q + 1)) zr) (by rw [HTL.out]; omega))
          rw [HRX.out] at HTK
          rw [← HTK.out] at HADD
          clear hg HOR h2 HBAD
          go_wp2
          go_quiet (fail)
          go_wp2_with fail
          go_region_law (go_simp; go_at_call 49; (with_reducible refine (HADD.out _).mono ?_); rintro e w5 ⟨rfl, hp5, ho5⟩; have HP5 := Lib.hid hp5; have HO5 := Lib.hid ho5; clear hp5 ho5)
          all_goals go_wp2
          all_goals exact ⟨⟨i + 1, by omega, by simp, HP5.out, (HRR.out.keep (below_drewN (Below.refl wr.heap.size wr) _) HRR.out.lt).other HO5.out (by omega), (below_drewN HB.out _).trans (HO5.out.below _ (Nat.le_succ _)), fun j hj => by
            by_cases e : j < i
            · exact HOK.out j e
            · obtain rfl : j = i := by omega
              exact HOI.out⟩, by simp [intOf]; omega⟩
        · exact absurd (HOR.out.1 (HALL.out i hlt)).2 hg
      · exact absurd (HALL.out i hlt).1 h2
    · obtain rfl : i = ls.length := by omega
      have hii : ¬ ((ls.length : Int) < (ls.length : Int)) := by omega
      rw [List.take_length] at HP
      have HTI := Lib.hid (tri_iff HN.out)
      have HBC := Lib.hid (bd_csT HN.out HOK.out)
      have HLC := Lib.hid (csT_len ls)
      have HCW := Lib.hid (fun W => isCutWellI n (csT ls) W (by rw [csT_len]; omega) ⟨by omega, by omega⟩ HBC.out)
      have HIO := Lib.hid (fun W => inOrderI n (csT ls) W (by rw [csT_len]; omega))
      have hneq := fun W => neqA (flF (csT ls)) (flF (srt (csT ls))) W
      rw [eq7_lists (srt_len (csT ls)).symm (by rw [csT_len]; omega)] at hneq
      have hfld := fun W => fieldA n ((csT ls).length : Nat) (flF (srt (csT ls))) W
      have HPD := Lib.hid (HP.out.keep (Below.refl wr.heap.size wr).drew zr)
      rw [show decide (csT ls = srt (csT ls)) = false from decide_eq_false (Ne.symm hs)] at hneq
      have HT0 := Lib.hid (show triB n ls = false from by
        rcases ht : triB n ls with _ | _
        · rfl
        · exact absurd (HTI.out.1 ht).2.1 hs)
      have HT := Lib.hid (show PgIs n ls (pgV 0 0 fun _ => 0) from .no HT0.out)
      clear HTI hs HCW
      obtain ⟨y0, y1, y2, y3, y4, y5, y6, y7, y8, y9, y10, y11, y12, y13, y14, y15⟩ := HPD.out.all
      go_wp2_with fail
      go_region_law (first | (go_simp; go_at_call 41; (with_reducible refine (HIO.out _).mono ?_); rintro e w6 ⟨rfl, hb6⟩; have HP6 := Lib.hid (HPD.out.keep hb6 HPD.out.lt); have HR6 := Lib.hid ((HRR.out.keep (Below.refl wr.heap.size wr).drew HRR.out.lt).keep hb6 (show w.heap.size < wr.drew.heap.size from HRR.out.lt)); have HB6 := Lib.hid (HB.out.drew.trans (hb6.mono (show w.heap.size ≤ wr.drew.heap.size from Nat.le_of_lt HRR.out.lt))); have HS6 := Lib.hid hb6.size; clear hb6; obtain ⟨p0, p1, p2, p3, p4, p5, p6, p7, p8, p9, p10, p11, p12, p13, p14, p15⟩ := HP6.out.all))
      all_goals
        go_wp2_with (refine wpStPg rfl _ _ rfl w.heap.size 0 0 (fun _ => 0) 0 0 (fun _ => 0) HR6.out rfl rfl ?_; intro wz hPz hOz; have HPZ := Lib.hid hPz; have HBZ := Lib.hid (HB6.out.trans (hOz.below _ (Nat.le_refl _))); clear hPz hOz)
        refine bodyPost_ret (v := .tuple #[pgV 0 0 (fun _ => 0), .bool false]) ?_ rfl ⟨pgV 0 0 (fun _ => 0), by rw [HT0.out], HT.out, HBZ.out⟩
        rw [results_cell_tmp rfl]
        exact resT _ HPZ.out

end Go.Proofs.Ytkpnfonedfomaaa
