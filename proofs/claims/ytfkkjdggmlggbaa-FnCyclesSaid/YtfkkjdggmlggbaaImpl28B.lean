/- The program's good shifts. -/
import Derived.Test.YtfkkjdggmlggbaaImpl28A
import Derived.Defers
import Derived.FnLit
import Derived.Lib.SmallJoins
namespace Go.Proofs.Ytfkkjdggmlggbaa
open Go.ChangeShapes Go.WideShapes Go.ChangeAt Go.RowKit
open Go.PlainAid (bt bt_nonneg bt_le get_bt bt_end)
set_option linter.unusedVariables false

set_option maxRecDepth 100000 in
theorem restore (b p q : Nat) (s : ByteArray) (k : Int) (u : FrameMode) (w : World) (hc : Cir w b s k) (hp : w.cell? ⟨p, 0, none⟩ = some (.pointer (some ⟨b, 0, none⟩))) (hq : w.cell? ⟨q, 0, none⟩ = some (.int .i64 0)) :
    CallsD Try.prog 34 #[.pointer (some ⟨q, 0, none⟩), .pointer (some ⟨p, 0, none⟩)] u w fun e u' w' => u' = u ∧ (e = .returned (.tuple #[]) ∧ w' = w.setCell ⟨b, 1, none⟩ (.int .i64 0)) := by
  obtain ⟨c0, c1, f1, hbz⟩ := hc
  go_enter_d Try.func34, Try.ntmps34
  go_wp2
  go_end0
  exact ⟨rfl, rfl⟩

theorem row_bel {w w' : World} {base B n : Nat} {v : Value} {xs : List Value} (h : w.ownsRow base 3 1 v n xs) (hb : Below B w w') (hB : w.heap.size ≤ B) : w'.ownsRow base 3 1 v n xs := by
  obtain ⟨h1, h2⟩ := h
  refine ⟨h1, h2.elim .inl fun ⟨g, cap, cur, e1, e2, e3, e4⟩ => .inr ⟨g, cap, cur, e1, e2, ?_, e4⟩⟩
  rw [hb.block g (by have := (Array.getElem?_eq_some_iff.1 e3).1; omega)]
  exact e3

/-- What the loop over the shifts keeps. -/
def GsW (w wr : World) (b : Nat) (s : ByteArray) : Prop :=
  (∃ k, Cir wr b s k) ∧ wr.cell? ⟨w.heap.size, 0, none⟩ = some (.pointer (some ⟨b, 0, none⟩)) ∧ wr.cell? ⟨w.heap.size + 1, 0, none⟩ = some (.int .i64 0) ∧ Below b w wr ∧ w.heap.size + 2 ≤ wr.heap.size
theorem GsW.keep {w wr wr' : World} {b : Nat} {s : ByteArray} (h : GsW w wr b s) (hb : Below wr.heap.size wr wr') (hbw : b < w.heap.size) : GsW w wr' b s := by
  obtain ⟨⟨k, h1⟩, h2, h3, h4, h5⟩ := h
  have := hb.size
  exact ⟨⟨k, h1.keep hb h1.2.2.2 this⟩, (hb.cell (p := ⟨w.heap.size, 0, none⟩) (by show w.heap.size < _; omega)).trans h2, (hb.cell (p := ⟨w.heap.size + 1, 0, none⟩) (by show w.heap.size + 1 < _; omega)).trans h3, h4.trans (hb.mono (by omega)), by omega⟩
theorem GsW.set {w wr : World} {b : Nat} {s : ByteArray} (h : GsW w wr b s) (j : Int) (hbw : b < w.heap.size) : GsW w (wr.setCell ⟨b, 1, none⟩ (.int .i64 j)) b s := by
  obtain ⟨⟨k, h1⟩, h2, h3, h4, h5⟩ := h
  refine ⟨⟨j, h1.set j⟩, (World.cell?_setCell_other wr _ _ _ (fun h => by simp at h; try omega)).trans h2, (World.cell?_setCell_other wr _ _ _ (fun h => by simp at h; try omega)).trans h3, h4.setCell (Nat.le_refl _) _, by simpa [World.setCell] using h5⟩
theorem GsW.grown {w wr wr' : World} {b : Nat} {s : ByteArray} {row : Option Nat} (h : GsW w wr b s) (hg : wr.grownBy wr' row) (hbw : b < w.heap.size) (hr : ∀ k, row = some k → w.heap.size + 2 ≤ k) : GsW w wr' b s := by
  obtain ⟨⟨k, h1⟩, h2, h3, h4, h5⟩ := h
  have hb : Below (w.heap.size + 2) wr wr' := (Below.refl _ wr).grown hg h5 hr
  have := hg.size
  exact ⟨⟨k, h1.keep hb (by omega) this⟩, (hb.cell (p := ⟨w.heap.size, 0, none⟩) (by show w.heap.size < _; omega)).trans h2, (hb.cell (p := ⟨w.heap.size + 1, 0, none⟩) (by show w.heap.size + 1 < _; omega)).trans h3, h4.trans (hb.mono (by omega)), by omega⟩

set_option maxRecDepth 100000 in
set_option maxHeartbeats 1600000 in
theorem goodShiftsI (b : Nat) (s : ByteArray) (w : World) (hc : Cir w b s 0) (hs : s.size ≤ 1048577) :
    Calls Try.prog 23 #[.pointer (some ⟨b, 0, none⟩)] w fun e w' => ∃ v, e = .returned v ∧ OwnI w' (b + 1) w'.heap.size v (gsL s s.size) ∧ Below b w w' := by
  have hmf : ∀ (fn : Fn) (first cap : Array Value) (w : World), (Instr.makeFunc fn first cap).run Try.prog w = .ok (.func fn first cap) w := fun _ _ _ _ => rfl
  have HC := Lib.hid hc
  obtain ⟨c0, c1, f1, hbz⟩ := hc
  have HP := Lib.hid (fun k W (h : Cir W b s (k : Nat)) (hk : k ≤ s.size) => pathI b s k W h hk hs)
  go_enter_defers Try.func23, Try.ntmps23
  go_wp2
  have H0 := Lib.hid (show GsW w ((w.alloc (.cells #[.pointer (some ⟨b, 0, none⟩)] 50)).alloc (.cells #[.int .i64 0] 3)) b s from by
    have h1 := ((Below.refl (w.heap.size) w).alloc (Nat.le_refl _) (.cells #[.pointer (some ⟨b, 0, none⟩)] 50)).alloc (by simp) (.cells #[.int .i64 0] 3)
    refine ⟨⟨0, HC.out.keep h1 hbz (by simp; omega)⟩, ?_, ?_, h1.mono (by omega), by simp⟩
    · rw [World.cell?_alloc_lt _ _ _ (by simp)]; exact cell_one w _ _
    · simp)
  generalize (w.alloc (.cells #[.pointer (some ⟨b, 0, none⟩)] 50)).alloc (.cells #[.int .i64 0] 3) = w0 at *
  go_loopw [4, 18] (fun v y wr => ∃ i : Nat, i ≤ s.size ∧ y = .int .i64 i ∧ wr.ownsRow (w.heap.size + 2) 3 1 v (gsL s i).length ((gsL s i).map (Value.int .i64)) ∧ GsW w wr b s) (fun _ y _ => s.size - (intOf y).toNat)
  case atStart => exact ⟨0, Nat.zero_le _, rfl, World.ownsRow_nil _ _ _ _, H0.out⟩
  case round =>
    obtain ⟨i, hi, rfl, hown, hgs⟩ := hrel
    have HOWN := Lib.hid hown
    have HGS := Lib.hid hgs
    have hbz2 := hbz
    clear hown hgs c0 c1 f1
    obtain ⟨⟨k0, hck⟩, hp0, hq0, -, hwr⟩ := HGS.out
    obtain ⟨c0, c1, f1, hbr⟩ := hck
    by_cases hlt : i < s.size
    · have hii : (i : Int) < (s.size : Int) := by omega
      have HG1 := Lib.hid (HGS.out.set (i : Int) hbz)
      have HC1 := Lib.hid (Cir.set (w := wr) (k := k0) ⟨c0, c1, f1, hbr⟩ (i : Int))
      have HO1 := Lib.hid (ownsRow_setCell_below HOWN.out (a := ⟨b, 1, none⟩) (by show b < _; omega) (.int .i64 (i : Int)))
      have hz1 : (wr.setCell ⟨b, 1, none⟩ (.int .i64 (i : Int))).heap.size = wr.heap.size := by simp [World.setCell]
      have HPI := Lib.hid (HP.out i _ HC1.out hi)
      have hgl := gsL_len s i
      obtain ⟨W1, hW1⟩ : ∃ W1, Hid (W1 = wr.setCell ⟨b, 1, none⟩ (.int .i64 (i : Int))) := ⟨_, Lib.hid rfl⟩
      rw [← hW1.out] at HG1 HC1 HO1 HPI hz1
      have hst : ∀ W, W = wr.setCell ⟨b, 1, none⟩ (.int .i64 (i : Int)) → W = W1 := fun W h => by rw [h, hW1.out]
      rcases e2 : gdW (rtS s i) with _ | _
      · rw [e2] at HPI
        have HN := Lib.hid (gsL_no s i e2)
        clear e2
        go_wp2_with fail
        rw [← hW1.out]
        (with_reducible refine HPI.out.mono ?_)
        rintro e w1 ⟨rfl, hb⟩
        have HO2 := Lib.hid (row_bel HO1.out hb (Nat.le_refl _))
        have HG2 := Lib.hid (HG1.out.keep hb hbz2)
        clear hb
        go_wp2
        exact ⟨⟨i + 1, by omega, by simp, by rw [HN.out]; exact HO2.out, HG2.out⟩, by simp [intOf]; omega⟩
      · rw [e2] at HPI
        have HN := Lib.hid (gsL_yes s i e2)
        clear e2
        go_wp2_with fail
        rw [← hW1.out]
        (with_reducible refine HPI.out.mono ?_)
        rintro e w1 ⟨rfl, hb⟩
        have HO2 := Lib.hid (row_bel HO1.out hb (Nat.le_refl _))
        have HG2 := Lib.hid (HG1.out.keep hb hbz2)
        have z2 := HG2.out.2.2.2.2
        have HLT := Lib.hid (fun k hk => (World.ownsRow.lt HO2.out k hk).1)
        clear hb
        go_wp2_with (at_builtin; go_must (refine wpAppInt rfl _ _ rfl (w.heap.size + 2) u4 _ (gsL s i) rfl (World.ownsRow.alloc HO2.out _) w1.heap.size _ _ rfl (cell_one _ _ _) (by omega) (base_up z2) ?_); intro v' w' hown' hg')
        have HG3 := Lib.hid (HG2.out.keep ((Below.refl w1.heap.size w1).alloc (Nat.le_refl _) (.cells #[.int .i64 (i : Int)] 3)) hbz2)
        exact ⟨⟨i + 1, by omega, by simp, by rw [HN.out, List.length_append]; exact hown', HG3.out.grown hg' hbz2 HLT.out⟩, by simp [intOf]; omega⟩
    · obtain rfl : i = s.size := by omega
      have HCK := Lib.hid (show Cir wr b s k0 from ⟨c0, c1, f1, hbr⟩)
      have HOI := Lib.hid (OwnI.of_row (ownsRow_setCell_below HOWN.out (a := ⟨b, 1, none⟩) (by show b < _; omega) (.int .i64 0)))
      have HB := Lib.hid ((HGS.out.2.2.2.1).setCell (p := ⟨b, 1, none⟩) (Nat.le_refl _) (.int .i64 0))
      go_wp2
      refine leaves_cons (f := 34) (args := #[.pointer (some ⟨w.heap.size + 1, 0, none⟩), .pointer (some ⟨w.heap.size, 0, none⟩)]) (by simp) (by simp [go_sem]) ?_
      refine (restore b w.heap.size (w.heap.size + 1) s k0 .returning _ HCK.out hp0 hq0).mono ?_
      rintro e u' w'' ⟨rfl, rfl, rfl⟩
      exact ⟨_, results_tmp rfl _ _ _, _, rfl, HOI.out.wide (by omega) (Nat.le_refl _), HB.out⟩

theorem cir_made (w : World) (s : ByteArray) (k : Int) : Cir (w.alloc (.cells #[.string s, .int .i64 k] 38)) w.heap.size s k := by
  refine ⟨by simp, by simp, ?_, by simp⟩
  unfold World.frozen?
  rw [show (w.alloc (.cells #[.string s, .int .i64 k] 38)).heap[w.heap.size]? = some (.cells #[.string s, .int .i64 k] 38 (0, 0)) from Array.getElem?_push_size]
  rfl

set_option maxRecDepth 100000 in
set_option maxHeartbeats 1600000 in
theorem countGoodShiftsI (s : ByteArray) (w : World) (hs : s.size ≤ 1048577) : Calls Try.prog 12 #[.string s] w fun e w' => e = .returned (.int .i64 (cgP s)) ∧ Below w.heap.size w w' := by
  have HI := Lib.hid (isBalancedI s w hs)
  rcases hb : balB s with _ | _
  · have HP := Lib.hid (show cgP s = -1 from if_neg (by rw [hb]; simp))
    rw [hb] at HI
    clear hb
    go_enter Try.func12, Try.ntmps12
    go_wp2_with fail
    (with_reducible refine HI.out.mono ?_)
    rintro e w' ⟨rfl, hb⟩
    go_wp2
    go_ret
    exact ⟨ret_int HP.out.symm, hb⟩
  · have HP := Lib.hid (show cgP s = ((gsL s s.size).length : Int) from if_pos hb)
    rw [hb] at HI
    have HG := Lib.hid (fun b W (h : Cir W b s 0) => goodShiftsI b s W h hs)
    generalize gsL s s.size = L at *
    clear hb
    go_enter Try.func12, Try.ntmps12
    go_wp2_with fail
    (with_reducible refine HI.out.mono ?_)
    rintro e w1 ⟨rfl, hb1⟩
    go_wp2_with fail
    (with_reducible refine (HG.out w1.heap.size _ ?h).mono ?_)
    case h => exact cir_made w1 s 0
    rintro e w2 ⟨v, rfl, ho, hb2⟩
    obtain ⟨A, c, rfl, -⟩ := ho
    go_wp2
    go_ret
    exact ⟨ret_int HP.out.symm, hb1.trans ((((Below.refl w1.heap.size w1).alloc (Nat.le_refl _) _).trans hb2).mono hb1.size)⟩

set_option maxRecDepth 100000 in
set_option maxHeartbeats 1600000 in
theorem goodShiftI (s : ByteArray) (w : World) (hs : s.size ≤ 1048577) : Calls Try.prog 6 #[.string s] w fun e w' => e = .returned (.tuple #[.int .i64 (gsP s), .bool (balB s)]) ∧ Below w.heap.size w w' := by
  have HI := Lib.hid (isBalancedI s w hs)
  rcases hb : balB s with _ | _
  · have HP := Lib.hid (show gsP s = 0 from if_neg (by rw [hb]; simp))
    rw [hb] at HI
    clear hb
    go_enter Try.func6, Try.ntmps6
    go_wp2_with fail
    (with_reducible refine HI.out.mono ?_)
    rintro e w' ⟨rfl, hb⟩
    go_wp2
    go_ret2
    exact ⟨ret28i HP.out.symm rfl, hb⟩
  · have HP := Lib.hid (show gsP s = (gsL s s.size).getD 0 0 from if_pos hb)
    obtain ⟨k, hk, hg, hno⟩ := first_good hb
    have hlen := (gsL_head hg hno s.size hk).2
    rw [hb] at HI
    have HG := Lib.hid (fun b W (h : Cir W b s 0) => goodShiftsI b s W h hs)
    generalize gsL s s.size = L at *
    clear hb hk hg hno
    go_enter Try.func6, Try.ntmps6
    go_wp2_with fail
    (with_reducible refine HI.out.mono ?_)
    rintro e w1 ⟨rfl, hb1⟩
    go_wp2_with fail
    (with_reducible refine (HG.out w1.heap.size _ ?h).mono ?_)
    case h => exact cir_made w1 s 0
    rintro e w2 ⟨v, rfl, ho, hb2⟩
    obtain ⟨g, c, rfl, -, -, hc1, -⟩ := ho.cell hlen
    have hl0 : (0 : Int) < (L.length : Int) := by omega
    generalize L.getD 0 0 = z at *
    go_wp2
    go_ret2
    exact ⟨ret28i HP.out.symm rfl, hb1.trans ((((Below.refl w1.heap.size w1).alloc (Nat.le_refl _) _).trans hb2).mono hb1.size)⟩

set_option maxRecDepth 100000 in
set_option maxHeartbeats 1600000 in
theorem dyckOfCircleI (s : ByteArray) (w : World) (hs : s.size ≤ 1048577) : Calls Try.prog 8 #[.string s] w fun e w' => e = .returned (.tuple #[.string (dcP s), .bool (balB s)]) ∧ Below w.heap.size w w' := by
  have HG := Lib.hid (goodShiftI s w hs)
  rcases hb : balB s with _ | _
  · have HP := Lib.hid (show dcP s = ⟨#[]⟩ from if_neg (by rw [hb]; simp))
    rw [hb] at HG
    clear hb
    go_enter Try.func8, Try.ntmps8
    go_wp2_with fail
    (with_reducible refine HG.out.mono ?_)
    rintro e w' ⟨rfl, hb⟩
    go_wp2
    go_ret2
    exact ⟨ret28s HP.out.symm rfl, hb⟩
  · obtain ⟨k, hk, hg, hno⟩ := first_good hb
    have HK : gsP s = (k : Int) := by unfold gsP; rw [if_pos hb]; exact (gsL_head hg hno s.size hk).1
    have HP := Lib.hid (show dcP s = pthP (rtS s k) by unfold dcP pthP; rw [if_pos hb, HK, Int.toNat_natCast, if_pos hg, rtS_size s k (by omega)])
    rw [hb, HK] at HG
    have HPA := Lib.hid (fun b W (h : Cir W b s (k : Nat)) => pathI b s k W h (by omega) hs)
    rw [hg] at HPA
    clear hb hk hg hno HK
    go_enter Try.func8, Try.ntmps8
    go_wp2_with fail
    (with_reducible refine HG.out.mono ?_)
    rintro e w1 ⟨rfl, hb1⟩
    go_wp2_with fail
    (with_reducible refine (HPA.out w1.heap.size _ ?h).mono ?_)
    case h => exact cir_made w1 s k
    rintro e w2 ⟨rfl, hb2⟩
    go_wp2
    go_ret2
    exact ⟨ret28s HP.out.symm rfl, hb1.trans ((((Below.refl w1.heap.size w1).alloc (Nat.le_refl _) _).trans (hb2.mono (by simp))).mono hb1.size)⟩

set_option maxRecDepth 100000 in
set_option maxHeartbeats 1600000 in
theorem shiftWordI (s : ByteArray) (k : Int) (w : World) (hs : s.size ≤ 1048577) : Calls Try.prog 17 #[.string s, .int .i64 k] w fun e w' => e = .returned (.tuple #[.string (swP s k), .bool (swOk s k)]) ∧ Below w.heap.size w w' := by
  by_cases h17 : 17 < s.size
  · have h17i : (17 : Int) < (s.size : Int) := by omega
    have HO := Lib.hid (show swOk s k = false from decide_eq_false (by omega))
    have HP := Lib.hid (show swP s k = ⟨#[]⟩ from if_neg (by rw [HO.out]; simp))
    go_enter Try.func17, Try.ntmps17
    go_wp2
    go_ret2
    exact ⟨ret28s HP.out.symm HO.out.symm, Below.refl _ _⟩
  · have h17i : ¬ (17 : Int) < (s.size : Int) := by omega
    have h17d : decide ((17 : Int) < (s.size : Int)) = false := decide_eq_false h17i
    by_cases hneg : k < 0
    · have HO := Lib.hid (show swOk s k = false from decide_eq_false (by omega))
      have HP := Lib.hid (show swP s k = ⟨#[]⟩ from if_neg (by rw [HO.out]; simp))
      have hnd : decide (k < 0) = true := decide_eq_true hneg
      go_enter Try.func17, Try.ntmps17
      go_wp2
      go_ret2
      exact ⟨ret28s HP.out.symm HO.out.symm, Below.refl _ _⟩
    · have hnd : decide (k < 0) = false := decide_eq_false hneg
      by_cases hok : k < (s.size : Int) ∨ k = 0
      · obtain ⟨q, rfl⟩ : ∃ q : Nat, k = q := ⟨k.toNat, by omega⟩
        have HO := Lib.hid (show swOk s q = true from decide_eq_true ⟨by omega, by omega, hok⟩)
        have HP := Lib.hid (show swP s q = rtS s q by unfold swP; rw [if_pos HO.out, Int.toNat_natCast])
        have HW := Lib.hid (fun b W (h : Cir W b s (q : Nat)) => wordI b s q W h (by omega) hs)
        have hm : ¬ max (s.size : Int) 1 ≤ (q : Int) := by omega
        have hm2 : decide (max (s.size : Int) 1 ≤ (q : Int)) = false := decide_eq_false hm
        have HMC := Lib.hid (fun W => cir_made W s (q : Nat))
        clear hok
        go_enter Try.func17, Try.ntmps17
        go_wp2_with fail
        (with_reducible refine (HW.out w.heap.size _ ?h).mono ?_)
        case h => exact HMC.out w
        rintro e w2 ⟨rfl, hb2⟩
        go_wp2
        go_ret2
        exact ⟨ret28s HP.out.symm HO.out.symm, ((Below.refl w.heap.size w).alloc (Nat.le_refl _) _).trans (hb2.mono (by simp))⟩
      · have HO := Lib.hid (show swOk s k = false from decide_eq_false (by omega))
        have HP := Lib.hid (show swP s k = ⟨#[]⟩ from if_neg (by rw [HO.out]; simp))
        have hm : max (s.size : Int) 1 ≤ k := by omega
        have hm2 : decide (max (s.size : Int) 1 ≤ k) = true := decide_eq_true hm
        go_enter Try.func17, Try.ntmps17
        go_wp2
        go_ret2
        exact ⟨ret28s HP.out.symm HO.out.symm, Below.refl _ _⟩

set_option maxRecDepth 100000 in
set_option maxHeartbeats 1600000 in
theorem circleOfI (s : ByteArray) (k : Int) (w : World) (hs : s.size ≤ 1048576) : Calls Try.prog 14 #[.string s, .int .i64 k] w fun e w' => e = .returned (.tuple #[.string (coP s k), .bool (coOk s k)]) ∧ Below w.heap.size w w' := by
  have HD := Lib.hid (fun W => isDyckI s W)
  rcases hd : dyck s with _ | _
  · have HO := Lib.hid (show coOk s k = false by unfold coOk; rw [hd]; rfl)
    have HP := Lib.hid (show coP s k = ⟨#[]⟩ from if_neg (by rw [hd]; simp))
    rw [hd] at HD
    clear hd
    go_enter Try.func14, Try.ntmps14
    go_wp2_with fail
    (with_reducible refine (HD.out _).mono ?_)
    rintro e w' ⟨rfl, hb⟩
    go_wp2
    go_ret2
    exact ⟨ret28s HP.out.symm HO.out.symm, hb⟩
  · have HO := Lib.hid (show coOk s k = swOk (s ++ ⟨#[100]⟩) k by unfold coOk; rw [hd]; rfl)
    have HP := Lib.hid (show coP s k = swP (s ++ ⟨#[100]⟩) k from if_pos hd)
    have e1 : (⟨#[100]⟩ : ByteArray).size = 1 := rfl
    have c1 : ¬ 9223372036854775807 < s.size + (⟨#[100]⟩ : ByteArray).size := by omega
    have HS := Lib.hid (fun W => shiftWordI (s ++ ⟨#[100]⟩) k W (by rw [ByteArray.size_append]; omega))
    rw [hd] at HD
    clear hd e1
    go_enter Try.func14, Try.ntmps14
    go_wp2_with fail
    (with_reducible refine (HD.out _).mono ?_)
    rintro e w' ⟨rfl, hb⟩
    go_wp2_with fail
    (with_reducible refine (HS.out _).mono ?_)
    rintro e w' ⟨rfl, hb2⟩
    go_wp2
    go_ret2
    exact ⟨ret28s HP.out.symm HO.out.symm, hb.trans (hb2.mono hb.size)⟩

end Go.Proofs.Ytfkkjdggmlggbaa
