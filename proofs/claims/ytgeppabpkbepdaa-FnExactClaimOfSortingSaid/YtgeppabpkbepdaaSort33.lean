/- ClaimOfSorting, both sides (written by tools/mk33.py). -/
import Derived.Test.YtgeppabpkbepdaaClm33
import Derived.Test.YtgeppabpkbepdaaCopy31
import Derived.Test.YtgeppabpkbepdaaImpl31A
import Derived.Test.YtgeppabpkbepdaaImpl31P
import Derived.Test.YtgeppabpkbepdaaSpec31C
import Derived.Test.YtgeppabpkbepdaaSpec10D
namespace Go.Proofs.Ytgeppabpkbepdaa
open Go.ChangeShapes Go.WideShapes Go.ChangeAt Go.RowKit
set_option linter.unusedVariables false

/-- A claim and a bool, whose two rows lie apart in fresh memory. -/
def AnsCl (k : Int) (f : ByteArray) (xs ys : List Int) (B : Bool) (w : World) (e : Ending) (w' : World) : Prop :=
  ∃ u v l1 h1 l2 h2, e = .returned (.tuple #[clV k f u v, .bool B]) ∧ OwnI w' l1 h1 u xs ∧ OwnI w' l2 h2 v ys ∧ (h1 ≤ l2 ∨ h2 ≤ l1) ∧ w.heap.size ≤ l1 ∧ w.heap.size ≤ l2 ∧ h1 ≤ w'.heap.size ∧ h2 ≤ w'.heap.size ∧ Below w.heap.size w w'
def csK (xs : List Int) : Int := if popOk xs = true then 3 else if conB r231 xs = true then 4 else 0
def csN (xs : List Int) : List Int := if popOk xs = true then xs else if conB r231 xs = true then xs else []
def csO (xs : List Int) : List Int := if popOk xs = true then [] else if conB r231 xs = true then patP xs else []
def csB (xs : List Int) : Bool := if popOk xs = true then true else if conB r231 xs = true then true else false
theorem cs_path {xs : List Int} (h : popOk xs = true) : AnsCl (csK xs) (popP xs) (csN xs) (csO xs) (csB xs) = AnsCl 3 (popP xs) xs [] true := by unfold csK csN csO csB; simp only [h, if_true]
theorem cs_pat {xs : List Int} (h : popOk xs = false) (hc : conB r231 xs = true) : AnsCl (csK xs) (popP xs) (csN xs) (csO xs) (csB xs) = AnsCl 4 ⟨#[]⟩ xs (patP xs) true := by
  unfold csK csN csO csB
  rw [pop_no h]
  simp [h, hc]
theorem cs_none {xs : List Int} (h : popOk xs = false) (hc : conB r231 xs = false) : AnsCl (csK xs) (popP xs) (csN xs) (csO xs) (csB xs) = AnsCl 0 ⟨#[]⟩ [] [] false := by
  unfold csK csN csO csB
  rw [pop_no h]
  simp [h, hc]
theorem own_none (w : World) (a b : Nat) : OwnI w a b (.slice none 0 0) [] := ⟨_, _, rfl, .inl rfl⟩
theorem OwnI.setOther {w : World} {lo hi b j : Nat} {v y : Value} {xs : List Int} (h : OwnI w lo hi v xs) (hb : b < lo) : OwnI (w.setCell ⟨b, j, none⟩ y) lo hi v xs := by
  obtain ⟨A, c, e, h⟩ := h
  refine ⟨A, c, e, h.elim .inl fun ⟨g, C, h1, h2, h3, h4, h5⟩ => .inr ⟨g, C, h1, h2, h3, ?_, h5⟩⟩
  exact (Below.heap_setCell w ⟨b, j, none⟩ y _ (show g ≠ b by omega)).trans h4
/-- The seven cells of the result at w's end. -/
structure Rz (w W : World) : Prop where
  cl : Cl W w.heap.size 0 ⟨#[]⟩ (.slice none 0 0) (.slice none 0 0)
  fr : ∀ j, j < 7 → W.frozen? ⟨w.heap.size, j, none⟩ = false
  bl : Below w.heap.size w W
  lt : w.heap.size < W.heap.size
theorem Rz.start (w : World) : Rz w (w.alloc (clO 0 ⟨#[]⟩ (.slice none 0 0) (.slice none 0 0))) := by
  refine ⟨Cl.start w _ _ _ _, fun j hj => ?_, (Below.refl _ w).alloc (Nat.le_refl _) _, by simp⟩
  have hg : (w.alloc (clO 0 ⟨#[]⟩ (.slice none 0 0) (.slice none 0 0))).heap[w.heap.size]? = some (clO 0 ⟨#[]⟩ (.slice none 0 0) (.slice none 0 0)) := Array.getElem?_push_size
  unfold World.frozen?; rw [hg]; rfl
theorem Rz.call {w W w' : World} {B : Nat} (h : Rz w W) (hb : Below B W w') (hB : w.heap.size < B) : Rz w w' := by
  have := hb.size
  have := h.lt
  exact ⟨h.cl.keep hb hB, fun j hj => (hb.frozen (p := ⟨w.heap.size, j, none⟩) hB).trans (h.fr j hj), h.bl.trans (hb.mono (by omega)), by omega⟩
theorem seven_below {w W : World} {x0 x1 x2 x3 x4 x5 x6 : Value} (h : Below w.heap.size w W) : Below w.heap.size w (((((((W.setCell ⟨w.heap.size, 0, none⟩ x0).setCell ⟨w.heap.size, 1, none⟩ x1).setCell ⟨w.heap.size, 2, none⟩ x2).setCell ⟨w.heap.size, 3, none⟩ x3).setCell ⟨w.heap.size, 4, none⟩ x4).setCell ⟨w.heap.size, 5, none⟩ x5).setCell ⟨w.heap.size, 6, none⟩ x6) :=
  ((((((h.setCell (p := ⟨w.heap.size, 0, none⟩) (Nat.le_refl _) _).setCell (p := ⟨w.heap.size, 1, none⟩) (Nat.le_refl _) _).setCell (p := ⟨w.heap.size, 2, none⟩) (Nat.le_refl _) _).setCell (p := ⟨w.heap.size, 3, none⟩) (Nat.le_refl _) _).setCell (p := ⟨w.heap.size, 4, none⟩) (Nat.le_refl _) _).setCell (p := ⟨w.heap.size, 5, none⟩) (Nat.le_refl _) _).setCell (p := ⟨w.heap.size, 6, none⟩) (Nat.le_refl _) _
theorem seven_own {W : World} {b lo hi : Nat} {v x0 x1 x2 x3 x4 x5 x6 : Value} {xs : List Int} (h : OwnI W lo hi v xs) (hb : b < lo) : OwnI (((((((W.setCell ⟨b, 0, none⟩ x0).setCell ⟨b, 1, none⟩ x1).setCell ⟨b, 2, none⟩ x2).setCell ⟨b, 3, none⟩ x3).setCell ⟨b, 4, none⟩ x4).setCell ⟨b, 5, none⟩ x5).setCell ⟨b, 6, none⟩ x6) lo hi v xs :=
  ((((((h.setOther hb).setOther hb).setOther hb).setOther hb).setOther hb).setOther hb).setOther hb
theorem seven_size (W : World) (b : Nat) (x0 x1 x2 x3 x4 x5 x6 : Value) : (((((((W.setCell ⟨b, 0, none⟩ x0).setCell ⟨b, 1, none⟩ x1).setCell ⟨b, 2, none⟩ x2).setCell ⟨b, 3, none⟩ x3).setCell ⟨b, 4, none⟩ x4).setCell ⟨b, 5, none⟩ x5).setCell ⟨b, 6, none⟩ x6).heap.size = W.heap.size := by simp [World.setCell]

set_option maxRecDepth 100000 in
set_option maxHeartbeats 3200000 in
theorem sort_path (A1 : Option Addr) (xs : List Int) (lo hi : Nat) (w : World) (hv : OwnI w lo hi (.slice A1 xs.length xs.length) xs) (hhi : hi ≤ w.heap.size) (hl : xs.length ≤ 1048576) (ho : popOk xs = true) :
    Calls Try.prog 13 #[.slice A1 xs.length xs.length] w (AnsCl (csK xs) (popP xs) (csN xs) (csO xs) (csB xs) w) := by
  rw [cs_path ho]
  have HX0 := Lib.hid (Rz.start w)
  have HV0 := Lib.hid (hv.keep HX0.out.bl hhi)
  have z0 : w.heap.size < (w.alloc (clO 0 ⟨#[]⟩ (.slice none 0 0) (.slice none 0 0))).heap.size := HX0.out.lt
  clear hv
  have HP := Lib.hid (fun w (hv : OwnI w lo hi (.slice A1 xs.length xs.length) xs) (hhi : hi ≤ w.heap.size) => pathOfPermutation _ xs lo hi w hv hhi (by omega))
  rw [ho] at HP
  go_enter Try.func13, Try.ntmps13
  go_wp2_with fail
  (with_reducible refine (HP.out _ HV0.out (by omega)).mono ?_)
  rintro e w1 ⟨rfl, hb⟩
  have z1 := hb.size
  have HX1 := Lib.hid (HX0.out.call hb (by omega))
  have HV1 := Lib.hid (HV0.out.keep hb (by omega))
  clear hb
  go_wp2_with (at_builtin; go_must (refine wpCopy rfl _ _ rfl A1 xs.length lo hi xs HV1.out (by omega) rfl rfl hl ?_); intro g c w2 hr hb; have z2 := hb.size; have HX2 := Lib.hid (HX1.out.call hb (by omega)); have HN := Lib.hid (OwnI.of_row hr); clear hr hb; obtain ⟨⟨k0, k1, k2, k3, k4, k5, k6, -⟩, hfr, -, hsz⟩ := HX2.out; have f0 := hfr 0 (by omega); have f1 := hfr 1 (by omega); have f2 := hfr 2 (by omega); have f3 := hfr 3 (by omega); have f4 := hfr 4 (by omega); have f5 := hfr 5 (by omega); have f6 := hfr 6 (by omega); clear hfr)
  (try simp only [Exit.inBlock, Exit.then])
  refine bodyPost_ret (v := .tuple #[clV 3 (popP xs) (.slice (some ⟨g, 0, none⟩) xs.length c) (.slice none 0 0), .bool true]) ?_ rfl ⟨_, _, w1.heap.size, w2.heap.size, w1.heap.size, w1.heap.size, rfl, seven_own (HN.out) (by omega), seven_own (own_none _ _ _) (by omega), .inr (Nat.le_refl _), by omega, by omega, ?_, ?_, seven_below HX2.out.bl⟩
  · rw [results_cell_tmp rfl]
    go_simp
  · rw [seven_size]; omega
  · rw [seven_size]; omega

set_option maxRecDepth 100000 in
set_option maxHeartbeats 3200000 in
theorem sort_pat (A1 : Option Addr) (xs : List Int) (lo hi : Nat) (w : World) (hv : OwnI w lo hi (.slice A1 xs.length xs.length) xs) (hhi : hi ≤ w.heap.size) (hl : xs.length ≤ 1048576) (ho : popOk xs = false) (hc : conB r231 xs = true) :
    Calls Try.prog 13 #[.slice A1 xs.length xs.length] w (AnsCl (csK xs) (popP xs) (csN xs) (csO xs) (csB xs) w) := by
  rw [cs_pat ho hc]
  have HX0 := Lib.hid (Rz.start w)
  have HV0 := Lib.hid (hv.keep HX0.out.bl hhi)
  have z0 : w.heap.size < (w.alloc (clO 0 ⟨#[]⟩ (.slice none 0 0) (.slice none 0 0))).heap.size := HX0.out.lt
  clear hv
  have HP := Lib.hid (fun w (hv : OwnI w lo hi (.slice A1 xs.length xs.length) xs) (hhi : hi ≤ w.heap.size) => pathOfPermutation _ xs lo hi w hv hhi (by omega))
  have HQ := Lib.hid (fun w (hv : OwnI w lo hi (.slice A1 xs.length xs.length) xs) => patternOf231 _ xs lo hi w hv hl)
  rw [ho] at HP
  rw [hc] at HQ
  go_enter Try.func13, Try.ntmps13
  go_wp2_with fail
  (with_reducible refine (HP.out _ HV0.out (by omega)).mono ?_)
  rintro e w1 ⟨rfl, hb⟩
  have z1 := hb.size
  have HX1 := Lib.hid (HX0.out.call hb (by omega))
  have HV1 := Lib.hid (HV0.out.keep hb (by omega))
  clear hb
  go_wp2_with fail
  (with_reducible refine (HQ.out _ HV1.out).mono ?_)
  rintro e w2 ⟨v2, rfl, hq, hb⟩
  have z2 := hb.size
  have HX2 := Lib.hid (HX1.out.call hb (by omega))
  have HV2 := Lib.hid (HV1.out.keep hb (by omega))
  have HO := Lib.hid hq
  clear hb
  obtain ⟨A2, c2, rfl, -⟩ := id hq
  clear hq
  go_wp2_with (at_builtin; go_must (refine wpCopy rfl _ _ rfl A1 xs.length lo hi xs HV2.out (by omega) rfl rfl hl ?_); intro g c w3 hr hb; have z3 := hb.size; have HX3 := Lib.hid (HX2.out.call hb (by omega)); have HN := Lib.hid (OwnI.of_row hr); have HO3 := Lib.hid (HO.out.keep hb (Nat.le_refl _)); clear hr hb; obtain ⟨⟨k0, k1, k2, k3, k4, k5, k6, -⟩, hfr, -, hsz⟩ := HX3.out; have f0 := hfr 0 (by omega); have f1 := hfr 1 (by omega); have f2 := hfr 2 (by omega); have f3 := hfr 3 (by omega); have f4 := hfr 4 (by omega); have f5 := hfr 5 (by omega); have f6 := hfr 6 (by omega); clear hfr)
  (try simp only [Exit.inBlock, Exit.then])
  refine bodyPost_ret (v := .tuple #[clV 4 ⟨#[]⟩ (.slice (some ⟨g, 0, none⟩) xs.length c) (.slice A2 (patP xs).length c2), .bool true]) ?_ rfl ⟨_, _, w2.heap.size, w3.heap.size, w1.heap.size, w2.heap.size, rfl, seven_own (HN.out) (by omega), seven_own (HO3.out) (by omega), .inr (Nat.le_refl _), by omega, by omega, ?_, ?_, seven_below HX3.out.bl⟩
  · rw [results_cell_tmp rfl]
    go_simp
  · rw [seven_size]; omega
  · rw [seven_size]; omega

set_option maxRecDepth 100000 in
set_option maxHeartbeats 3200000 in
theorem sort_none (A1 : Option Addr) (xs : List Int) (lo hi : Nat) (w : World) (hv : OwnI w lo hi (.slice A1 xs.length xs.length) xs) (hhi : hi ≤ w.heap.size) (hl : xs.length ≤ 1048576) (ho : popOk xs = false) (hc : conB r231 xs = false) :
    Calls Try.prog 13 #[.slice A1 xs.length xs.length] w (AnsCl (csK xs) (popP xs) (csN xs) (csO xs) (csB xs) w) := by
  rw [cs_none ho hc]
  have HX0 := Lib.hid (Rz.start w)
  have HV0 := Lib.hid (hv.keep HX0.out.bl hhi)
  have z0 : w.heap.size < (w.alloc (clO 0 ⟨#[]⟩ (.slice none 0 0) (.slice none 0 0))).heap.size := HX0.out.lt
  clear hv
  have HP := Lib.hid (fun w (hv : OwnI w lo hi (.slice A1 xs.length xs.length) xs) (hhi : hi ≤ w.heap.size) => pathOfPermutation _ xs lo hi w hv hhi (by omega))
  have HQ := Lib.hid (fun w (hv : OwnI w lo hi (.slice A1 xs.length xs.length) xs) => patternOf231 _ xs lo hi w hv hl)
  rw [ho] at HP
  rw [hc] at HQ
  go_enter Try.func13, Try.ntmps13
  go_wp2_with fail
  (with_reducible refine (HP.out _ HV0.out (by omega)).mono ?_)
  rintro e w1 ⟨rfl, hb⟩
  have z1 := hb.size
  have HX1 := Lib.hid (HX0.out.call hb (by omega))
  have HV1 := Lib.hid (HV0.out.keep hb (by omega))
  clear hb
  go_wp2_with fail
  (with_reducible refine (HQ.out _ HV1.out).mono ?_)
  rintro e w2 ⟨v2, rfl, hq, hb⟩
  have z2 := hb.size
  have HX2 := Lib.hid (HX1.out.call hb (by omega))
  have HV2 := Lib.hid (HV1.out.keep hb (by omega))
  clear hb
  obtain ⟨A2, c2, rfl, -⟩ := id hq
  clear hq
  obtain ⟨⟨k0, k1, k2, k3, k4, k5, k6, -⟩, hfr, -, hsz⟩ := HX2.out
  have f0 := hfr 0 (by omega)
  have f1 := hfr 1 (by omega)
  have f2 := hfr 2 (by omega)
  have f3 := hfr 3 (by omega)
  have f4 := hfr 4 (by omega)
  have f5 := hfr 5 (by omega)
  have f6 := hfr 6 (by omega)
  clear hfr
  go_wp2
  (try simp only [Exit.inBlock, Exit.then])
  refine bodyPost_ret (v := .tuple #[clV 0 ⟨#[]⟩ (.slice none 0 0) (.slice none 0 0), .bool false]) ?_ rfl ⟨_, _, w1.heap.size, w1.heap.size, w1.heap.size, w1.heap.size, rfl, seven_own (own_none _ _ _) (by omega), seven_own (own_none _ _ _) (by omega), .inr (Nat.le_refl _), by omega, by omega, ?_, ?_, seven_below HX2.out.bl⟩
  · rw [results_cell_tmp rfl]
    go_simp
  · rw [seven_size]; omega
  · rw [seven_size]; omega

set_option maxRecDepth 100000 in
set_option maxHeartbeats 3200000 in
theorem sortI_none (A1 : Option Addr) (xs : List Int) (lo hi : Nat) (w : World) (hv : OwnI w lo hi (.slice A1 xs.length xs.length) xs) (hhi : hi ≤ w.heap.size) (hl : xs.length ≤ 1048576) (hm : permB xs = false) :
    Calls Try.prog 15 #[.slice A1 xs.length xs.length] w (AnsCl (csK xs) (popP xs) (csN xs) (csO xs) (csB xs) w) := by
  have hc : conB r231 xs = false := by unfold conB; rw [hm]; rfl
  have ho : popOk xs = false := by unfold popOk; rw [hm]; rfl
  rw [cs_none ho hc]
  have HX0 := Lib.hid (Rz.start w)
  have HV0 := Lib.hid (hv.keep HX0.out.bl hhi)
  have z0 : w.heap.size < (w.alloc (clO 0 ⟨#[]⟩ (.slice none 0 0) (.slice none 0 0))).heap.size := HX0.out.lt
  clear hv
  have HM := Lib.hid (fun w (hv : OwnI w lo hi (.slice A1 xs.length xs.length) xs) (hhi : hi ≤ w.heap.size) => isPermutationI _ xs _ lo hi w hv hhi)
  rw [hm] at HM
  go_enter Try.func15, Try.ntmps15
  go_wp2_with fail
  (with_reducible refine (HM.out _ HV0.out (by omega)).mono ?_)
  rintro e w1 ⟨rfl, hb⟩
  have z1 := hb.size
  have HX1 := Lib.hid (HX0.out.call hb (by omega))
  have HV1 := Lib.hid (HV0.out.keep hb (by omega))
  clear hb
  obtain ⟨⟨k0, k1, k2, k3, k4, k5, k6, -⟩, hfr, -, hsz⟩ := HX1.out
  have f0 := hfr 0 (by omega)
  have f1 := hfr 1 (by omega)
  have f2 := hfr 2 (by omega)
  have f3 := hfr 3 (by omega)
  have f4 := hfr 4 (by omega)
  have f5 := hfr 5 (by omega)
  have f6 := hfr 6 (by omega)
  clear hfr
  go_wp2
  (try simp only [Exit.inBlock, Exit.then])
  refine bodyPost_ret (v := .tuple #[clV 0 ⟨#[]⟩ (.slice none 0 0) (.slice none 0 0), .bool false]) ?_ rfl ⟨_, _, w1.heap.size, w1.heap.size, w1.heap.size, w1.heap.size, rfl, seven_own (own_none _ _ _) (by omega), seven_own (own_none _ _ _) (by omega), .inr (Nat.le_refl _), by omega, by omega, ?_, ?_, seven_below HX1.out.bl⟩
  · rw [results_cell_tmp rfl]
    go_simp
  · rw [seven_size]; omega
  · rw [seven_size]; omega

set_option maxRecDepth 100000 in
set_option maxHeartbeats 3200000 in
theorem sortI_pat (A1 : Option Addr) (xs : List Int) (lo hi : Nat) (w : World) (hv : OwnI w lo hi (.slice A1 xs.length xs.length) xs) (hhi : hi ≤ w.heap.size) (hl : xs.length ≤ 1048576) (hm : permB xs = true) (hc : conB r231 xs = true) :
    Calls Try.prog 15 #[.slice A1 xs.length xs.length] w (AnsCl (csK xs) (popP xs) (csN xs) (csO xs) (csB xs) w) := by
  have ho : popOk xs = false := by unfold popOk; rw [hm, hc]; rfl
  rw [cs_pat ho hc]
  have HX0 := Lib.hid (Rz.start w)
  have HV0 := Lib.hid (hv.keep HX0.out.bl hhi)
  have z0 : w.heap.size < (w.alloc (clO 0 ⟨#[]⟩ (.slice none 0 0) (.slice none 0 0))).heap.size := HX0.out.lt
  clear hv
  have HM := Lib.hid (fun w (hv : OwnI w lo hi (.slice A1 xs.length xs.length) xs) (hhi : hi ≤ w.heap.size) => isPermutationI _ xs _ lo hi w hv hhi)
  rw [hm] at HM
  have HQ := Lib.hid (fun w (hv : OwnI w lo hi (.slice A1 xs.length xs.length) xs) (hhi : hi ≤ w.heap.size) => patternOf231I _ xs _ lo hi w hv hhi)
  rw [hc] at HQ
  have HP := Lib.hid (fun w (hv : OwnI w lo hi (.slice A1 xs.length xs.length) xs) (hhi : hi ≤ w.heap.size) => pathOfPermutationI _ xs lo hi w hv hhi)
  rw [ho] at HP
  go_enter Try.func15, Try.ntmps15
  go_wp2_with fail
  (with_reducible refine (HM.out _ HV0.out (by omega)).mono ?_)
  rintro e w1 ⟨rfl, hb⟩
  have z1 := hb.size
  have HX1 := Lib.hid (HX0.out.call hb (by omega))
  have HV1 := Lib.hid (HV0.out.keep hb (by omega))
  clear hb
  go_wp2_with fail
  (with_reducible refine (cloneI _ xs _ lo hi _ HV1.out (by omega) hl).mono ?_)
  rintro e w2 ⟨v2, rfl, hr, hb⟩
  have z2 := hb.size
  have HX2 := Lib.hid (HX1.out.call hb (by omega))
  have HV2 := Lib.hid (HV1.out.keep hb (by omega))
  have HN := Lib.hid (OwnI.of_row hr)
  clear hb
  obtain ⟨A2, c2, rfl, -⟩ := id HN.out
  clear hr
  go_wp2_with fail
  (with_reducible refine (HQ.out _ HV2.out (by omega)).mono ?_)
  rintro e w3 ⟨v3, rfl, hq, hb⟩
  have z3 := hb.size
  have HX3 := Lib.hid (HX2.out.call hb (by omega))
  have HV3 := Lib.hid (HV2.out.keep hb (by omega))
  have HO := Lib.hid hq
  have HN3 := Lib.hid (HN.out.keep hb (Nat.le_refl _))
  clear hb
  obtain ⟨A3, c3, rfl, -⟩ := id hq
  clear hq
  obtain ⟨⟨k0, k1, k2, k3, k4, k5, k6, -⟩, hfr, -, hsz⟩ := HX3.out
  have f0 := hfr 0 (by omega)
  have f1 := hfr 1 (by omega)
  have f2 := hfr 2 (by omega)
  have f3 := hfr 3 (by omega)
  have f4 := hfr 4 (by omega)
  have f5 := hfr 5 (by omega)
  have f6 := hfr 6 (by omega)
  clear hfr
  go_wp2
  (try simp only [Exit.inBlock, Exit.then])
  refine bodyPost_ret (v := .tuple #[clV 4 ⟨#[]⟩ (.slice A2 xs.length c2) (.slice A3 (patP xs).length c3), .bool true]) ?_ rfl ⟨_, _, w1.heap.size, w2.heap.size, w2.heap.size, w3.heap.size, rfl, seven_own (HN3.out) (by omega), seven_own (HO.out) (by omega), .inl (Nat.le_refl _), by omega, by omega, ?_, ?_, seven_below HX3.out.bl⟩
  · rw [results_cell_tmp rfl]
    go_simp
  · rw [seven_size]; omega
  · rw [seven_size]; omega

set_option maxRecDepth 100000 in
set_option maxHeartbeats 3200000 in
theorem sortI_path (A1 : Option Addr) (xs : List Int) (lo hi : Nat) (w : World) (hv : OwnI w lo hi (.slice A1 xs.length xs.length) xs) (hhi : hi ≤ w.heap.size) (hl : xs.length ≤ 1048576) (hm : permB xs = true) (hc : conB r231 xs = false) :
    Calls Try.prog 15 #[.slice A1 xs.length xs.length] w (AnsCl (csK xs) (popP xs) (csN xs) (csO xs) (csB xs) w) := by
  have ho : popOk xs = true := by unfold popOk; rw [hm, hc]; rfl
  rw [cs_path ho]
  have HX0 := Lib.hid (Rz.start w)
  have HV0 := Lib.hid (hv.keep HX0.out.bl hhi)
  have z0 : w.heap.size < (w.alloc (clO 0 ⟨#[]⟩ (.slice none 0 0) (.slice none 0 0))).heap.size := HX0.out.lt
  clear hv
  have HM := Lib.hid (fun w (hv : OwnI w lo hi (.slice A1 xs.length xs.length) xs) (hhi : hi ≤ w.heap.size) => isPermutationI _ xs _ lo hi w hv hhi)
  rw [hm] at HM
  have HQ := Lib.hid (fun w (hv : OwnI w lo hi (.slice A1 xs.length xs.length) xs) (hhi : hi ≤ w.heap.size) => patternOf231I _ xs _ lo hi w hv hhi)
  rw [hc] at HQ
  have HP := Lib.hid (fun w (hv : OwnI w lo hi (.slice A1 xs.length xs.length) xs) (hhi : hi ≤ w.heap.size) => pathOfPermutationI _ xs lo hi w hv hhi)
  rw [ho] at HP
  go_enter Try.func15, Try.ntmps15
  go_wp2_with fail
  (with_reducible refine (HM.out _ HV0.out (by omega)).mono ?_)
  rintro e w1 ⟨rfl, hb⟩
  have z1 := hb.size
  have HX1 := Lib.hid (HX0.out.call hb (by omega))
  have HV1 := Lib.hid (HV0.out.keep hb (by omega))
  clear hb
  go_wp2_with fail
  (with_reducible refine (cloneI _ xs _ lo hi _ HV1.out (by omega) hl).mono ?_)
  rintro e w2 ⟨v2, rfl, hr, hb⟩
  have z2 := hb.size
  have HX2 := Lib.hid (HX1.out.call hb (by omega))
  have HV2 := Lib.hid (HV1.out.keep hb (by omega))
  have HN := Lib.hid (OwnI.of_row hr)
  clear hb
  obtain ⟨A2, c2, rfl, -⟩ := id HN.out
  clear hr
  go_wp2_with fail
  (with_reducible refine (HQ.out _ HV2.out (by omega)).mono ?_)
  rintro e w3 ⟨v3, rfl, hq, hb⟩
  have z3 := hb.size
  have HX3 := Lib.hid (HX2.out.call hb (by omega))
  have HV3 := Lib.hid (HV2.out.keep hb (by omega))
  have HO := Lib.hid hq
  have HN3 := Lib.hid (HN.out.keep hb (Nat.le_refl _))
  clear hb
  obtain ⟨A3, c3, rfl, -⟩ := id hq
  clear hq
  go_wp2_with fail
  (with_reducible refine (HP.out _ HV3.out (by omega)).mono ?_)
  rintro e w4 ⟨rfl, hb⟩
  have z4 := hb.size
  have HX4 := Lib.hid (HX3.out.call hb (by omega))
  have HV4 := Lib.hid (HV3.out.keep hb (by omega))
  have HN4 := Lib.hid (HN3.out.keep hb (by omega))
  clear hb
  obtain ⟨⟨k0, k1, k2, k3, k4, k5, k6, -⟩, hfr, -, hsz⟩ := HX4.out
  have f0 := hfr 0 (by omega)
  have f1 := hfr 1 (by omega)
  have f2 := hfr 2 (by omega)
  have f3 := hfr 3 (by omega)
  have f4 := hfr 4 (by omega)
  have f5 := hfr 5 (by omega)
  have f6 := hfr 6 (by omega)
  clear hfr
  go_wp2
  (try simp only [Exit.inBlock, Exit.then])
  refine bodyPost_ret (v := .tuple #[clV 3 (popP xs) (.slice A2 xs.length c2) (.slice none 0 0), .bool true]) ?_ rfl ⟨_, _, w1.heap.size, w2.heap.size, w1.heap.size, w1.heap.size, rfl, seven_own (HN4.out) (by omega), seven_own (own_none _ _ _) (by omega), .inr (Nat.le_refl _), by omega, by omega, ?_, ?_, seven_below HX4.out.bl⟩
  · rw [results_cell_tmp rfl]
    go_simp
  · rw [seven_size]; omega
  · rw [seven_size]; omega

theorem claimOfSorting (A1 : Option Addr) (xs : List Int) (lo hi : Nat) (w : World) (hv : OwnI w lo hi (.slice A1 xs.length xs.length) xs) (hhi : hi ≤ w.heap.size) (hl : xs.length ≤ 1048576) :
    Calls Try.prog 13 #[.slice A1 xs.length xs.length] w (AnsCl (csK xs) (popP xs) (csN xs) (csO xs) (csB xs) w) := by
  rcases ho : popOk xs with _ | _
  · rcases hc : conB r231 xs with _ | _
    · exact sort_none A1 xs lo hi w hv hhi hl ho hc
    · exact sort_pat A1 xs lo hi w hv hhi hl ho hc
  · exact sort_path A1 xs lo hi w hv hhi hl ho
theorem claimOfSortingI (A1 : Option Addr) (xs : List Int) (lo hi : Nat) (w : World) (hv : OwnI w lo hi (.slice A1 xs.length xs.length) xs) (hhi : hi ≤ w.heap.size) (hl : xs.length ≤ 1048576) :
    Calls Try.prog 15 #[.slice A1 xs.length xs.length] w (AnsCl (csK xs) (popP xs) (csN xs) (csO xs) (csB xs) w) := by
  rcases hm : permB xs with _ | _
  · exact sortI_none A1 xs lo hi w hv hhi hl hm
  · rcases hc : conB r231 xs with _ | _
    · exact sortI_path A1 xs lo hi w hv hhi hl hm hc
    · exact sortI_pat A1 xs lo hi w hv hhi hl hm hc

end Go.Proofs.Ytgeppabpkbepdaa
