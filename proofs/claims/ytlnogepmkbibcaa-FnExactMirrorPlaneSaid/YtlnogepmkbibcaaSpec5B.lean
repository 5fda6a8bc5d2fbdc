/- The contract of the model's PlaneOf. -/
import Derived.Test.YtlnogepmkbibcaaPlainH
import Derived.Test.YtlnogepmkbibcaaSpec2D
import Derived.Test.YtlnogepmkbibcaaSpec5A
namespace Go.Proofs.Ytlnogepmkbibcaa
open Go.ChangeShapes Go.WideShapes Go.ChangeAt Go.RowKit
open Go.PlainAid (bt bt_nonneg bt_le get_bt)
set_option linter.unusedVariables false

theorem ga_old {α : Type} (l : List α) (x d : α) (j : Nat) (h : j < l.length) : (l ++ [x]).getD j d = l.getD j d := by
  rw [List.getD_eq_getElem?_getD, List.getElem?_append_left h, ← List.getD_eq_getElem?_getD]
theorem ga_new {α : Type} (l : List α) (x d : α) (j : Nat) (h : j = l.length) : (l ++ [x]).getD j d = x := by subst h; simp [List.getD]
/-- The parents and the vertex that is open, behind the first i letters. -/
def plSt (s : ByteArray) : Nat → List Int × Int
  | 0 => ([-1], 0)
  | i + 1 => if bt s i = 117 then ((plSt s i).1 ++ [(plSt s i).2], ((plSt s i).1.length : Int)) else ((plSt s i).1, (plSt s i).1.getD (plSt s i).2.toNat 0)
theorem plSt_up {s : ByteArray} {i : Nat} (h : bt s i = 117) : plSt s (i + 1) = ((plSt s i).1 ++ [(plSt s i).2], ((plSt s i).1.length : Int)) := by rw [plSt, if_pos h]
theorem plSt_down {s : ByteArray} {i : Nat} (h : bt s i ≠ 117) : plSt s (i + 1) = ((plSt s i).1, (plSt s i).1.getD (plSt s i).2.toNat 0) := by rw [plSt, if_neg h]
def planeL (s : ByteArray) : List Int := (plSt s s.size).1
def planeOfP (s : ByteArray) : List Int := if dyck s = true then planeL s else []
/-- The open vertices, from the root on, hang on each other. -/
def PlI (s : ByteArray) (i : Nat) : Prop :=
  (plSt s i).1.length ≤ i + 1 ∧ ∃ gs : List Nat, (gs.length : Int) = hAt s i + 1 ∧ (plSt s i).2 = (gs.getD (gs.length - 1) 0 : Int) ∧ (∀ j, j + 1 < gs.length → (plSt s i).1.getD (gs.getD (j + 1) 0) 0 = (gs.getD j 0 : Int)) ∧ ∀ j, j < gs.length → gs.getD j 0 < (plSt s i).1.length
theorem plI_all {s : ByteArray} (hd : dyck s = true) : ∀ i, i ≤ s.size → PlI s i := by
  intro i
  induction i with
  | zero =>
    intro _
    refine ⟨Nat.le_refl _, [0], by rw [hAt_zero]; rfl, rfl, fun j h => by simp at h, fun j h => ?_⟩
    obtain rfl : j = 0 := by simpa using h
    exact Nat.zero_lt_one
  | succ i ih =>
    intro hi
    obtain ⟨h0, gs, h1, h2, h3, h4⟩ := ih (by omega)
    have hb := get_bt s i (by omega)
    have hnn := (hAt_fit hd i (by omega)).1
    by_cases e : bt s i = 117
    · have hu := hAt_up s i (by omega) (by omega)
      unfold PlI
      rw [plSt_up e]
      refine ⟨by simp; omega, gs ++ [(plSt s i).1.length], by simp [hu]; omega, ?_, fun j hj => ?_, fun j hj => ?_⟩
      · show ((plSt s i).1.length : Int) = _
        rw [ga_new _ _ _ _ (by simp)]
      · simp only [List.length_append, List.length_singleton] at hj
        show ((plSt s i).1 ++ [(plSt s i).2]).getD _ 0 = _
        by_cases hjl : j + 1 < gs.length
        · rw [ga_old _ _ _ _ hjl, ga_old _ _ _ j (by omega), ← h3 j hjl, ga_old _ _ _ _ (h4 (j + 1) hjl)]
        · have hjj : j + 1 = gs.length := by omega
          rw [ga_new _ _ _ _ hjj, ga_old _ _ _ j (by omega), ga_new _ _ _ _ rfl, h2, show gs.length - 1 = j by omega]
      · simp only [List.length_append, List.length_singleton] at hj ⊢
        by_cases hjl : j < gs.length
        · have := h4 j hjl
          rw [ga_old _ _ _ _ hjl]; omega
        · rw [ga_new _ _ _ _ (by omega)]; omega
    · have hu := hAt_down s i (by omega) (by omega)
      have hz := (hAt_fit hd (i + 1) hi).1
      obtain ⟨m, hm⟩ : ∃ m, gs.length = m + 2 := ⟨gs.length - 2, by omega⟩
      unfold PlI
      rw [plSt_down e]
      have hdl : ∀ j, j < m + 1 → (gs.dropLast).getD j 0 = gs.getD j 0 := by
        intro j hj
        simp only [List.getD]
        rw [List.getElem?_dropLast, if_pos (by omega)]
      have hlen : gs.dropLast.length = m + 1 := by rw [List.length_dropLast, hm]; rfl
      refine ⟨by show (plSt s i).1.length ≤ _; omega, gs.dropLast, by rw [hlen, hu]; omega, ?_, fun j hj => ?_, fun j hj => ?_⟩
      · show (plSt s i).1.getD (plSt s i).2.toNat 0 = _
        rw [hlen, hdl (m + 1 - 1) (by omega), h2, show gs.length - 1 = m + 1 by omega]
        exact h3 m (by omega)
      · rw [hlen] at hj
        rw [hdl _ hj, hdl j (by omega)]
        exact h3 j (by omega)
      · rw [hlen] at hj
        rw [hdl j hj]
        exact h4 j (by omega)
theorem plI_at {s : ByteArray} {i : Nat} (h : PlI s i) (hn : 0 ≤ hAt s i) : 0 ≤ (plSt s i).2 ∧ (plSt s i).2 < ((plSt s i).1.length : Int) := by
  obtain ⟨-, gs, h1, h2, -, h4⟩ := h
  have := h4 (gs.length - 1) (by omega)
  omega

theorem row_one (w : World) (x : Int) : (w.alloc (.cells #[.int .i64 x] 3)).ownsRow w.heap.size 3 1 (.slice (some ⟨w.heap.size, 0, none⟩) 1 1) 1 [.int .i64 x] :=
  ⟨rfl, .inr ⟨w.heap.size, 1, _, rfl, Nat.le_refl _, heap_alloc_new w _, Nat.le_refl _, by decide, rfl, rfl⟩⟩
/-- A function that answers the ints xs in memory of its own, and whether. -/
def AnsIP (xs : List Int) (b : Bool) (w : World) (e : Ending) (w' : World) : Prop := ∃ v, e = .returned (.tuple #[v, .bool b]) ∧ OwnI w' w.heap.size w'.heap.size v xs ∧ Below w.heap.size w w'

set_option maxRecDepth 100000 in
set_option maxHeartbeats 1600000 in
theorem planeOf (s : ByteArray) (w : World) (hs : s.size ≤ 1099511627776) : Calls Try.prog 14 #[.string s] w (AnsIP (planeOfP s) (dyck s) w) := by
  rcases hd : dyck s with _ | _
  · have HP := Lib.hid (show planeOfP s = [] from if_neg (by simp [hd]))
    have HD := Lib.hid hd
    clear hd
    go_enter Try.func14, Try.ntmps14
    go_wp2
    refine wp_loop_rounds 1 ?_
    rw [rounds_succ]
    by_cases h0 : s.size = 0
    · have h0' : ¬ (0 : Int) < (s.size : Int) := by omega
      have HZ := Lib.hid h0
      clear h0
      go_wp2_with fail
      (with_reducible refine (isDyck_no s _ hs HD.out).mono ?_)
      rintro e w' ⟨rfl, rfl⟩
      go_wp2
      go_ret2
      exact ⟨_, rfl, by rw [HP.out]; exact ⟨_, _, rfl, .inl rfl⟩, ((Below.refl _ _).alloc (Nat.le_refl _) _).alloc (by simp) _⟩
    · have h0' : (0 : Int) < (s.size : Int) := by omega
      have HZ := Lib.hid h0
      clear h0
      go_wp2_with fail
      (with_reducible refine (isDyck_no s _ hs HD.out).mono ?_)
      rintro e w' ⟨rfl, rfl⟩
      go_wp2_with fail
      (with_reducible refine (isDyck_no s _ hs HD.out).mono ?_)
      rintro e w' ⟨rfl, rfl⟩
      go_wp2
      go_ret2
      exact ⟨_, rfl, by rw [HP.out]; exact ⟨_, _, rfl, .inl rfl⟩, ((Below.refl _ _).alloc (Nat.le_refl _) _).alloc (by simp) _⟩
  · have HP := Lib.hid (show planeOfP s = (plSt s s.size).1 from if_pos hd)
    have HD := Lib.hid hd
    have h16 := dyck_size hd
    have HI := Lib.hid (fun i hi => plI_all hd i hi)
    have HN := Lib.hid (fun i hi => (hAt_fit hd i hi).1)
    clear hd
    go_enter Try.func14, Try.ntmps14
    go_wp2
    go_loopw [4, 5, 6] (fun v a y wr => ∃ i : Nat, i ≤ s.size ∧ y = .int .i64 i ∧ a = .int .i64 (plSt s i).2 ∧ wr.ownsRow w.heap.size 3 1 v (plSt s i).1.length ((plSt s i).1.map (Value.int .i64)) ∧ Below w.heap.size w wr)
      (fun _ _ y _ => s.size - (intOf y).toNat)
    case atStart => exact ⟨0, Nat.zero_le _, rfl, rfl, row_one w (-1), (Below.refl _ _).alloc (Nat.le_refl _) _⟩
    case round =>
      obtain ⟨i, hi, rfl, rfl, hown, hb⟩ := hrel
      have hB := hb.size
      have hI := HI.out i hi
      obtain ⟨a0, a1⟩ := plI_at hI (HN.out i hi)
      have hl := hI.1
      clear hI
      by_cases hlt : i < s.size
      · have hii : (i : Int) < (s.size : Int) := by omega
        have hbt := get_bt s
        by_cases e1 : bt s i = 117
        · have b1 : (bt s i == 117) = true := by simp [e1]
          have HSU := Lib.hid (plSt_up e1)
          clear e1
          generalize (plSt s i).1 = ol at *
          generalize (plSt s i).2 = at1 at *
          go_wp2_with fail
          (with_reducible refine (isDyck_yes s _ hs HD.out).mono ?_)
          rintro e w' ⟨rfl, rfl⟩
          go_wp2_with (at_builtin; go_must (refine wpAppInt rfl _ _ rfl w.heap.size u4 _ _ rfl (hown.alloc _) wr.heap.size _ _ rfl (cell_one _ _ _) (by omega) (base_up hB) ?_); intro v' w' hown' hg'; obtain ⟨A5, c5, rfl, -⟩ := id (OwnI.of_row hown'))
          go_roundw
          case rel => exact ⟨i + 1, by omega, by simp, by rw [HSU.out], by rw [HSU.out]; simpa using hown', (hb.alloc hB _).grown hg' (base_up hB) (fun k hk => (hown.lt k hk).1)⟩
          case measure => simp [intOf]; omega
        · have b1 : (bt s i == 117) = false := by simp [e1]
          have HSU := Lib.hid (plSt_down e1)
          clear e1
          generalize (plSt s i).1 = ol at *
          generalize (plSt s i).2 = at1 at *
          obtain ⟨k, rfl⟩ : ∃ k : Nat, at1 = k := ⟨at1.toNat, by omega⟩
          have hOW := OwnI.of_row hown
          obtain ⟨g1, p1, e1, -, -, hc1, -⟩ := hOW.cell (j := k) (by omega)
          subst e1
          have hki : (k : Int) < (ol.length : Int) := by omega
          have HOWN := Lib.hid hown
          clear hown hOW
          have HSU2 := Lib.hid (show (plSt s (i + 1)).2 = ol.getD k 0 by rw [HSU.out]; rfl)
          generalize ol.getD k 0 = y at hc1 HSU2
          go_wp2_with fail
          (with_reducible refine (isDyck_yes s _ hs HD.out).mono ?_)
          rintro e w' ⟨rfl, rfl⟩
          go_wp2
          exact ⟨⟨i + 1, by omega, by simp, by rw [HSU2.out], by rw [HSU.out]; exact HOWN.out, hb⟩, by simp [intOf]; omega⟩
      · obtain rfl : i = s.size := by omega
        have HOW := Lib.hid (OwnI.of_row hown)
        clear hown
        generalize (plSt s s.size).1 = ol at *
        go_wp2_with fail
        (with_reducible refine (isDyck_yes s _ hs HD.out).mono ?_)
        rintro e w' ⟨rfl, rfl⟩
        go_wp2
        go_ret2
        exact ⟨_, rfl, by rw [HP.out]; exact HOW.out, hb⟩

end Go.Proofs.Ytlnogepmkbibcaa
