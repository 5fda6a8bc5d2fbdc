/- The contract of the program's NextPath. -/
import Derived.Test.YtjjaildejonmfaaImpl3N
import Derived.Test.YtjjaildejonmfaaArr16
import Derived.Laws.BytesArg
namespace Go.Proofs.Ytjjaildejonmfaa
open Go.ChangeShapes Go.WideShapes Go.ChangeAt Go.RowKit
set_option linter.unusedVariables false

theorem nx_ne : ∀ (l : List UInt8) (u d : Nat) (x : List UInt8), nxL l u d = some x → x ≠ l := by
  intro l
  induction l with
  | nil => intro u d x h; rw [nxL] at h; cases h
  | cons c l ih =>
    intro u d x h
    by_cases e : c.toNat = 117
    · rw [nxL_up _ _ _ _ e] at h
      rcases hx : nxL l (u - 1) d with _ | y
      · rw [hx] at h
        by_cases hlt : u < d
        · simp only [hlt, if_true, Option.some.injEq] at h
          subst h
          intro hh
          simp only [List.cons.injEq] at hh
          rw [← hh.1] at e
          exact absurd e (by decide)
        · simp [hlt] at h
      · rw [hx] at h
        simp only [Option.some.injEq] at h
        subst h
        intro hh
        simp only [List.cons.injEq] at hh
        exact ih _ _ _ hx hh.2
    · rw [nxL_down _ _ _ _ e] at h
      rcases hx : nxL l u (d - 1) with _ | y
      · rw [hx] at h; cases h
      · rw [hx] at h
        simp only [Option.some.injEq] at h
        subst h
        intro hh
        simp only [List.cons.injEq] at hh
        exact ih _ _ _ hx hh.2
theorem nx_len : ∀ (l : List UInt8) (h u d : Nat) (x : List UInt8), ends h u d l → nxL l u d = some x → x.length = l.length := by
  intro l
  induction l with
  | nil => intro h u d x _ hx; rw [nxL] at hx; cases hx
  | cons c l ih =>
    intro h u d x he hx
    have hlen := he.2.2
    by_cases e : c.toNat = 117
    · obtain ⟨h1, h2⟩ := ends_up he e
      rw [nxL_up _ _ _ _ e] at hx
      rcases hy : nxL l (u - 1) d with _ | y
      · rw [hy] at hx
        by_cases hlt : u < d
        · simp only [hlt, if_true, Option.some.injEq] at hx
          subst hx
          rw [List.length_cons, frL_len]
          rw [List.length_cons] at hlen ⊢
          omega
        · simp [hlt] at hx
      · rw [hy] at hx
        simp only [Option.some.injEq] at hx
        subst hx
        rw [List.length_cons, List.length_cons, ih _ _ _ _ h2 hy]
    · obtain ⟨h1, h2, h3⟩ := ends_down he e
      rw [nxL_down _ _ _ _ e] at hx
      rcases hy : nxL l u (d - 1) with _ | y
      · rw [hy] at hx; cases hx
      · rw [hy] at hx
        simp only [Option.some.injEq] at hx
        subst hx
        rw [List.length_cons, List.length_cons, ih _ _ _ _ h3 hy]
theorem next_none {s : ByteArray} (hd : dyck s = true) (h : nxL (rest s 0) (cU (rest s 0)) (cD (rest s 0)) = none) : nextOk s = false ∧ nextP s = ⟨#[]⟩ ∧ nxS s = s.data.toList := by
  obtain ⟨c1, c2⟩ := c_start hd
  have h16 := dyck_size hd
  have hx : nxS s = s.data.toList := by unfold nxS; rw [h]; rfl
  rw [c1, c2] at h
  have hr := (nx_rank _ _ _ _ (ends_start hd) (by omega) (by omega)).1 h
  have hrk : rankP s = rkL (rest s 0) (s.size / 2) (s.size / 2) := if_pos hd
  have hno := unr_no (n := ((s.size / 2 : Nat) : Int)) (k := rankP s + 1) (fun hg => by
    have := hg.2.2.2
    rw [hrk] at this
    simp only [Int.toNat_natCast] at this
    omega)
  exact ⟨by unfold nextOk; rw [if_pos hd]; exact hno.1, by unfold nextP; rw [if_pos hd]; exact hno.2, hx⟩
theorem next_some {s : ByteArray} {x : List UInt8} (hd : dyck s = true) (h : nxL (rest s 0) (cU (rest s 0)) (cD (rest s 0)) = some x) : nextOk s = true ∧ nextP s = ⟨x.toArray⟩ ∧ nxS s = x ∧ x ≠ s.data.toList ∧ x.length = s.size := by
  obtain ⟨c1, c2⟩ := c_start hd
  have h16 := dyck_size hd
  have hx : nxS s = x := by unfold nxS; rw [h]; rfl
  have hne := nx_ne _ _ _ _ h
  rw [c1, c2] at h
  have hl := nx_len _ _ _ _ _ (ends_start hd) h
  obtain ⟨r1, r2⟩ := (nx_rank _ _ _ _ (ends_start hd) (by omega) (by omega)).2 x h
  have hrk : rankP s = rkL (rest s 0) (s.size / 2) (s.size / 2) := if_pos hd
  have h0 := (rankP_bd hd).1
  have hyes := unr_yes (n := ((s.size / 2 : Nat) : Int)) (k := rankP s + 1) ⟨by omega, by omega, by omega, by simp only [Int.toNat_natCast]; rw [hrk]; exact r1⟩
  refine ⟨by unfold nextOk; rw [if_pos hd]; exact hyes.1, ?_, hx, hne, by rw [hl, rest_zero]; simp⟩
  unfold nextP
  rw [if_pos hd, hyes.2]
  simp only [Int.toNat_natCast]
  rw [hrk, r2]
theorem first_row {s : ByteArray} (h16 : s.size ≤ 16) : ((cells16 []).toList.take 0 ++ Lib.byteCells s.data.toList ++ (cells16 []).toList.drop (0 + s.size)).toArray = cells16 s.data.toList := by
  have hS : s.data.toList.length = s.size := by simp
  have hlb := Lib.byteCells_length s.data.toList
  have hc := cells16_size []
  apply cells16_eq
  · simp [Lib.byteCells_length, hc]; omega
  · intro q hq
    rw [List.getElem?_toArray, List.take_zero, List.nil_append]
    by_cases h : q < s.size
    · rw [List.getElem?_append_left (by omega)]
      unfold Lib.byteCells lrow
      rw [List.getElem?_map, List.getD_eq_getElem?_getD, List.getElem?_eq_getElem (by omega)]
      rfl
    · rw [List.getElem?_append_right (by omega), List.getElem?_drop, hlb, hS, show 0 + s.size + (q - s.size) = q by omega, Array.getElem?_toList, cells16_get _ _ hq]
      congr 2
      unfold lrow
      rw [List.getD_eq_getElem?_getD, List.getD_eq_getElem?_getD, List.getElem?_eq_none (by simp), List.getElem?_eq_none (by omega)]
theorem all_same (l : List UInt8) : ((List.range' 0 16).all fun q => lrow l q == lrow l q) = true := by simp
theorem all_other {x l : List UInt8} (hne : x ≠ l) (h1 : x.length = l.length) (h2 : l.length ≤ 16) : ((List.range' 0 16).all fun q => lrow x q == lrow l q) = false := by
  rw [Bool.eq_false_iff]
  intro h
  apply hne
  rw [List.all_eq_true] at h
  apply List.ext_getElem h1
  intro i hi hi'
  have := h i (by simp [List.mem_range']; omega)
  simp only [beq_iff_eq, lrow] at this
  rw [List.getD_eq_getElem?_getD, List.getD_eq_getElem?_getD, List.getElem?_eq_getElem hi, List.getElem?_eq_getElem hi'] at this
  simp only [Option.getD_some] at this
  exact UInt8.toNat_inj.1 (by omega)
theorem out_str {x : List UInt8} : strOfNums ((List.range x.length).map (lrow x)) = ⟨x.toArray⟩ := by
  unfold strOfNums
  congr 2
  apply List.ext_getElem (by simp)
  intro i h1 h2
  simp [lrow, h2]
theorem TabL.conv {w : World} {g n : Nat} {x : List UInt8} (h : TabL w g x) (hl : x.length = n) (hn : n ≤ 16) (c : Nat) : (convert 22 9 (.slice (some ⟨g, 0, none⟩) n c)).run Try.prog w = .ok (.string ⟨x.toArray⟩) w := by
  rw [← out_str, hl]
  refine run_convert_bytes_arg w 22 5 Try.underlying22 Try.underlying5 g 0 n c _ (by simp) (fun i hi => ?_) 9 Try.underlying9
  rw [Nat.zero_add, (h.cell (by omega)).1]
  simp [List.getD, hi]

set_option maxRecDepth 100000 in
set_option maxHeartbeats 3200000 in
theorem nextPathI (s : ByteArray) (w : World) : Calls Try.prog 83 #[.string s] w fun e w' => e = .returned (.tuple #[.string (nextP s), .bool (nextOk s)]) ∧ Below w.heap.size w w' := by
  rcases hd : dyck s with _ | _
  · have HP := Lib.hid (show nextOk s = false ∧ nextP s = ⟨#[]⟩ by unfold nextOk nextP; rw [hd]; exact ⟨rfl, rfl⟩)
    have HD := Lib.hid hd
    clear hd
    go_enter Try.func83, Try.ntmps83
    go_wp2_with fail
    (with_reducible refine (isDyckI_no s _ HD.out).mono ?_)
    rintro e w' ⟨rfl, hb⟩
    go_wp2
    go_ret2
    exact ⟨ret_sb HP.out.2.symm HP.out.1.symm, hb⟩
  · have HD := Lib.hid hd
    have h16 := dyck_size hd
    have hz := zeroL
    have HFR := Lib.hid (first_row h16)
    have HC0 := Lib.hid (cells16_size [])
    have HC1 := Lib.hid (cells16_size s.data.toList)
    clear hd
    generalize hzz : cells16 [] = zz at hz HFR HC0
    have HZZ := Lib.hid hzz
    clear hzz
    go_enter Try.func83, Try.ntmps83
    go_wp2_with fail
    (with_reducible refine (isDyckI_yes s _ HD.out).mono ?_)
    rintro e w1 ⟨rfl, hb⟩
    have HB1 := Lib.hid hb
    have z1 := hb.size
    clear hb
    have hg0 : (w1.alloc (.cells zz 99)).heap[w1.heap.size]? = some (.cells zz 99 (0, 0)) := heap_alloc_new w1 _
    have hcopy : (Builtin.copy_ #[22, 9] 3 #[.slice (some ⟨w1.heap.size, 0, none⟩) 16 16, .string s]).run Try.prog (w1.alloc (.cells zz 99)) = .ok (goInt s.size) ((w1.alloc (.cells zz 99)).setRow w1.heap.size (cells16 s.data.toList)) := by
      have h := Lib.run_copy_row_string (P := Try.prog) (w1.alloc (.cells zz 99)) 22 9 3 5 w1.heap.size 0 16 16 s zz 99 Try.underlying22 (by kernel_rfl) hg0 h16 (by rw [HC0.out]; omega)
      rw [h, HFR.out]
    have hBW := Lib.hid (below_setRow (HB1.out.alloc z1 (.cells zz 99)) z1 (cells16 s.data.toList))
    have hGW := Lib.hid (setRow_heap _ w1.heap.size zz (cells16 s.data.toList) _ (0, 0) hg0)
    have hZW := Lib.hid (show ((w1.alloc (.cells zz 99)).setRow w1.heap.size (cells16 s.data.toList)).heap.size = w1.heap.size + 1 by simp)
    have hNL := Lib.hid (fun w => nextLetters s w HD.out)
    have HONE := Lib.hid (cells16_one (nxS s))
    have HX0 := Lib.hid (cells16_size (nxS s))
    have HCMP := Lib.hid (fun w : World => eqlArr (cells16 (nxS s)) (cells16 s.data.toList) w (lrow (nxS s)) (lrow s.data.toList) (fun q hq => cells16_get _ q hq) (fun q hq => cells16_get _ q hq))
    have HTL := Lib.hid (show ∀ (w : World) (g : Nat), w.heap[g]? = some (.cells (cells16 (nxS s)) 99 (0, 0)) → TabL w g (nxS s) from fun _ _ h => h)
    clear hg0
    generalize cells16 s.data.toList = cs at *
    generalize cells16 (nxS s) = xs at *
    generalize (w1.alloc (.cells zz 99)).setRow w1.heap.size cs = W2 at *
    go_wp2_with (refine wpList_load_row rfl _ _ rfl w1.heap.size rfl 99 cs (0, 0) _ hGW.out Try.underlying99 rfl (by rw [HC1.out]; exact sizeL) ?_)
    clear hcopy
    refine (hNL.out _).mono ?_
    rintro e w3 ⟨rfl, hb⟩
    have HB3 := Lib.hid (hBW.out.trans (hb.mono (by rw [hZW.out]; omega)))
    have HG3 := Lib.hid ((hb.block w1.heap.size (by rw [hZW.out]; omega)).trans hGW.out)
    have hlt3 : w1.heap.size < w3.heap.size := by have := hb.size; rw [hZW.out] at this; omega
    clear hb
    have HZ3 := Lib.hid (show (w3.alloc (.cells zz 99)).heap[w3.heap.size]? = some (.cells zz 99 (0, 0)) from heap_alloc_new w3 _)
    have HG4 := Lib.hid (show ((w3.alloc (.cells zz 99)).setRow w3.heap.size xs).heap[w1.heap.size]? = some (.cells cs 99 (0, 0)) by
      rw [setRow_other _ _ _ _ (by omega), Lib.alloc_old _ _ _ hlt3]; exact HG3.out)
    have HX4 := Lib.hid (setRow_heap _ w3.heap.size zz xs _ (0, 0) HZ3.out)
    have HB4 := Lib.hid (below_setRow (HB3.out.alloc (by omega) (.cells zz 99)) (show w.heap.size ≤ w3.heap.size by omega) xs)
    have hT4 := HTL.out _ _ HX4.out
    rcases hnx : nxL (rest s 0) (cU (rest s 0)) (cD (rest s 0)) with _ | x
    · obtain ⟨n1, n2, n3⟩ := next_none HD.out hnx
      have HN := Lib.hid (And.intro n1 n2)
      have hcmp := HCMP.out
      rw [n3, all_same] at hcmp
      clear n1 n2 n3 hnx hT4
      go_wp2_with (first
        | (refine wpList_store_row rfl _ _ _ rfl w3.heap.size xs rfl rfl 99 zz HZ3.out (by rw [HX0.out]; exact sizeL) (by rw [HC0.out, HX0.out]) HONE.out ?_)
        | (refine wpList_load_row rfl _ _ rfl w3.heap.size rfl 99 xs (0, 0) _ HX4.out Try.underlying99 rfl (by rw [HX0.out]; exact sizeL) ?_)
        | (refine wpList_load_row rfl _ _ rfl w1.heap.size rfl 99 cs (0, 0) _ HG4.out Try.underlying99 rfl (by rw [HC1.out]; exact sizeL) ?_))
      go_ret2
      exact ⟨ret_sb HN.out.2.symm HN.out.1.symm, HB4.out⟩
    · obtain ⟨n1, n2, n3, n4, n5⟩ := next_some HD.out hnx
      have HN := Lib.hid (And.intro n1 n2)
      have hcmp := HCMP.out
      rw [n3, all_other n4 (by rw [n5]; simp) (by simpa using h16)] at hcmp
      rw [n3] at hT4
      have hcv := hT4.conv n5 h16 16
      have hs16 : (s.size : Int) ≤ 16 := by omega
      clear n1 n2 n3 n4 n5 hnx hT4
      go_wp2_with (first
        | (refine wpList_store_row rfl _ _ _ rfl w3.heap.size xs rfl rfl 99 zz HZ3.out (by rw [HX0.out]; exact sizeL) (by rw [HC0.out, HX0.out]) HONE.out ?_)
        | (refine wpList_load_row rfl _ _ rfl w3.heap.size rfl 99 xs (0, 0) _ HX4.out Try.underlying99 rfl (by rw [HX0.out]; exact sizeL) ?_)
        | (refine wpList_load_row rfl _ _ rfl w1.heap.size rfl 99 cs (0, 0) _ HG4.out Try.underlying99 rfl (by rw [HC1.out]; exact sizeL) ?_))
      go_ret2
      exact ⟨ret_sb HN.out.2.symm HN.out.1.symm, HB4.out⟩

end Go.Proofs.Ytjjaildejonmfaa
