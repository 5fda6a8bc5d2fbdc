/- Merged by program out of: StrB PlainKb Impl4Cb Impl4Z Impl9A Fact23 TkB Spec23A Loop23 Spec24A Impl9R Cross. -/
import Derived.BigQuiet
import Derived.RangeFuncNested
import Derived.RangeFuncBound
import Derived.RangeFuncCalls
import Derived.RangeFuncLeaves
import Derived.Shelf.Abstract
import Derived.WalkKit
import Derived.OwnWalkIn
import Derived.TacticsInMore
import Derived.LoopNIn
import Derived.LoopIn
import Derived.Test.YtgaggpdlpcldeaaKA
import Derived.Test.YtgaggpdlpcldeaaKB
import Derived.Test.YtgaggpdlpcldeaaKC
section
namespace Go.Proofs.Ytgaggpdlpcldeaa
open Go.ChangeShapes Go.WideShapes Go.ChangeAt Go.RowKit
open Go.PlainAid (bt bt_nonneg bt_le get_bt bt_end)
set_option linter.unusedVariables false

theorem str_ext {a b : ByteArray} (h : a.size = b.size) (hb : ∀ k, k < a.size → bt a k = bt b k) : a = b := by
  apply ByteArray.ext
  apply Array.ext h
  intro i h1 h2
  have := hb i h1
  rw [← get_bt a i h1, ← get_bt b i h2] at this
  apply UInt8.toNat_inj.1
  have e1 : a.data[i] = a[i]'h1 := rfl
  have e2 : b.data[i] = b[i]'h2 := rfl
  rw [e1, e2]; omega
theorem bt_at_or (s : ByteArray) (k : Nat) : bt s k = (s.data.toList.map fun c => (c.toNat : Int)).getD k 0 := by
  by_cases h : k < s.size
  · rw [← get_bt s k h, List.getD_eq_getElem?_getD, List.getElem?_eq_getElem (by simpa using h)]
    simp; rfl
  · rw [bt_end s (by omega), List.getD_eq_getElem?_getD, List.getElem?_eq_none (by simpa using h)]
    rfl
theorem bt_app (a b : ByteArray) (q : Nat) : bt (a ++ b) q = if q < a.size then bt a q else bt b (q - a.size) := by
  rw [bt_at_or, ByteArray.data_append, Array.toList_append, List.map_append]
  have hl : (a.data.toList.map fun c => (c.toNat : Int)).length = a.size := by simp
  split
  · rename_i h
    rw [bt_at_or, List.getD_eq_getElem?_getD, List.getElem?_append_left (by omega), List.getD_eq_getElem?_getD]
  · rename_i h
    rw [bt_at_or, List.getD_eq_getElem?_getD, List.getElem?_append_right (by omega), List.getD_eq_getElem?_getD, hl]
theorem bt_ext (s : ByteArray) (a b q : Nat) (hb : b ≤ s.size) (h : a + q < b) : bt (s.extract a b) q = bt s (a + q) := by
  rw [bt_at_or, bt_at_or, ByteArray.data_extract, Array.toList_extract, List.extract_eq_take_drop, List.getD_eq_getElem?_getD, List.getD_eq_getElem?_getD, List.getElem?_map, List.getElem?_map, List.getElem?_take, if_pos (by omega), List.getElem?_drop]
theorem bt_nums (f : Nat → Int) (n q : Nat) (h : q < n) (h0 : 0 ≤ f q) (h1 : f q ≤ 255) : bt (strOfNums ((List.range n).map f)) q = f q := by
  rw [bt_at_or]
  unfold strOfNums
  simp only [List.map_map, List.getD_eq_getElem?_getD, List.getElem?_map, List.getElem?_range h, Option.map_some, Option.getD_some, Function.comp]
  rw [UInt8.toNat_ofNat']
  omega
theorem nums_size (f : Nat → Int) (n : Nat) : (strOfNums ((List.range n).map f)).size = n := by
  unfold strOfNums; rw [str_len]; simp

end Go.Proofs.Ytgaggpdlpcldeaa
end

section
namespace Go.Proofs.Ytgaggpdlpcldeaa
open Go.ChangeShapes Go.WideShapes Go.ChangeAt Go.RowKit
open Go.PlainAid (bt bt_nonneg bt_le get_bt)
set_option linter.unusedVariables false

/-- The places of the letters u that are open behind the first i letters. -/
def stk (s : ByteArray) : Nat → List Nat
  | 0 => []
  | i + 1 => if bt s i = 117 then stk s i ++ [i] else (stk s i).dropLast
theorem stk_up {s : ByteArray} {i : Nat} (h : bt s i = 117) : stk s (i + 1) = stk s i ++ [i] := by rw [stk, if_pos h]
theorem stk_down {s : ByteArray} {i : Nat} (h : bt s i ≠ 117) : stk s (i + 1) = (stk s i).dropLast := by rw [stk, if_neg h]
/-- What is known of the open letters. -/
def StkOk (s : ByteArray) (i : Nat) : Prop :=
  ((stk s i).length : Int) = hAt s i ∧ ∀ (j : Nat) (h : j < (stk s i).length), (stk s i)[j] < i ∧ bt s (stk s i)[j] = 117 ∧ hAt s (stk s i)[j] = j ∧ ∀ q, (stk s i)[j] < q → q ≤ i → (j : Int) + 1 ≤ hAt s q
theorem stk_ok {s : ByteArray} (hd : dyck s = true) : ∀ i, i ≤ s.size → StkOk s i := by
  intro i
  induction i with
  | zero => intro _; exact ⟨by rw [hAt_zero]; rfl, fun j h => by simp [stk] at h⟩
  | succ i ih =>
    intro hi
    obtain ⟨h1, h2⟩ := ih (by omega)
    have hb := get_bt s i (by omega)
    by_cases e : bt s i = 117
    · have hu := hAt_up s i (by omega) (by omega)
      unfold StkOk
      rw [stk_up e]
      refine ⟨by rw [List.length_append, hu, ← h1]; simp, fun j h => ?_⟩
      rw [List.length_append, List.length_singleton] at h
      by_cases hj : j < (stk s i).length
      · obtain ⟨a, b, c, d⟩ := h2 j hj
        rw [List.getElem_append_left hj]
        refine ⟨by omega, b, c, fun q q1 q2 => ?_⟩
        by_cases hq : q ≤ i
        · exact d q q1 hq
        · obtain rfl : q = i + 1 := by omega
          rw [hu]; omega
      · obtain rfl : j = (stk s i).length := by omega
        have e2 : (stk s i ++ [i])[(stk s i).length]'(by simp) = i := by simp
        rw [e2]
        refine ⟨by omega, e, h1.symm, fun q q1 q2 => ?_⟩
        obtain rfl : q = i + 1 := by omega
        rw [hu]; omega
    · have hu := hAt_down s i (by omega) (by omega)
      have h0 := (hAt_fit hd (i + 1) hi).1
      unfold StkOk
      rw [stk_down e]
      refine ⟨by rw [List.length_dropLast, hu, ← h1]; omega, fun j h => ?_⟩
      rw [List.length_dropLast] at h
      obtain ⟨a, b, c, d⟩ := h2 j (by omega)
      rw [List.getElem_dropLast]
      refine ⟨by omega, b, c, fun q q1 q2 => ?_⟩
      by_cases hq : q ≤ i
      · exact d q q1 hq
      · obtain rfl : q = i + 1 := by omega
        rw [hu]; omega
theorem fw_to {s : ByteArray} (hd : dyck s = true) {p i : Nat} (hi : i < s.size) (e : bt s i ≠ 117) (h0 : hAt s i = hAt s p + 1) (hq : ∀ q, p < q → q ≤ i → hAt s p + 1 ≤ hAt s q) :
    ∀ m k, m + k = i → p ≤ k → fwL s p (hAt s k - hAt s p) (rest s k) k = i := by
  intro m
  induction m with
  | zero =>
    intro k hk hp
    obtain rfl : k = i := by omega
    have hb := get_bt s k hi
    rw [rest_cons s k hi, fwL_hit _ _ _ _ _ _ (by rw [if_neg (by omega)]; omega)]
  | succ m ih =>
    intro k hk hp
    have hks : k < s.size := by omega
    have hb := get_bt s k hks
    have h1 := hq (k + 1) (by omega) (by omega)
    by_cases e1 : s[k].toNat = 117
    · have hu := hAt_up s k hks e1
      rw [rest_cons s k hks, fwL_miss _ _ _ _ _ _ (by rw [if_pos e1]; omega), if_pos e1, show hAt s k - hAt s p + 1 = hAt s (k + 1) - hAt s p by omega]
      exact ih (k + 1) (by omega) (by omega)
    · have hu := hAt_down s k hks e1
      rw [rest_cons s k hks, fwL_miss _ _ _ _ _ _ (by rw [if_neg e1]; omega), if_neg e1, show hAt s k - hAt s p - 1 = hAt s (k + 1) - hAt s p by omega]
      exact ih (k + 1) (by omega) (by omega)
theorem bk_to {s : ByteArray} (hd : dyck s = true) {p i : Nat} (hi : i < s.size) (hp : p < i) (h0 : hAt s (i + 1) = hAt s p) (hq : ∀ q, p < q → q ≤ i → hAt s p + 1 ≤ hAt s q) :
    ∀ k, p ≤ k → k ≤ i → bkL s (k + 1) (hAt s (k + 1) - hAt s (i + 1)) = p := by
  intro k
  induction k with
  | zero =>
    intro h1 h2
    obtain rfl : p = 0 := by omega
    have hb := get_bt s 0 (by omega)
    rcases dyck_letter hd 0 (by omega) with e | e
    · have hu := hAt_up s 0 (by omega) e
      rw [bkL_hit _ _ _ (by rw [if_neg (by omega)]; omega)]
    · have hu := hAt_down s 0 (by omega) (by omega)
      rw [bkL_hit _ _ _ (by rw [if_pos (by omega)]; omega)]
  | succ k ih =>
    intro h1 h2
    have hb := get_bt s (k + 1) (by omega)
    by_cases hk : p = k + 1
    · subst hk
      rcases dyck_letter hd (k + 1) (by omega) with e | e
      · have hu := hAt_up s (k + 1) (by omega) e
        rw [bkL_hit _ _ _ (by rw [if_neg (by omega)]; omega)]
      · have hu := hAt_down s (k + 1) (by omega) (by omega)
        rw [bkL_hit _ _ _ (by rw [if_pos (by omega)]; omega)]
    · have h3 := hq (k + 1) (by omega) h2
      have := ih (by omega) (by omega)
      rcases dyck_letter hd (k + 1) (by omega) with e | e
      · have hu := hAt_up s (k + 1) (by omega) e
        rw [bkL_miss _ _ _ (by rw [if_neg (by omega)]; omega), if_neg (by omega), show hAt s (k + 1 + 1) - hAt s (i + 1) - 1 = hAt s (k + 1) - hAt s (i + 1) by omega]
        exact this
      · have hu := hAt_down s (k + 1) (by omega) (by omega)
        rw [bkL_miss _ _ _ (by rw [if_pos (by omega)]; omega), if_pos (by omega), show hAt s (k + 1 + 1) - hAt s (i + 1) + 1 = hAt s (k + 1) - hAt s (i + 1) by omega]
        exact this
/-- A letter d and the last letter u that is open are partners. -/
theorem partners {s : ByteArray} (hd : dyck s = true) {i : Nat} (hi : i < s.size) (e : bt s i ≠ 117) :
    ∃ (l : Nat) (h : l < (stk s i).length), (stk s i).length = l + 1 ∧ (stk s i)[l] < i ∧ partL s (stk s i)[l] = i ∧ partL s i = (stk s i)[l] := by
  obtain ⟨h1, h2⟩ := stk_ok hd i (by omega)
  have hb := get_bt s i hi
  have hu := hAt_down s i hi (by omega)
  have h0 := (hAt_fit hd (i + 1) (by omega)).1
  obtain ⟨l, hl⟩ : ∃ l, (stk s i).length = l + 1 := ⟨(stk s i).length - 1, by omega⟩
  obtain ⟨a, b, c, d⟩ := h2 l (by omega)
  refine ⟨l, by omega, hl, a, ?_, ?_⟩
  · unfold partL
    rw [if_pos b]
    have := fw_to hd (p := (stk s i)[l]) hi e (by omega) (fun q q1 q2 => by have := d q q1 q2; omega) (i - (stk s i)[l]) (stk s i)[l] (by omega) (Nat.le_refl _)
    rw [Int.sub_self] at this
    exact this
  · unfold partL
    rw [if_neg e]
    have := bk_to hd (p := (stk s i)[l]) hi a (by omega) (fun q q1 q2 => by have := d q q1 q2; omega) i (by omega) (Nat.le_refl _)
    rw [Int.sub_self] at this
    exact this

def upd (f : Nat → Int) (k : Nat) (y : Int) : Nat → Int := fun q => if q = k then y else f q
theorem upd_at (f : Nat → Int) (k : Nat) (y : Int) : upd f k y k = y := if_pos rfl
theorem upd_ne (f : Nat → Int) {k q : Nat} (y : Int) (h : q ≠ k) : upd f k y q = f q := if_neg h
/-- What the memory of partnersOf holds behind the first i letters. -/
def Mem (s : ByteArray) (i : Nat) (f : Nat → Int) : Prop :=
  (∀ (j : Nat) (h : j < (stk s i).length), f (s.size + j) = ((stk s i)[j] : Int)) ∧ ∀ q, q < i → q ∉ stk s i → f q = partL s q
theorem Mem.up {s : ByteArray} {i : Nat} {f : Nat → Int} (h : Mem s i f) (hi : i < s.size) (e : bt s i = 117) : Mem s (i + 1) (upd f (s.size + (stk s i).length) i) := by
  obtain ⟨h1, h2⟩ := h
  unfold Mem
  rw [stk_up e]
  refine ⟨fun j hj => ?_, fun q hq hn => ?_⟩
  · rw [List.length_append, List.length_singleton] at hj
    by_cases hjl : j < (stk s i).length
    · rw [upd_ne _ _ (by omega), List.getElem_append_left hjl, h1 j hjl]
    · obtain rfl : j = (stk s i).length := by omega
      have e2 : (stk s i ++ [i])[(stk s i).length]'(by simp) = i := by simp
      rw [e2, upd_at]
  · simp only [List.mem_append, List.mem_singleton, not_or] at hn
    rw [upd_ne _ _ (by omega)]
    exact h2 q (by omega) hn.1
theorem Mem.down {s : ByteArray} {i l : Nat} {f : Nat → Int} (h : Mem s i f) (hi : i < s.size) (e : bt s i ≠ 117) (hl : l < (stk s i).length) (hll : (stk s i).length = l + 1) (hp : (stk s i)[l] < i)
    (p1 : partL s (stk s i)[l] = i) (p2 : partL s i = (stk s i)[l]) : Mem s (i + 1) (upd (upd f i (stk s i)[l]) (stk s i)[l] i) := by
  obtain ⟨h1, h2⟩ := h
  unfold Mem
  rw [stk_down e]
  refine ⟨fun j hj => ?_, fun q hq hn => ?_⟩
  · rw [List.length_dropLast] at hj
    rw [upd_ne _ _ (by omega), upd_ne _ _ (by omega), List.getElem_dropLast, h1 j (by omega)]
  · by_cases ep : q = (stk s i)[l]
    · subst ep; rw [upd_at, p1]
    · rw [upd_ne _ _ ep]
      by_cases ei : q = i
      · subst ei; rw [upd_at, p2]
      · rw [upd_ne _ _ ei]
        refine h2 q (by omega) fun hm => hn ?_
        obtain ⟨j, hj, hjq⟩ := List.mem_iff_getElem.1 hm
        by_cases hjl : j = l
        · subst hjl; exact absurd hjq.symm ep
        · refine List.mem_iff_getElem.2 ⟨j, by rw [List.length_dropLast]; omega, ?_⟩
          rw [List.getElem_dropLast]; exact hjq
theorem Mem.start (s : ByteArray) (f : Nat → Int) : Mem s 0 f := ⟨fun j h => by simp [stk] at h, fun q h => by omega⟩
theorem Mem.stop {s : ByteArray} {f : Nat → Int} (hd : dyck s = true) (h : Mem s s.size f) (q : Nat) (hq : q < s.size) : f q = partL s q := by
  refine h.2 q hq fun hm => ?_
  obtain ⟨h1, -⟩ := stk_ok hd s.size (Nat.le_refl _)
  obtain ⟨k, hk1, hk2, hk3⟩ := hAt_path hd s.size (Nat.le_refl _)
  have hz := df_low _ _ hk3
  rw [rest_end s s.size (Nat.le_refl _)] at hz
  have : (stk s s.size).length = 0 := by simp at hz; omega
  rw [List.eq_nil_of_length_eq_zero this] at hm
  simp at hm
/-- There is room for one letter u more. -/
theorem stk_room {s : ByteArray} (hd : dyck s = true) {i : Nat} (hi : i < s.size) (e : bt s i = 117) : 2 * ((stk s i).length + 1) ≤ s.size ∧ (stk s i).length ≤ 8 := by
  obtain ⟨h1, -⟩ := stk_ok hd (i + 1) (by omega)
  rw [stk_up e, List.length_append, List.length_singleton] at h1
  obtain ⟨k, hk1, hk2, hk3⟩ := hAt_path hd (i + 1) (by omega)
  have hz := df_low _ _ hk3
  have h16 := dyck_size hd
  have : (rest s (i + 1)).length = s.size - (i + 1) := by unfold rest; simp
  omega

end Go.Proofs.Ytgaggpdlpcldeaa
end

section
namespace Go.Proofs.Ytgaggpdlpcldeaa
open Go.ChangeShapes Go.WideShapes Go.ChangeAt Go.RowKit
open Go.PlainAid (bt bt_nonneg bt_le get_bt)
set_option linter.unusedVariables false

/-- Block g is a row of m ints that reads f. -/
def TabI (w : World) (g m : Nat) (f : Nat → Int) : Prop := ∃ C : Array Value, w.heap[g]? = some (.cells C 3 (0, 0)) ∧ C.size = m ∧ ∀ j, j < m → C[j]? = some (.int .i64 (f j))
theorem TabI.lt {w : World} {g m : Nat} {f : Nat → Int} (h : TabI w g m f) : g < w.heap.size := by
  obtain ⟨C, h1, -⟩ := h
  exact (Array.getElem?_eq_some_iff.1 h1).1
theorem TabI.cell {w : World} {g m : Nat} {f : Nat → Int} (h : TabI w g m f) {j : Nat} (hj : j < m) : w.cell? ⟨g, j, none⟩ = some (.int .i64 (f j)) ∧ w.frozen? ⟨g, j, none⟩ = false := by
  obtain ⟨C, h1, h2, h3⟩ := h
  refine ⟨?_, by simp [World.frozen?, h1]⟩
  rw [cell_of_row w g j C 3 (0, 0) h1]
  exact h3 j hj
theorem TabI.keep {w w' : World} {g m : Nat} {f : Nat → Int} (h : TabI w g m f) (e : w'.heap[g]? = w.heap[g]?) : TabI w' g m f := by
  obtain ⟨C, h1, h2⟩ := h
  exact ⟨C, e.trans h1, h2⟩
theorem TabI.set {w : World} {g m k : Nat} {f : Nat → Int} (h : TabI w g m f) (hk : k < m) (y : Int) : TabI (w.setCell ⟨g, k, none⟩ (.int .i64 y)) g m (upd f k y) := by
  obtain ⟨C, h1, h2, h3⟩ := h
  refine ⟨C.setIfInBounds k (.int .i64 y), by simp [World.setCell, Array.getElem?_modify, h1], by simpa using h2, fun j hj => ?_⟩
  by_cases e : j = k
  · subst e
    rw [Array.getElem?_setIfInBounds_self_of_lt (by omega), upd_at]
  · rw [Array.getElem?_setIfInBounds_ne (by omega), h3 j hj, upd_ne _ _ e]
theorem TabI.ne_iter {w : World} {k g m : Nat} {f : Nat → Int} {s : ByteArray} {i : Nat} (h : TabI w g m f) (hk : w.heap[k]? = some (.stringIter s i)) : g ≠ k := by
  obtain ⟨C, h1, -⟩ := h
  intro e
  rw [e, hk] at h1
  simp at h1
theorem TabI.iterAt {w : World} {k g m : Nat} {f : Nat → Int} {s : ByteArray} {i j : Nat} (h : TabI w g m f) (hk : w.heap[k]? = some (.stringIter s i)) : TabI (w.iterAt k s j) g m f :=
  h.keep (Lib.iterAt_other _ _ _ _ _ (h.ne_iter hk))
theorem TabI.alloc {w : World} {g m : Nat} {f : Nat → Int} (h : TabI w g m f) (o : Obj) : TabI (w.alloc o) g m f :=
  h.keep (by
    have := h.lt
    rw [show (w.alloc o).heap = w.heap.push o from rfl, Array.getElem?_push, if_neg (by omega)])
theorem TabI.made {w : World} {base m : Nat} (h : w.ownsRow base 3 1 (.slice (some ⟨base, 0, none⟩) m m) m (madeCells (Value.int .i64 0).cells (m * 1)).toList) : TabI w base m fun _ => 0 := by
  rcases h.2 with ⟨h1, _⟩ | ⟨g, cap, cur, hv, hb, hh, hnc, hcm, hcur, htake⟩
  · cases h1
  · simp only [Value.slice.injEq, Option.some.injEq, Addr.mk.injEq] at hv
    obtain ⟨⟨rfl, _, _⟩, _, rfl⟩ := hv
    refine ⟨cur, hh, by simpa using hcur, fun j hj => ?_⟩
    have e : cur.toList[j]? = (cur.toList.take (m * 1))[j]? := by rw [List.getElem?_take, if_pos (by omega)]
    rw [← Array.getElem?_toList, e, htake, show (Value.int IntKind.i64 0).cells = #[Value.int .i64 0] from rfl, toList_madeCells_one]
    simp [hj]
theorem OwnI.of_tab {w : World} {lo hi g m n c : Nat} {f : Nat → Int} {xs : List Int} (h : TabI w g m f) (hl : xs.length = n) (hn : n ≤ m) (hx : ∀ j, j < n → xs.getD j 0 = f j) (h1 : lo ≤ g) (h2 : g < hi) : OwnI w lo hi (.slice (some ⟨g, 0, none⟩) n c) xs := by
  obtain ⟨C, h3, h4, h5⟩ := h
  refine ⟨_, c, by rw [hl], .inr ⟨g, C, h1, h2, rfl, h3, fun j hj => ?_⟩⟩
  rw [h5 j (by omega), hx j (by omega)]

/-- One cell stored. -/
theorem run_store_one (P : Program) (w : World) (g o : Nat) (y old : Value) (hc : w.cell? ⟨g, o, none⟩ = some old) (hf : w.frozen? ⟨g, o, none⟩ = false) (h1 : y.oneCell' = true) :
    (storeCells ⟨g, o, none⟩ [y]).run P w = .ok () (w.setCell ⟨g, o, none⟩ y) := by
  have hadd : (⟨g, o, none⟩ : Addr).add 0 = ⟨g, o, none⟩ := by simp [Addr.add]
  simp only [storeCells, Sem.run_bind, hadd, run_store P w _ y _ h1, hc]
  simp [hf]
/-- One int appended to a slice with room, wherever in its block it begins. -/
theorem run_append_in (P : Program) (w : World) (t ty e : TypeId) (i : TypeInfo) (ht : P.underlying t = some (.slice e)) (hi : P.info? e = some i) (hs : i.size = 1)
    (g o n cap : Nat) (hroom : n + 1 ≤ cap) (a : Addr) (c : Nat) (y old : Value) (hy : w.cell? (a.add 0) = some y) (h1 : y.oneCell' = true) (hc : w.cell? ⟨g, o + n, none⟩ = some old) (hf : w.frozen? ⟨g, o + n, none⟩ = false) :
    (Builtin.append_ #[t, t] ty #[.slice (some ⟨g, o, none⟩) n cap, .slice (some a) 1 c]).run P w = .ok (.slice (some ⟨g, o, none⟩) (n + 1) cap) (w.setCell ⟨g, o + n, none⟩ y) := by
  have hfc := run_firstCells_some (P := P) w 1 1 a 1 c [y] rfl (fun j u hj => by
    match j, hj with
    | 0, hj => simp at hj; subst hj; exact hy)
  have hst := run_store_one P w g (o + n) y old hc hf h1
  simp [Builtin.append_, run_underlying ht, sizeOf, typeInfo, hi, hs, Builtin.lenOf, hroom, hfc, Addr.add_lit, hst]
theorem wpList_append_in {P : Program} {w : World} {ops : Array Oper} {rest : List Oper} {o : Oper} {a : Act} {Q : Exit → Act → World → Prop} (hgd : o.guard = none) (s x : Operand) (t : TypeId)
    (ho : o.op = .call { callee := .builtin .append, args := #[s, x], argTypes := #[t, t] })
    (e : TypeId) (i : TypeInfo) (ht : P.underlying t = some (.slice e)) (hi : P.info? e = some i) (hs : i.size = 1)
    (g q n cap : Nat) (hev : a.eval s = .slice (some ⟨g, q, none⟩) n cap) (hroom : n + 1 ≤ cap) (ad : Addr) (c : Nat) (y old : Value) (hx : a.eval x = .slice (some ad) 1 c) (hy : w.cell? (ad.add 0) = some y) (h1 : y.oneCell' = true)
    (hc : w.cell? ⟨g, q + n, none⟩ = some old) (hf : w.frozen? ⟨g, q + n, none⟩ = false)
    (h : wpList P ops Q rest (a.put o.dst (.slice (some ⟨g, q, none⟩) (n + 1) cap)) (w.setCell ⟨g, q + n, none⟩ y)) : wpList P ops Q (o :: rest) a w :=
  wpList_plain hgd fun _ hK => by
    have hr := run_append_in P w t o.type e i ht hi hs g q n cap hroom ad c y old hy h1 hc hf
    unfold Oper.wp execOp
    simp only [ho, resolve, invoke, builtin, Sem.run_bind, Sem.run_pure, Result.andThen_ok, List.map_toArray, List.map_cons, List.map_nil, hev, hx, hr]
    exact hK _ _ h

/-- The partners of all letters. -/
def partsP (s : ByteArray) : List Int := (List.range s.size).map fun q => partL s q
theorem partsP_len (s : ByteArray) : (partsP s).length = s.size := by simp [partsP]
theorem partsP_at (s : ByteArray) (q : Nat) (h : q < s.size) : (partsP s).getD q 0 = partL s q := by simp [partsP, List.getD, h]

theorem stk_half {s : ByteArray} (hd : dyck s = true) {i : Nat} (hi : i ≤ s.size) : 2 * (stk s i).length ≤ s.size := by
  obtain ⟨h1, -⟩ := stk_ok hd i hi
  obtain ⟨k, hk1, hk2, hk3⟩ := hAt_path hd i hi
  have hz := df_low _ _ hk3
  have : (rest s i).length = s.size - i := by unfold rest; simp
  omega
theorem two_le {s : ByteArray} (hd : dyck s = true) (h0 : 0 < s.size) : 2 ≤ s.size := by
  obtain ⟨k, hk1, hk2, hk3⟩ := hAt_path hd s.size (Nat.le_refl _)
  have hz := df_low _ _ hk3
  rw [rest_end s s.size (Nat.le_refl _)] at hz
  have hz0 : k = 0 := by simpa using hz
  rcases Nat.lt_or_ge 1 s.size with h | h
  · exact h
  · exfalso
    have e : s.size = 1 := by omega
    rw [e, hz0] at hk1
    have h00 := hAt_zero s
    rcases dyck_letter hd 0 h0 with e1 | e1
    · have := hAt_up s 0 h0 e1
      simp only [Nat.zero_add] at this
      omega
    · have := hAt_down s 0 h0 (by omega)
      simp only [Nat.zero_add] at this
      omega

set_option maxRecDepth 100000 in
set_option maxHeartbeats 1600000 in
theorem partnersOfI (s : ByteArray) (w : World) (hd : dyck s = true) (h0 : 0 < s.size) : Calls Try.prog 41 #[.string s] w (AnsI (partsP s) w) := by
  have h16 := dyck_size hd
  have h2 := two_le hd h0
  have HD := Lib.hid hd
  clear hd
  obtain ⟨i0, hi0, hz0, hz1, hz2⟩ := info_parts info3
  go_enter Try.func41, Try.ntmps41
  obtain ⟨M, hM⟩ : ∃ M, M = s.size + s.size / 2 := ⟨_, rfl⟩
  go_wp2_with (at_make; go_must (refine wpList_make_full _ rfl _ _ 22 rfl w.heap.size 3 i0 (.int .i64 0) 1 Try.underlying22 hi0 hz0 hz1 .i64 .i64 ((s.size : Int) + (s.size : Int) / 2) ((s.size : Int) + (s.size : Int) / 2) M rfl rfl (by omega) (by omega) (by rw [hz2]; omega) (by unfold maxLen; omega) (Nat.le_refl _) ?_); intro w2 hown1 hgrow1)
  have HT0 := Lib.hid (TabI.made hown1)
  have HB2 := Lib.hid ((Below.refl w.heap.size w).grown hgrow1 (Nat.le_refl _) (fun k hk => by cases hk))
  have z2 := (hown1.lt w.heap.size rfl).2
  clear hown1 hgrow1
  obtain ⟨g, hg⟩ : ∃ g, g = w.heap.size := ⟨_, rfl⟩
  rw [← hg] at HT0 HB2 z2
  rw [← hg]
  have HG := Lib.hid hg
  clear hg
  have hMi : (s.size : Int) ≤ (M : Int) := by omega
  have hn2 : ¬ s.size < 2 := by omega
  go_quiet (fail)
  have HT1 := Lib.hid (show TabI (w2.drewN nq) g M (fun _ => 0) from HT0.out.keep rfl)
  have HB3 := Lib.hid (below_drewN HB2.out nq)
  have z3 : g < (w2.drewN nq).heap.size := z2
  clear HT0 HB2 z2 hn2
  generalize w2.drewN nq = W2 at *
  obtain ⟨T, hT⟩ : ∃ T, T = s.size / 2 := ⟨_, rfl⟩
  rw [← hT]
  have HTT := Lib.hid (show 2 * T ≤ s.size ∧ s.size ≤ 2 * T + 1 ∧ s.size + T = M by omega)
  clear hM hT
  go_wp2
  go_loopw [6] (fun x wr => ∃ (i : Nat) (f : Nat → Int), i ≤ s.size ∧ x = .slice (some ⟨g, s.size, none⟩) (stk s i).length T ∧ AtS wr W2.heap.size s i ∧ TabI wr g M f ∧ Mem s i f ∧ Below g W2 wr) (fun _ wr => s.size - wr.iterPos W2.heap.size)
  case atStart => exact ⟨0, fun _ => 0, Nat.zero_le _, rfl, World.iter_heap W2 s 0, HT1.out.alloc _, Mem.start s _, (Below.refl _ _).alloc (by omega) _⟩
  case round =>
    obtain ⟨i, f, hi, rfl, hit, htab, hmem, hb⟩ := hrel
    have HIT := Lib.hid hit
    have HTAB := Lib.hid htab
    have HMEM := Lib.hid hmem
    have HB := Lib.hid hb
    clear hit htab hmem hb HT1
    by_cases hlt : i < s.size
    · obtain ⟨W, hW⟩ : ∃ W, W = wr.iterAt W2.heap.size s (i + 1) := ⟨_, rfl⟩
      have HIT1 := Lib.hid (show AtS W W2.heap.size s (i + 1) by rw [hW]; exact HIT.out.move)
      have HTAB1 := Lib.hid (show TabI W g M f by rw [hW]; exact HTAB.out.iterAt HIT.out)
      have HB4 := Lib.hid (show Below g W2 W by rw [hW]; exact Lib.below_iterAt HB.out (by omega) _ _)
      have hl := dyck_letter HD.out i hlt
      have hb := get_bt s i hlt
      rcases hl with e1 | e1
      · have HE := Lib.hid (show bt s i = 117 by omega)
        have hnx := next_letter (P := Try.prog) wr _ s i 117 HIT.out hlt e1 (by omega)
        rw [← hW] at hnx
        obtain ⟨r1, r2⟩ := stk_room HD.out hlt HE.out
        have HM1 := Lib.hid (HMEM.out.up hlt HE.out)
        have HS1 := Lib.hid (show (stk s (i + 1)).length = (stk s i).length + 1 by rw [stk_up HE.out]; simp)
        clear hW e1 hb
        generalize (stk s i).length = L at *
        have hT2 := HTT.out
        have hLM : s.size + L < M := by omega
        have hLT : L + 1 ≤ T := by omega
        clear hT2
        obtain ⟨hc, hf⟩ := (HTAB1.out.alloc (.cells #[.int .i64 i] 3)).cell (j := s.size + L) hLM
        go_wp2_with (refine wpList_append_in rfl (.tmp 33) (.tmp 35) 22 rfl 3 i0 Try.underlying22 hi0 hz1 g s.size L T rfl hLT ⟨W.heap.size, 0, none⟩ 1 (.int .i64 i) _ rfl (cell_one W _ _) rfl hc hf ?_)
        go_roundw
        case rel => exact ⟨i + 1, _, by omega, by rw [HS1.out], iter_setCell (HIT1.out.alloc _) (Nat.ne_of_lt z3), (HTAB1.out.alloc _).set hLM _, HM1.out, (HB4.out.alloc (by have := HB4.out.size; omega) _).setCell (p := ⟨g, s.size + L, none⟩) (Nat.le_refl _) _⟩
        case measure =>
          have e : World.iterPos (World.setCell (World.alloc W (.cells #[.int .i64 i] 3)) ⟨g, s.size + L, none⟩ (.int .i64 i)) W2.heap.size = i + 1 := AtS.pos (s := s) (iter_setCell (HIT1.out.alloc _) (Nat.ne_of_lt z3))
          rw [HIT.out.pos, e]
          omega
      · have HE := Lib.hid (show bt s i ≠ 117 by omega)
        have hnx := next_letter (P := Try.prog) wr _ s i 100 HIT.out hlt e1 (by omega)
        rw [← hW] at hnx
        obtain ⟨l, hl, hll, hp, p1, p2⟩ := partners HD.out hlt HE.out
        have HM1 := Lib.hid (HMEM.out.down hlt HE.out hl hll hp p1 p2)
        have HS1 := Lib.hid (show (stk s (i + 1)).length = l by rw [stk_down HE.out, List.length_dropLast, hll]; omega)
        have hcp := (HMEM.out.1 l hl)
        have hT2 := HTT.out
        have hmm := hT2
        have hroom : l + 1 ≤ T := by have := stk_half HD.out (i := i) (by omega); omega
        rw [hll]
        generalize (stk s i)[l] = p at *
        clear hW e1 hb hl hll p1 p2
        obtain ⟨hc1, hf1⟩ := HTAB1.out.cell (j := s.size + l) (by omega)
        rw [hcp] at hc1
        obtain ⟨hc2, hf2⟩ := HTAB1.out.cell (j := i) (by omega)
        obtain ⟨hc3, hf3⟩ := HTAB1.out.cell (j := p) (by omega)
        have hne : p ≠ i := by omega
        have hpi : (p : Int) < (s.size : Int) := by omega
        have hii : (i : Int) < (s.size : Int) := by omega
        have hlT : (l : Int) ≤ (T : Int) := by omega
        have hwl : wrap64 (l : Int) = (l : Int) := IntWalk.wrap64_in _ (by omega)
        generalize f i = y2 at hc2
        generalize f p = y3 at hc3
        have HMM := Lib.hid hmm
        clear hT2 hmm
        go_wp2
        go_region
        all_goals go_wp2
        all_goals go_roundw
        case rel => exact ⟨i + 1, _, by omega, by rw [HS1.out], iter_setCell (iter_setCell HIT1.out (Nat.ne_of_lt z3)) (Nat.ne_of_lt z3), ((HTAB1.out.set (k := i) (by omega) _).set (k := p) (by omega) _).keep rfl, HM1.out, ((HB4.out.setCell (p := ⟨g, i, none⟩) (Nat.le_refl _) _).setCell (p := ⟨g, p, none⟩) (Nat.le_refl _) _).drew⟩
        case measure =>
          have e : World.iterPos (World.drew (World.setCell (World.setCell W ⟨g, i, none⟩ (.int .i64 p)) ⟨g, p, none⟩ (.int .i64 i))) W2.heap.size = i + 1 := AtS.pos (s := s) (show AtS (World.drew _) _ s (i + 1) from iter_setCell (iter_setCell HIT1.out (Nat.ne_of_lt z3)) (Nat.ne_of_lt z3))
          rw [HIT.out.pos, e]
          omega
    · have hnx := fun ty => Lib.run_next_end_at (P := Try.prog) wr _ s i ty HIT.out hlt
      obtain rfl : i = s.size := by omega
      have HQ := Lib.hid (HMEM.out.stop HD.out)
      have hT2 := HTT.out
      go_wp2
      go_ret
      exact ⟨_, rfl, OwnI.of_tab HTAB.out (partsP_len s) (by omega) (fun j hj => (partsP_at s j hj).trans (HQ.out j hj).symm) (Nat.le_of_eq HG.out.symm) (HTAB.out.lt), by rw [← HG.out]; exact HB3.out.trans HB.out⟩

end Go.Proofs.Ytgaggpdlpcldeaa
end

section
namespace Go.Proofs.Ytgaggpdlpcldeaa
open Go.ChangeShapes Go.WideShapes Go.ChangeAt Go.RowKit
set_option linter.unusedVariables false

set_option maxRecDepth 100000 in
set_option maxHeartbeats 1600000 in
theorem partnersOf0 (s : ByteArray) (w : World) (h0 : s.size = 0) : Calls Try.prog 41 #[.string s] w (AnsI [] w) := by
  obtain ⟨i0, hi0, hz0, hz1, hz2⟩ := info_parts info3
  go_enter Try.func41, Try.ntmps41
  have hsi : (s.size : Int) = 0 := by omega
  go_wp2_with (at_make; go_must (refine wpList_make_full _ rfl _ _ 22 rfl w.heap.size 3 i0 (.int .i64 0) 1 Try.underlying22 hi0 hz0 hz1 .i64 .i64 (0 : Int) (0 : Int) 0 rfl rfl rfl rfl (by rw [hz2]; omega) (by unfold maxLen; omega) (Nat.le_refl _) ?_); intro w2 hown1 hgrow1)
  have HB2 := Lib.hid ((Below.refl w.heap.size w).grown hgrow1 (Nat.le_refl _) (fun k hk => by cases hk))
  have z2 := (hown1.lt w.heap.size rfl).2
  clear hown1 hgrow1
  go_quiet (fail)
  have HB3 := Lib.hid (below_drewN HB2.out nq)
  have z3 : w.heap.size < (w2.drewN nq).heap.size := z2
  clear HB2 z2
  generalize w2.drewN nq = W2 at *
  have HIT := Lib.hid (World.iter_heap W2 s 0)
  have hnx := fun ty => Lib.run_next_end_at (P := Try.prog) (W2.iter s 0) W2.heap.size s 0 ty HIT.out (by omega)
  go_wp2
  refine wp_loop_rounds 1 ?_
  rw [rounds_succ]
  go_wp2
  go_ret
  exact ⟨_, rfl, ⟨_, _, rfl, .inl rfl⟩, HB3.out.alloc (by omega) _⟩

end Go.Proofs.Ytgaggpdlpcldeaa
end

section
namespace Go.Proofs.Ytgaggpdlpcldeaa
open Go.ChangeShapes Go.WideShapes Go.ChangeAt Go.RowKit
open Go.PlainAid (bt bt_nonneg bt_le get_bt)
set_option linter.unusedVariables false

theorem match_long {xs : List Int} (h : 16 < xs.length) : matchP xs = false := decide_eq_false fun hh => by have := hh.1; omega

set_option maxRecDepth 100000 in
set_option maxHeartbeats 1600000 in
theorem isMatchingI (v : Value) (xs : List Int) (lo hi : Nat) (w : World) (hv : OwnI w lo hi v xs) (hl : xs.length ≤ 1099511627776) :
    Calls Try.prog 58 #[v] w fun e w' => e = .returned (.bool (matchP xs)) ∧ w = w' := by
  obtain ⟨A1, c1, rfl, k1⟩ := id hv
  clear k1
  have HV := Lib.hid hv
  clear hv
  by_cases h16 : 16 < xs.length
  · have HP := Lib.hid (match_long h16)
    have hi16 : (16 : Int) < (xs.length : Int) := by omega
    go_enter Try.func58, Try.ntmps58
    go_wp2
    go_ret
    exact ⟨ret_bool HP.out.symm, rfl⟩
  · have hi16 : ¬ (16 : Int) < (xs.length : Int) := by omega
    go_enter Try.func58, Try.ntmps58
    go_wp2
    go_loop [10] (fun x => ∃ j : Nat, j ≤ xs.length ∧ x = .int .i64 j ∧ ∀ q, q < j → mtOk xs q) (fun x => xs.length - (intOf x).toNat)
    case atStart => exact ⟨0, Nat.zero_le _, rfl, fun q h => by omega⟩
    case round =>
      obtain ⟨j, hj, rfl, hok⟩ := hrel
      have HOK := Lib.hid hok
      clear hok
      by_cases hlt : j < xs.length
      · obtain ⟨g1, p1, e1, -, -, hc1, -⟩ := HV.out.cell hlt
        simp only [Value.slice.injEq] at e1
        obtain ⟨rfl, -, rfl⟩ := e1
        have hji : (j : Int) < (xs.length : Int) := by omega
        have HNO := Lib.hid (fun h : ¬ mtOk xs j => match_no hlt h)
        generalize hy : xs.getD j 0 = y at hc1
        have HY := Lib.hid hy
        clear hy
        by_cases y0 : y < 0
        · have d0 : decide (y < 0) = true := decide_eq_true y0
          go_wp2
          go_ret
          exact ⟨ret_bool (HNO.out fun h => by have := h.1; rw [HY.out] at this; omega).symm, rfl⟩
        · have d0 : decide (y < 0) = false := decide_eq_false y0
          by_cases y1 : (xs.length : Int) ≤ y
          · have d1 : decide ((xs.length : Int) ≤ y) = true := decide_eq_true y1
            go_wp2
            go_ret
            exact ⟨ret_bool (HNO.out fun h => by have := h.2.1; rw [HY.out] at this; omega).symm, rfl⟩
          · have d1 : decide ((xs.length : Int) ≤ y) = false := decide_eq_false y1
            obtain ⟨k, rfl⟩ : ∃ k : Nat, y = k := ⟨y.toNat, by omega⟩
            have hk : k < xs.length := by omega
            have hki : (k : Int) < (xs.length : Int) := by omega
            obtain ⟨g2, p2, e2, -, -, hc2, -⟩ := HV.out.cell hk
            obtain rfl : g1 = g2 := by simpa using (Value.slice.inj e2).1
            have HZ := Lib.hid (show xs.getD (xs.getD j 0).toNat 0 = xs.getD k 0 by rw [HY.out]; rfl)
            generalize xs.getD k 0 = z at hc2 HZ
            by_cases ek : k = j
            · subst ek
              clear hc2
              have ek2 : ((k : Int) == (k : Int)) = true := by simp
              go_wp2
              go_ret
              exact ⟨ret_bool (HNO.out fun h => h.2.2.1 HY.out).symm, rfl⟩
            · have ek2 : ((k : Int) == (j : Int)) = false := beq_eq_false_iff_ne.2 (by omega)
              by_cases ez : z = (j : Int)
              · subst ez
                have ez2 : ((j : Int) != (j : Int)) = false := by simp
                go_wp2
                refine ⟨⟨j + 1, by omega, by simp, fun q hq => ?_⟩, by simp [intOf]; omega⟩
                by_cases e : q < j
                · exact HOK.out q e
                · obtain rfl : q = j := by omega
                  exact ⟨by rw [HY.out]; omega, by rw [HY.out]; omega, by rw [HY.out]; omega, HZ.out⟩
              · have ez2 : (z != (j : Int)) = true := by simp [ez]
                have HEZ := Lib.hid ez
                clear ez
                go_wp2
                go_ret
                exact ⟨ret_bool (HNO.out fun h => HEZ.out (HZ.out.symm.trans h.2.2.2)).symm, rfl⟩
      · obtain rfl : j = xs.length := by omega
        go_wp2
        go_ret
        refine ⟨ret_bool ?_, rfl⟩
        unfold matchP
        exact (decide_eq_true ⟨by omega, HOK.out⟩).symm

set_option maxRecDepth 100000 in
set_option maxHeartbeats 1600000 in
theorem matchingOfI (s : ByteArray) (w : World) (hs : s.size ≤ 1099511627776) : Calls Try.prog 36 #[.string s] w (AnsIB (matchingP s) (dyck s) w) := by
  rcases hd : dyck s with _ | _
  · have HP := Lib.hid (show matchingP s = [] from if_neg (by simp [hd]))
    have HD := Lib.hid hd
    clear hd
    go_enter Try.func36, Try.ntmps36
    go_wp2_with fail
    (with_reducible refine (isDyckI_no s _ HD.out).mono ?_)
    rintro e w' ⟨rfl, hb⟩
    go_wp2
    go_ret2
    exact ⟨_, rfl, by rw [HP.out]; exact ⟨_, _, rfl, .inl rfl⟩, hb⟩
  · have HP := Lib.hid (show matchingP s = mtL s s.size from if_pos hd)
    have HQ := Lib.hid (show partsP s = mtL s s.size from rfl)
    have HD := Lib.hid hd
    clear hd
    have HC := Lib.hid (show ∀ w, Calls Try.prog 41 #[.string s] w (AnsI (mtL s s.size) w) from fun w => by
      by_cases h0 : s.size = 0
      · have h := partnersOf0 s w h0
        rw [show mtL s s.size = [] by rw [h0]; rfl]; exact h
      · rw [← HQ.out]; exact partnersOfI s w HD.out (by omega))
    go_enter Try.func36, Try.ntmps36
    go_wp2_with fail
    (with_reducible refine (isDyckI_yes s _ HD.out).mono ?_)
    rintro e w1 ⟨rfl, hb1⟩
    have z1 := hb1.size
    go_wp2_with fail
    (with_reducible refine (HC.out _).mono ?_)
    rintro e w2 ⟨v, rfl, ho, hb2⟩
    go_wp2
    go_ret2
    exact ⟨_, rfl, by rw [HP.out]; exact ho.wide z1 (Nat.le_refl _), hb1.trans (hb2.mono z1)⟩

end Go.Proofs.Ytgaggpdlpcldeaa
end

section
namespace Go.Proofs.Ytgaggpdlpcldeaa
open Go.ChangeShapes Go.WideShapes Go.ChangeAt Go.RowKit
set_option linter.unusedVariables false

theorem sub_lenN : ∀ (l m : List Nat), l.Nodup → (∀ x ∈ l, x ∈ m) → l.length ≤ m.length := by
  intro l
  induction l with
  | nil => intro m _ _; exact Nat.zero_le _
  | cons a t ih =>
    intro m hn hs
    obtain ⟨ha, ht⟩ := List.nodup_cons.1 hn
    have hm := hs a (List.mem_cons_self ..)
    have h1 := ih (m.erase a) ht fun x hx => (List.mem_erase_of_ne (fun e => ha (by rw [← e]; exact hx))).2 (hs x (List.mem_cons_of_mem _ hx))
    have h2 := List.length_erase_of_mem hm
    have h3 := List.length_pos_of_mem hm
    rw [List.length_cons]; omega
theorem flt_add (p : Nat → Bool) : ∀ l : List Nat, (l.filter p).length + (l.filter fun q => !p q).length = l.length := by
  intro l
  induction l with
  | nil => rfl
  | cons a t ih =>
    rw [List.filter_cons, List.filter_cons]
    cases h : p a <;> simp <;> omega
theorem map_nodup {f : Nat → Nat} {l : List Nat} (hn : l.Nodup) (hf : ∀ a ∈ l, ∀ b ∈ l, f a = f b → a = b) : (l.map f).Nodup := by
  rw [List.Nodup, List.pairwise_map]
  exact List.Pairwise.imp_of_mem (fun ha hb hab e => hab (hf _ ha _ hb e)) hn
/-- An involution without fixed points moves an even number. -/
theorem invol_even (n : Nat) (f : Nat → Nat) (h : ∀ q, q < n → f q < n ∧ f q ≠ q ∧ f (f q) = q) : n % 2 = 0 := by
  have hadd := flt_add (fun q => decide (q < f q)) (List.range n)
  rw [List.length_range] at hadd
  have hm : ∀ (p : Nat → Bool) q, q ∈ (List.range n).filter p ↔ q < n ∧ p q = true := fun p q => by rw [List.mem_filter, List.mem_range]
  have hnd : ∀ p : Nat → Bool, ((List.range n).filter p).Nodup := fun p => List.Pairwise.filter _ List.nodup_range
  have hle : ∀ p p' : Nat → Bool, (∀ q, q < n → p q = true → p' (f q) = true) → ((List.range n).filter p).length ≤ ((List.range n).filter p').length := by
    intro p p' hp
    rw [← List.length_map (f := f)]
    refine sub_lenN _ _ (map_nodup (hnd p) fun a ha b hb e => ?_) fun x hx => ?_
    · rw [← (h a ((hm _ _).1 ha).1).2.2, e, (h b ((hm _ _).1 hb).1).2.2]
    · obtain ⟨q, hq, rfl⟩ := List.mem_map.1 hx
      obtain ⟨h1, h2⟩ := (hm _ _).1 hq
      exact (hm _ _).2 ⟨(h q h1).1, hp q h1 h2⟩
  have h1 := hle (fun q => decide (q < f q)) (fun q => !decide (q < f q)) fun q hq hp => by
    have := h q hq
    have hp' : q < f q := of_decide_eq_true hp
    show (!decide (f q < f (f q))) = true
    rw [this.2.2]; simp; omega
  have h2 := hle (fun q => !decide (q < f q)) (fun q => decide (q < f q)) fun q hq hp => by
    have := h q hq
    have hp' : ¬ q < f q := by simpa using hp
    show decide (f q < f (f q)) = true
    rw [this.2.2]; simp; omega
  omega
/-- The partner of a point. -/
def nx (a : List Int) (p : Nat) : Nat := (a.getD p 0).toNat
theorem nx_match {xs : List Int} (h : matchP xs = true) {q : Nat} (hq : q < xs.length) : nx xs q < xs.length ∧ nx xs q ≠ q ∧ nx xs (nx xs q) = q ∧ xs.getD q 0 = (nx xs q : Int) := by
  obtain ⟨h1, h2, h3, h4⟩ := (match_yes h).2 q hq
  unfold nx
  refine ⟨by omega, by omega, ?_, by omega⟩
  rw [h4]; simp
theorem match_even {xs : List Int} (h : matchP xs = true) : xs.length = 2 * (xs.length / 2) := by
  have := invol_even xs.length (nx xs) fun q hq => ⟨(nx_match h hq).1, (nx_match h hq).2.1, (nx_match h hq).2.2.1⟩
  omega
theorem match_cross {xs : List Int} (h : (crossP xs == 0) = true) : matchP xs = true := by
  cases hm : matchP xs
  · unfold crossP at h; rw [hm] at h; simp at h
  · rfl

/-- A diagram: a matching without crossings of two points at least. -/
def diaB (xs : List Int) : Bool := decide (2 ≤ xs.length) && (crossP xs == 0)
theorem dia_match {xs : List Int} (h : diaB xs = true) : matchP xs = true ∧ 2 ≤ xs.length ∧ xs.length ≤ 16 := by
  unfold diaB at h
  rw [Bool.and_eq_true] at h
  have := match_cross h.2
  exact ⟨this, of_decide_eq_true h.1, (match_yes this).1⟩
/-- The identity of n points above. -/
def idL (n : Nat) : List Int := (List.range (2 * n)).map fun (i : Nat) => 2 * (n : Int) - 1 - (i : Int)
theorem idL_len (n : Nat) : (idL n).length = 2 * n := by simp [idL]
theorem idL_at (n q : Nat) (h : q < 2 * n) : (idL n).getD q 0 = 2 * (n : Int) - 1 - (q : Int) := by simp [idL, List.getD, h]
/-- The first i partners in a diagram of M points that is the identity. -/
def idA (M i : Nat) : List Int := (List.range i).map fun (q : Nat) => (M : Int) - 1 - (q : Int)
theorem idA_len (M i : Nat) : (idA M i).length = i := by simp [idA]
theorem idA_succ (M i : Nat) : idA M (i + 1) = idA M i ++ [(M : Int) - 1 - (i : Int)] := by simp [idA, List.range_succ]
theorem idL_eq (n : Nat) : idL n = idA (2 * n) (2 * n) := by
  unfold idL idA
  refine List.map_congr_left fun i _ => ?_
  push_cast; rfl
def idF (M i : Nat) : Nat → Int := fun q => if q < i then (M : Int) - 1 - (q : Int) else 0
theorem idF_zero (M : Nat) : idF M 0 = fun _ => 0 := by funext q; unfold idF; rw [if_neg (by omega)]
theorem idF_succ (M i : Nat) : idF M (i + 1) = upd (idF M i) i ((M : Int) - 1 - (i : Int)) := by
  funext q
  unfold idF
  by_cases e : q = i
  · subst e; rw [upd_at, if_pos (by omega)]
  · rw [upd_ne _ _ e]
    by_cases h2 : q < i
    · rw [if_pos h2, if_pos (by omega)]
    · rw [if_neg h2, if_neg (by omega)]
def idOk (n : Int) : Bool := decide (1 ≤ n ∧ n ≤ 8)
def idP (n : Int) : List Int := if idOk n = true then idL n.toNat else []
theorem idP_len (n : Int) : (idP n).length ≤ 16 := by
  unfold idP
  split
  · rename_i h
    have := of_decide_eq_true h
    rw [idL_len]; omega
  · simp
/-- A hook. -/
def hkL (n i : Nat) : List Int := ((((idL n).set i ((i : Int) + 1)).set (i + 1) (i : Int)).set (2 * n - 1 - i) (2 * (n : Int) - 2 - (i : Int))).set (2 * n - 2 - i) (2 * (n : Int) - 1 - (i : Int))
theorem OwnI.setL {w : World} {lo hi g cap n : Nat} {xs : List Int} (h : OwnI w lo hi (.slice (some ⟨g, 0, none⟩) n cap) xs) {j : Nat} (hj : j < xs.length) (y : Int) : OwnI (w.setCell ⟨g, j, none⟩ (.int .i64 y)) lo hi (.slice (some ⟨g, 0, none⟩) n cap) (xs.set j y) :=
  h.set hj (by simp) (by simp [List.getD, hj]) (fun i hi hne => by simp [List.getD, List.getElem?_set_ne (Ne.symm hne)])
theorem OwnI.at {w : World} {lo hi g cap n : Nat} {xs : List Int} (h : OwnI w lo hi (.slice (some ⟨g, 0, none⟩) n cap) xs) {j : Nat} (hj : j < xs.length) : ∃ z, w.cell? ⟨g, j, none⟩ = some (.int .i64 z) ∧ w.frozen? ⟨g, j, none⟩ = false := by
  obtain ⟨g1, p1, e1, -, -, hc1, hf⟩ := h.cell hj
  simp only [Value.slice.injEq, Option.some.injEq, Addr.mk.injEq] at e1
  obtain ⟨⟨rfl, -, -⟩, -, -⟩ := e1
  exact ⟨_, hc1, hf⟩
theorem hkL_len (n i : Nat) : (hkL n i).length = 2 * n := by simp [hkL, idL_len]
def hkOk (n i : Int) : Bool := decide (1 ≤ n ∧ n ≤ 8 ∧ 0 ≤ i ∧ i ≤ n - 2)
def hkP (n i : Int) : List Int := if hkOk n i = true then hkL n.toNat i.toNat else []
theorem hkP_len (n i : Int) : (hkP n i).length ≤ 16 := by
  unfold hkP
  split
  · rename_i h
    have := of_decide_eq_true h
    rw [hkL_len]; omega
  · simp
/-- Upside down. -/
def flL (xs : List Int) : List Int := (List.range xs.length).map fun (q : Nat) => (xs.length : Int) - 1 - xs.getD (xs.length - 1 - q) 0
theorem flL_len (xs : List Int) : (flL xs).length = xs.length := by simp [flL]
theorem flL_at (xs : List Int) (q : Nat) (h : q < xs.length) : (flL xs).getD q 0 = (xs.length : Int) - 1 - xs.getD (xs.length - 1 - q) 0 := by simp [flL, List.getD, h]
def flP (xs : List Int) : List Int := if diaB xs = true then flL xs else []
theorem flP_len (xs : List Int) : (flP xs).length ≤ 16 := by
  unfold flP
  split
  · rename_i h
    rw [flL_len]; exact (dia_match h).2.2
  · simp
/-- The row when the first i points have been filled in. -/
def flF (xs : List Int) (i : Nat) : Nat → Int := fun q => if q < xs.length ∧ xs.length - 1 - q < i then (xs.length : Int) - 1 - xs.getD (xs.length - 1 - q) 0 else 0
theorem flF_zero (xs : List Int) : flF xs 0 = fun _ => 0 := by funext q; unfold flF; rw [if_neg (by omega)]
theorem flF_succ (xs : List Int) {i : Nat} (h : i < xs.length) : flF xs (i + 1) = upd (flF xs i) (xs.length - 1 - i) ((xs.length : Int) - 1 - xs.getD i 0) := by
  funext q
  unfold flF
  by_cases e : q = xs.length - 1 - i
  · subst e
    rw [upd_at, if_pos (by omega), show xs.length - 1 - (xs.length - 1 - i) = i by omega]
  · rw [upd_ne _ _ e]
    by_cases h2 : q < xs.length ∧ xs.length - 1 - q < i
    · rw [if_pos h2, if_pos (by omega)]
    · rw [if_neg h2, if_neg (by omega)]
theorem flF_all (xs : List Int) {q : Nat} (h : q < xs.length) : (flL xs).getD q 0 = flF xs xs.length q := by
  rw [flL_at xs q h]; unfold flF; rw [if_pos (by omega)]
/-- Arcs from above to below. -/
def thN (xs : List Int) : Nat → Nat
  | 0 => 0
  | k + 1 => thN xs k + if ((xs.length / 2 : Nat) : Int) ≤ xs.getD k 0 then 1 else 0
theorem thN_le (xs : List Int) : ∀ k, thN xs k ≤ k := by
  intro k
  induction k with
  | zero => exact Nat.zero_le _
  | succ k ih => rw [thN]; split <;> omega
def thP (xs : List Int) : Int := if diaB xs = true then (thN xs (xs.length / 2) : Int) else -1

/-- One more point has been seen. -/
def upb (s : Nat → Bool) (k : Nat) : Nat → Bool := fun q => if q = k then true else s q
theorem upb_at (s : Nat → Bool) (k : Nat) : upb s k k = true := if_pos rfl
theorem upb_ne (s : Nat → Bool) {k q : Nat} (h : q ≠ k) : upb s k q = s q := if_neg h
theorem upb_mono (s : Nat → Bool) (k q : Nat) (h : s q = true) : upb s k q = true := by unfold upb; split; rfl; exact h
/-- How many of the first n have not been seen. -/
def uns (s : Nat → Bool) : Nat → Nat
  | 0 => 0
  | n + 1 => uns s n + if s n = false then 1 else 0
theorem uns_le (s : Nat → Bool) : ∀ n, uns s n ≤ n := by
  intro n
  induction n with
  | zero => exact Nat.zero_le _
  | succ n ih => rw [uns]; split <;> omega
theorem uns_mono (s : Nat → Bool) (k : Nat) : ∀ n, uns (upb s k) n ≤ uns s n := by
  intro n
  induction n with
  | zero => exact Nat.le_refl _
  | succ n ih =>
    rw [uns, uns]
    have := upb_mono s k n
    cases h : s n
    · split <;> simp <;> omega
    · rw [this h]; simpa using ih
theorem uns_upb {s : Nat → Bool} {k : Nat} (hs : s k = false) : ∀ n, k < n → uns (upb s k) n + 1 ≤ uns s n := by
  intro n
  induction n with
  | zero => intro h; omega
  | succ n ih =>
    intro h
    rw [uns, uns]
    by_cases e : n = k
    · subst e
      rw [upb_at, hs]
      have := uns_mono s n n
      simp; omega
    · have := ih (by omega)
      rw [upb_ne s e]; omega
/-- From a point on, along arcs of both, until a point has been seen. -/
def ccW (a b : List Int) : Nat → (Nat → Bool) → Nat → (Nat → Bool)
  | 0, s, _ => s
  | k + 1, s, p => if s p = true then s else ccW a b k (upb (upb s p) (nx a p)) (nx b (nx a p))
theorem ccW_hit {a b : List Int} {k : Nat} {s : Nat → Bool} {p : Nat} (h : s p = true) : ccW a b k s p = s := by
  cases k with
  | zero => rfl
  | succ k => rw [ccW, if_pos h]
theorem ccW_go {a b : List Int} {k : Nat} {s : Nat → Bool} {p : Nat} (h : s p = false) : ccW a b (k + 1) s p = ccW a b k (upb (upb s p) (nx a p)) (nx b (nx a p)) := by
  rw [ccW, if_neg (by simp [h])]
/-- What has been seen behind the first i starts, and how many loops. -/
def ccO (a b : List Int) (n : Nat) (s0 : Nat → Bool) : Nat → (Nat → Bool) × Nat
  | 0 => (s0, 0)
  | i + 1 => if (ccO a b n s0 i).1 i = true then ccO a b n s0 i else (ccW a b (n + 1) (ccO a b n s0 i).1 i, (ccO a b n s0 i).2 + 1)
theorem ccO_hit {a b : List Int} {n : Nat} {s0 : Nat → Bool} {i : Nat} (h : (ccO a b n s0 i).1 i = true) : ccO a b n s0 (i + 1) = ccO a b n s0 i := by rw [ccO, if_pos h]
theorem ccO_go {a b : List Int} {n : Nat} {s0 : Nat → Bool} {i : Nat} (h : (ccO a b n s0 i).1 i = false) : ccO a b n s0 (i + 1) = (ccW a b (n + 1) (ccO a b n s0 i).1 i, (ccO a b n s0 i).2 + 1) := by rw [ccO, if_neg (by simp [h])]
theorem ccO_le (a b : List Int) (n : Nat) (s0 : Nat → Bool) : ∀ i, (ccO a b n s0 i).2 ≤ i := by
  intro i
  induction i with
  | zero => exact Nat.le_refl _
  | succ i ih =>
    rw [ccO]
    split
    · omega
    · simpa using ih
def lpN (a b : List Int) : Nat := (ccO a b a.length (fun _ => false) a.length).2
def lpOk (a b : List Int) : Bool := (crossP a == 0) && (crossP b == 0) && decide (a.length = b.length)
def lpP (a b : List Int) : Int := if lpOk a b = true then (lpN a b : Int) else -1
theorem lpOk_yes {a b : List Int} (h : lpOk a b = true) : matchP a = true ∧ matchP b = true ∧ a.length = b.length ∧ a.length ≤ 16 := by
  unfold lpOk at h
  rw [Bool.and_eq_true, Bool.and_eq_true] at h
  have := match_cross h.1.1
  exact ⟨this, match_cross h.1.2, of_decide_eq_true h.2, (match_yes this).1⟩
def trP (xs : List Int) : Int := if diaB xs = true then (lpN xs (idL (xs.length / 2)) : Int) else -1
/-- Loops go along points of both. -/
def InR (a : List Int) (n : Nat) : Prop := ∀ q, q < n → nx a q < n ∧ a.getD q 0 = (nx a q : Int)
theorem inR_match {xs : List Int} (h : matchP xs = true) : InR xs xs.length := fun q hq => ⟨(nx_match h hq).1, (nx_match h hq).2.2.2⟩
theorem nx_id {n q : Nat} (h : q < 2 * n) : nx (idL n) q = 2 * n - 1 - q := by unfold nx; rw [idL_at n q h]; omega
theorem inR_id (n : Nat) : InR (idL n) (2 * n) := fun q hq => ⟨by rw [nx_id hq]; omega, by rw [nx_id hq, idL_at n q hq]; omega⟩

end Go.Proofs.Ytgaggpdlpcldeaa
end

section
namespace Go.Proofs.Ytgaggpdlpcldeaa
open Go.ChangeShapes Go.WideShapes Go.ChangeAt Go.RowKit
set_option linter.unusedVariables false

theorem infoB : (Try.prog.info? 4).map (fun i => (i.zero, i.size, i.bytes)) = some (some (.bool false), 1, 1) := by kernel_rfl
/-- Block g holds m truth values. -/
def TkB (w : World) (g m : Nat) (f : Nat → Bool) : Prop := ∃ C : Array Value, w.heap[g]? = some (.cells C 4 (0, 0)) ∧ C.size = m ∧ ∀ q, q < m → C[q]? = some (.bool (f q))
theorem TkB.lt {w : World} {g m : Nat} {f : Nat → Bool} (h : TkB w g m f) : g < w.heap.size := by
  obtain ⟨C, h1, -⟩ := h
  exact (Array.getElem?_eq_some_iff.1 h1).1
theorem TkB.cell {w : World} {g m : Nat} {f : Nat → Bool} (h : TkB w g m f) {q : Nat} (hq : q < m) : w.cell? ⟨g, q, none⟩ = some (.bool (f q)) ∧ w.frozen? ⟨g, q, none⟩ = false := by
  obtain ⟨C, h1, -, h2⟩ := h
  refine ⟨?_, by simp [World.frozen?, h1]⟩
  rw [cell_of_row w g q C _ (0, 0) h1]
  exact h2 q hq
theorem TkB.set {w : World} {g m k : Nat} {f f' : Nat → Bool} {y : Bool} (h : TkB w g m f) (hk : k < m) (hy : f' k = y) (ho : ∀ q, q < m → q ≠ k → f' q = f q) : TkB (w.setCell ⟨g, k, none⟩ (.bool y)) g m f' := by
  obtain ⟨C, h1, h0, h2⟩ := h
  refine ⟨C.setIfInBounds k (.bool y), by simp [World.setCell, Array.getElem?_modify, h1], by simpa using h0, fun q hq => ?_⟩
  by_cases e : q = k
  · subst e
    rw [Array.getElem?_setIfInBounds_self_of_lt (by omega), hy]
  · rw [Array.getElem?_setIfInBounds_ne (by omega), h2 q hq, ho q hq e]
theorem TkB.keep {w w' : World} {g m : Nat} {f : Nat → Bool} (h : TkB w g m f) (e : w'.heap[g]? = w.heap[g]?) : TkB w' g m f := by
  obtain ⟨C, h1, h2⟩ := h
  exact ⟨C, e.trans h1, h2⟩
theorem TkB.alloc {w : World} {g m : Nat} {f : Nat → Bool} (h : TkB w g m f) (o : Obj) : TkB (w.alloc o) g m f :=
  h.keep (by
    have := h.lt
    rw [show (w.alloc o).heap = w.heap.push o from rfl, Array.getElem?_push, if_neg (by omega)])
theorem TkB.same {w : World} {g m : Nat} {f f' : Nat → Bool} (h : TkB w g m f) (ho : ∀ q, q < m → f' q = f q) : TkB w g m f' := by
  obtain ⟨C, h1, h0, h2⟩ := h
  exact ⟨C, h1, h0, fun q hq => by rw [h2 q hq, ho q hq]⟩
theorem TkB.made {w : World} {base m : Nat} {b0 : Nat} (h : w.ownsRow b0 4 1 (.slice (some ⟨base, 0, none⟩) m m) m (madeCells (Value.bool false).cells (m * 1)).toList) : TkB w base m fun _ => false := by
  rcases h.2 with ⟨h1, _⟩ | ⟨g, cap, cur, hv, hb, hh, hnc, hcm, hcur, htake⟩
  · cases h1
  · simp only [Value.slice.injEq, Option.some.injEq, Addr.mk.injEq] at hv
    obtain ⟨⟨rfl, _, _⟩, _, rfl⟩ := hv
    refine ⟨cur, hh, by simpa using hcur, fun j hj => ?_⟩
    have e : cur.toList[j]? = (cur.toList.take (m * 1))[j]? := by rw [List.getElem?_take, if_pos (by omega)]
    rw [← Array.getElem?_toList, e, htake, show (Value.bool false).cells = #[Value.bool false] from rfl, toList_madeCells_one]
    simp [hj]

end Go.Proofs.Ytgaggpdlpcldeaa
end

section
namespace Go.Proofs.Ytgaggpdlpcldeaa
open Go.ChangeShapes Go.WideShapes Go.ChangeAt Go.RowKit
set_option linter.unusedVariables false

theorem l1In_nay (x lo hi : Int) (w : World) (h : ¬ (lo ≤ x ∧ x ≤ hi)) :
    Calls Try.prog 23 #[.int .i64 x, .int .i64 lo, .int .i64 hi] w fun e w' => e = .returned (.bool false) ∧ w = w' := by
  by_cases h1 : lo ≤ x
  · exact l1In_no2 x lo hi w h1 (by omega)
  · exact l1In_no1 x lo hi w (by omega)

end Go.Proofs.Ytgaggpdlpcldeaa
end

section
namespace Go.Proofs.Ytgaggpdlpcldeaa
open Go.ChangeShapes Go.WideShapes Go.ChangeAt Go.RowKit
set_option linter.unusedVariables false

open Classical in
/-- How many of the first n cells of block g are false. -/
noncomputable def unsM (w : World) (g : Nat) : Nat → Nat
  | 0 => 0
  | n + 1 => unsM w g n + if w.cell? ⟨g, n, none⟩ = some (.bool false) then 1 else 0
theorem unsM_eq {w : World} {g m : Nat} {f : Nat → Bool} (h : TkB w g m f) : ∀ n, n ≤ m → unsM w g n = uns f n := by
  intro n
  induction n with
  | zero => intro _; rfl
  | succ n ih =>
    intro hn
    rw [unsM, uns, ih (by omega), (h.cell (q := n) (by omega)).1]
    cases hf : f n <;> simp
theorem TkB.upb {w : World} {g m k : Nat} {f : Nat → Bool} (h : TkB w g m f) (hk : k < m) : TkB (w.setCell ⟨g, k, none⟩ (.bool true)) g m (upb f k) :=
  h.set hk (upb_at f k) (fun q _ hne => upb_ne f hne)
theorem frozen_setB {w : World} {g m k : Nat} {f : Nat → Bool} (h : TkB w g m f) (hk : k < m) : (w.setCell ⟨g, k, none⟩ (.bool true)).heap.size = w.heap.size := by simp [World.setCell]

end Go.Proofs.Ytgaggpdlpcldeaa
end

section
namespace Go.Proofs.Ytgaggpdlpcldeaa
open Go.ChangeShapes Go.WideShapes Go.ChangeAt Go.RowKit
set_option linter.unusedVariables false

set_option maxRecDepth 100000 in
set_option maxHeartbeats 3200000 in
theorem loopsOf (A A' : Option Addr) (xs ys : List Int) (cap cap' lo hi lo' hi' : Nat) (w : World) (hv : OwnI w lo hi (.slice A xs.length cap) xs) (hu : OwnI w lo' hi' (.slice A' ys.length cap') ys) (hhi : hi ≤ w.heap.size) (hhu : hi' ≤ w.heap.size) (hl : xs.length ≤ 1099511627776) (hl' : ys.length ≤ 1099511627776) :
    Calls Try.prog 34 #[.slice A xs.length cap, .slice A' ys.length cap'] w fun e w' => e = .returned (.int .i64 (lpP xs ys)) ∧ Below w.heap.size w w' := by
  have HN := Lib.hid (noncrossing _ xs lo hi w hv hl)
  have HN2 := Lib.hid (fun W (h : OwnI W lo' hi' (.slice A' ys.length cap') ys) => noncrossing _ ys lo' hi' W h hl')
  have HV := Lib.hid hv
  have HU := Lib.hid hu
  clear hv hu
  rcases hx : (crossP xs == 0) with _ | _
  · have HP := Lib.hid (show lpP xs ys = -1 from if_neg (by unfold lpOk; rw [hx]; simp))
    rw [hx] at HN
    clear hx
    go_enter Try.func34, Try.ntmps34
    go_wp2_with fail
    (with_reducible refine HN.out.mono ?_)
    rintro e w' ⟨rfl, hb⟩
    go_wp2
    go_ret
    exact ⟨ret_int HP.out.symm, hb⟩
  rcases hy : (crossP ys == 0) with _ | _
  · have HP := Lib.hid (show lpP xs ys = -1 from if_neg (by unfold lpOk; rw [hy]; simp))
    rw [hx] at HN
    rw [hy] at HN2
    clear hx hy
    go_enter Try.func34, Try.ntmps34
    go_wp2_with fail
    (with_reducible refine HN.out.mono ?_)
    rintro e w1 ⟨rfl, hb⟩
    have HB := Lib.hid hb
    have HU1 := Lib.hid (HU.out.keep hb hhu)
    clear hb
    go_wp2_with fail
    (with_reducible refine (HN2.out _ HU1.out).mono ?_)
    rintro e w2 ⟨rfl, hb⟩
    have HB2 := Lib.hid (HB.out.trans (hb.mono HB.out.size))
    clear hb
    go_wp2
    go_ret
    exact ⟨ret_int HP.out.symm, HB2.out⟩
  by_cases hlen : xs.length = ys.length
  · have HP := Lib.hid (show lpP xs ys = (lpN xs ys : Int) from if_pos (by unfold lpOk; rw [hx, hy, decide_eq_true hlen]; rfl))
    have hmx := match_cross hx
    have hmy := match_cross hy
    have h16 := (match_yes hmx).1
    have HRX := Lib.hid (inR_match hmx)
    have HRY := Lib.hid (inR_match hmy)
    rw [hx] at HN
    rw [hy] at HN2
    clear hx hy hmx hmy
    obtain ⟨n, hn⟩ : ∃ n, n = xs.length := ⟨_, rfl⟩
    have HE := Lib.hid hn
    have HE2 := Lib.hid (hn.trans hlen)
    have hne : ((n : Int) != (n : Int)) = false := by simp
    have HPN := Lib.hid (show lpN xs ys = (ccO xs ys n (fun _ => false) n).2 by unfold lpN; rw [← hn])
    have HCL := Lib.hid (fun i => ccO_le xs ys n (fun _ => false) i)
    rw [← HE.out, ← HE2.out]
    rw [← HE.out] at HN HV HRX h16
    rw [← HE2.out] at HN2 HU HRY
    clear hn hlen hl hl'
    obtain ⟨i0, hi0, hz0, hz1, hz2⟩ := info_parts infoB
    go_enter Try.func34, Try.ntmps34
    go_wp2_with fail
    (with_reducible refine HN.out.mono ?_)
    rintro e w1 ⟨rfl, hb⟩
    have HB := Lib.hid hb
    have HU1 := Lib.hid (HU.out.keep hb hhu)
    have HV1 := Lib.hid (HV.out.keep hb hhi)
    have z1 := hb.size
    clear hb
    go_wp2_with fail
    (with_reducible refine (HN2.out _ HU1.out).mono ?_)
    rintro e w2 ⟨rfl, hb⟩
    have HB2 := Lib.hid (HB.out.trans (hb.mono HB.out.size))
    have HU2 := Lib.hid (HU1.out.keep hb (by omega))
    have HV2 := Lib.hid (HV1.out.keep hb (by omega))
    have z2 := hb.size
    clear hb
    go_wp2_with (at_make; go_must (refine wpList_make_full _ rfl _ _ 52 rfl w2.heap.size 4 i0 (.bool false) 1 Try.underlying52 hi0 hz0 hz1 .i64 .i64 (n : Int) (n : Int) n rfl rfl (by omega) (by omega) (by rw [hz2]; omega) (by unfold maxLen; omega) (Nat.le_refl _) ?_); intro w3 hown1 hgrow1)
    have HT0 := Lib.hid (TkB.made hown1)
    have HB3 := Lib.hid ((Below.refl w2.heap.size w2).grown hgrow1 (Nat.le_refl _) (fun k hk => by cases hk))
    clear hown1 hgrow1
    go_wp2
    go_loopw [6, 7] (fun x y wr => ∃ i : Nat, i ≤ n ∧ y = .int .i64 i ∧ x = .int .i64 ((ccO xs ys n (fun _ => false) i).2 : Nat) ∧ TkB wr w2.heap.size n (ccO xs ys n (fun _ => false) i).1 ∧ Below w2.heap.size w2 wr) (fun _ y _ => n - (intOf y).toNat)
    case atStart => exact ⟨0, Nat.zero_le _, rfl, rfl, HT0.out, HB3.out⟩
    case round =>
      obtain ⟨i, hi, rfl, rfl, htk, hb⟩ := hrel
      have HT := Lib.hid htk
      have HB4 := Lib.hid hb
      have hcl := HCL.out i
      clear htk hb HT0 HB3
      have HHIT := Lib.hid (fun h => ccO_hit (a := xs) (b := ys) (n := n) (s0 := fun _ => false) (i := i) h)
      have HGO := Lib.hid (fun h => ccO_go (a := xs) (b := ys) (n := n) (s0 := fun _ => false) (i := i) h)
      obtain ⟨S, hS⟩ : ∃ S, S = (ccO xs ys n (fun _ => false) i).1 := ⟨_, rfl⟩
      obtain ⟨c, hc⟩ : ∃ c, c = (ccO xs ys n (fun _ => false) i).2 := ⟨_, rfl⟩
      have HSC := Lib.hid (show ccO xs ys n (fun _ => false) i = (S, c) by rw [hS, hc])
      rw [← hS] at HT HHIT HGO
      rw [← hc] at hcl HGO ⊢
      clear hS hc
      by_cases hlt : i < n
      · have hii : (i : Int) < (n : Int) := by omega
        obtain ⟨hc1, hf1⟩ := HT.out.cell (q := i) hlt
        rcases hs : S i with _ | _
        · have HG := Lib.hid (HGO.out hs)
          have HSI := Lib.hid hs
          rw [hs] at hc1
          clear hs
          go_wp2
          go_loopw [8] (fun y wr => ∃ (p k : Nat) (S' : Nat → Bool), p < n ∧ y = .int .i64 p ∧ TkB wr w2.heap.size n S' ∧ uns S' n < k ∧ ccW xs ys k S' p = ccW xs ys (n + 1) S i ∧ Below w2.heap.size w2 wr) (fun _ wr => unsM wr w2.heap.size n)
          case atStart => exact ⟨i, n + 1, S, hlt, rfl, HT.out, by have := uns_le S n; omega, rfl, HB4.out⟩
          case round =>
            obtain ⟨p, k, S', hp, rfl, htk, hk, hw, hb⟩ := hrel
            have HT2 := Lib.hid htk
            have HB5 := Lib.hid hb
            have HK := Lib.hid hk
            have HW := Lib.hid hw
            clear htk hb hk hw
            have hpi : (p : Int) < (n : Int) := by omega
            obtain ⟨hc2, hf2⟩ := HT2.out.cell (q := p) hp
            rcases hs2 : S' p with _ | _
            · rw [hs2] at hc2
              obtain ⟨hq1, hq2⟩ := HRX.out p hp
              obtain ⟨hr1, hr2⟩ := HRY.out (nx xs p) hq1
              have HB6 := Lib.hid (HB5.out.setCell (p := ⟨w2.heap.size, p, none⟩) (Nat.le_refl _) (.bool true))
              have HT3 := Lib.hid (HT2.out.upb hp)
              have HB7 := Lib.hid (HB6.out.setCell (p := ⟨w2.heap.size, nx xs p, none⟩) (Nat.le_refl _) (.bool true))
              have HT4 := Lib.hid (HT3.out.upb hq1)
              obtain ⟨g1, p1, e1, -, -, hcx1, -⟩ := (HV2.out.keep HB6.out (by omega)).cell (j := p) (by rw [← HE.out]; exact hp)
              obtain ⟨g1', p1', e1', -, -, hcx2, -⟩ := (HV2.out.keep HB7.out (by omega)).cell (j := p) (by rw [← HE.out]; exact hp)
              obtain ⟨g2, p2, e2, -, -, hcy, -⟩ := (HU2.out.keep HB7.out (by omega)).cell (j := nx xs p) (by rw [← HE2.out]; exact hq1)
              simp only [Value.slice.injEq] at e1 e1' e2
              obtain ⟨rfl, -, -⟩ := e1
              obtain ⟨e3, -, -⟩ := e1'
              obtain rfl : g1 = g1' := by simpa using e3
              obtain ⟨rfl, -, -⟩ := e2
              rw [hq2] at hcx1 hcx2
              rw [hr2] at hcy
              obtain ⟨hc3, hf3⟩ := HT3.out.cell (q := nx xs p) hq1
              have HUW := Lib.hid (show unsM ((wr.setCell ⟨w2.heap.size, p, none⟩ (.bool true)).setCell ⟨w2.heap.size, nx xs p, none⟩ (.bool true)) w2.heap.size n < unsM wr w2.heap.size n by
                rw [unsM_eq HT2.out n (Nat.le_refl _), unsM_eq HT4.out n (Nat.le_refl _)]
                have := uns_upb hs2 n hp
                have := uns_mono (upb S' p) (nx xs p) n
                omega)
              have HUK := Lib.hid (show uns (upb (upb S' p) (nx xs p)) n < k - 1 by
                have := uns_upb hs2 n hp
                have := uns_mono (upb S' p) (nx xs p) n
                have := HK.out
                omega)
              have HW3 := Lib.hid (show ccW xs ys (k - 1) (upb (upb S' p) (nx xs p)) (nx ys (nx xs p)) = ccW xs ys (n + 1) S i by
                rw [← HW.out]
                have := HK.out
                obtain ⟨k', rfl⟩ : ∃ k', k = k' + 1 := ⟨k - 1, by omega⟩
                rw [ccW_go hs2]; rfl)
              clear hs2 e3
              generalize nx ys (nx xs p) = q3 at *
              generalize nx xs p = q2 at *
              generalize upb S' p q2 = bb at hc3
              have hq2i : (q2 : Int) < (n : Int) := by omega
              have hq3i : (q3 : Int) < (n : Int) := by omega
              go_wp2
              refine ⟨⟨q3, k - 1, _, hr1, rfl, HT4.out, HUK.out, HW3.out, HB7.out⟩, HUW.out⟩
            · rw [hs2] at hc2
              have HW2 := Lib.hid (HW.out.symm.trans (ccW_hit hs2))
              clear hs2
              go_wp2
              refine ⟨⟨i + 1, by omega, by simp, by rw [HG.out]; simp, by rw [HG.out]; show TkB _ _ _ (ccW xs ys (n + 1) S i); rw [HW2.out]; exact HT2.out, HB5.out⟩, by simp [intOf]; omega⟩
        · have HG := Lib.hid (HHIT.out hs)
          rw [hs] at hc1
          clear hs
          go_wp2
          refine ⟨⟨i + 1, by omega, by simp, by rw [HG.out, HSC.out], by rw [HG.out, HSC.out]; exact HT.out, HB4.out⟩, by simp [intOf]; omega⟩
      · obtain rfl : i = n := by omega
        go_wp2
        go_ret
        exact ⟨ret_int (by rw [HP.out, HPN.out, HSC.out]), HB2.out.trans (HB4.out.mono (by omega))⟩
  · have HP := Lib.hid (show lpP xs ys = -1 from if_neg (by unfold lpOk; rw [decide_eq_false hlen]; simp))
    have hne : ((xs.length : Int) != (ys.length : Int)) = true := by simp; omega
    rw [hx] at HN
    rw [hy] at HN2
    clear hx hy
    go_enter Try.func34, Try.ntmps34
    go_wp2_with fail
    (with_reducible refine HN.out.mono ?_)
    rintro e w1 ⟨rfl, hb⟩
    have HB := Lib.hid hb
    have HU1 := Lib.hid (HU.out.keep hb hhu)
    clear hb
    go_wp2_with fail
    (with_reducible refine (HN2.out _ HU1.out).mono ?_)
    rintro e w2 ⟨rfl, hb⟩
    have HB2 := Lib.hid (HB.out.trans (hb.mono HB.out.size))
    clear hb
    go_wp2
    go_ret
    exact ⟨ret_int HP.out.symm, HB2.out⟩

theorem isMeander (A A' : Option Addr) (xs ys : List Int) (cap cap' lo hi lo' hi' : Nat) (w : World) (hv : OwnI w lo hi (.slice A xs.length cap) xs) (hu : OwnI w lo' hi' (.slice A' ys.length cap') ys) (hhi : hi ≤ w.heap.size) (hhu : hi' ≤ w.heap.size) (hl : xs.length ≤ 1099511627776) (hl' : ys.length ≤ 1099511627776) :
    Calls Try.prog 26 #[.slice A xs.length cap, .slice A' ys.length cap'] w fun e w' => e = .returned (.bool (lpP xs ys == 1)) ∧ Below w.heap.size w w' := by
  have H := Lib.hid (loopsOf A A' xs ys cap cap' lo hi lo' hi' w hv hu hhi hhu hl hl')
  obtain ⟨z, hz⟩ : ∃ z, z = lpP xs ys := ⟨_, rfl⟩
  rw [← hz] at H ⊢
  clear hz hv hu
  go_enter Try.func26, Try.ntmps26
  go_wp2_with fail
  (with_reducible refine H.out.mono ?_)
  rintro e w' ⟨rfl, hb⟩
  go_wp2
  go_ret
  exact ⟨rfl, hb⟩

end Go.Proofs.Ytgaggpdlpcldeaa
end

section
namespace Go.Proofs.Ytgaggpdlpcldeaa
open Go.ChangeShapes Go.WideShapes Go.ChangeAt Go.RowKit Go.Shelf
attribute [local go_sem] Oper.semAt_some
set_option linter.unusedVariables false

/-- The arcs of the first i points. -/
def arcL (xs : List Int) : Nat → List (Int × Int)
  | 0 => []
  | i + 1 => if (i : Int) < xs.getD i 0 then arcL xs i ++ [((i : Int), xs.getD i 0)] else arcL xs i
theorem arcL_le (xs : List Int) (i : Nat) : (arcL xs i).length ≤ i := by
  induction i with
  | zero => exact Nat.le_refl _
  | succ i ih => rw [arcL]; split; (rw [List.length_append, List.length_singleton]; omega); omega
theorem arcL_pre (xs : List Int) (i : Nat) : ∀ k, arcL xs i <+: arcL xs (i + k) := by
  intro k
  induction k with
  | zero => exact List.prefix_refl _
  | succ k ih =>
    refine ih.trans ?_
    rw [show i + (k + 1) = (i + k) + 1 by omega, arcL]
    split
    · exact List.prefix_append _ _
    · exact List.prefix_refl _
/-- An arc as it is handed on. -/
def arcV (p : Int × Int) : Array Value := #[.agg #[.int .i64 p.1, .int .i64 p.2]]

set_option maxRecDepth 100000 in
set_option maxHeartbeats 1000000 in
theorem arcsOf_in (F : Fence) (n : Nat) (h5 : F.fn 59) (hro : F.round = none) (v : Value) (A : Option Addr) (len cap : Nat) (hv : v = .slice A len cap) (w : World) :
    CallsIn F n Try.prog 59 #[.slice A len cap] w fun e w' => e = .returned (.func (.func 65) #[] #[.pointer (some ⟨w.heap.size, 0, none⟩)]) ∧ w' = w.alloc (.cells #[.slice A len cap] 22) := by
  refine callsIn_of_wp Try.func59 rfl h5 ?_ hro
  simp only [Try.ntmps59, List.size_toArray, List.length_cons, List.length_nil, Nat.reduceAdd, Nat.reduceSub, Array.replicate_succ, Array.replicate_zero, List.push_toArray, List.append_toArray, List.nil_append, List.cons_append]
  gi_wp2
  go_ret
  exact ⟨rfl, rfl⟩

set_option maxRecDepth 100000 in
set_option maxHeartbeats 2000000 in
theorem arcs1_in (F : Fence) (n : Nat) (h6 : F.fn 65) (hro : F.round = none) (hn : 1 ≤ n) (l Bn n₀ lo hi : Nat) (A : Option Addr) (cap : Nat) (xs : List Int) (hhi : hi ≤ n₀) (hlx : xs.length ≤ 1099511627776) (J Jx : List (Int × Int) → World → Prop)
    (hY : ∀ pre x W, J pre W → pre.length < xs.length → YieldAt F (n - 1) Try.prog l (arcV x) W fun e W' =>
      (e = .returned (.bool true) ∧ J (pre ++ [x]) W' ∧ Below n₀ W W') ∨ (e = .returned (.bool false) ∧ Jx (pre ++ [x]) W'))
    (W : World) (hBn : W.cell? ⟨Bn, 0, none⟩ = some (.slice A xs.length cap)) (hL : OwnI W lo hi (.slice A xs.length cap) xs) (h0 : J [] W) :
    CallsIn F n Try.prog 65 #[.func (.yield l) #[] #[], .pointer (some ⟨Bn, 0, none⟩)] W fun e W' => (∃ v, e = .returned v) ∧
      ((∃ ys, ys = arcL xs xs.length ∧ J ys W') ∨ (∃ pre, pre <+: arcL xs xs.length ∧ Jx pre W')) := by
  refine callsIn_of_wp Try.func65 rfl h6 ?_ hro
  simp only [Try.ntmps65, List.size_toArray, List.length_cons, List.length_nil, Nat.reduceAdd, Nat.reduceSub, Array.replicate_succ, Array.replicate_zero, List.push_toArray, List.append_toArray, List.nil_append, List.cons_append]
  gi_wp2
  gi_loopw [7] (fun x wr => ∃ k : Nat, k ≤ xs.length ∧ x = .int .i64 k ∧ OwnI wr lo hi (.slice A xs.length cap) xs ∧ J (arcL xs k) wr) (fun x _ => xs.length - (intOf x).toNat)
  case atStart => exact ⟨0, Nat.zero_le _, rfl, hL, h0⟩
  case round =>
    obtain ⟨k, hk, rfl, ho, hJs⟩ := hrel
    by_cases hlt : k < xs.length
    · obtain ⟨g, p, e1, -, -, hc, -⟩ := ho.cell hlt
      simp only [Value.slice.injEq] at e1
      obtain ⟨rfl, -, rfl⟩ := e1
      have hki : (k : Int) < (xs.length : Int) := by omega
      have hlen := arcL_le xs k
      have HSU := Lib.hid (show arcL xs (k + 1) = if (k : Int) < xs.getD k 0 then arcL xs k ++ [((k : Int), xs.getD k 0)] else arcL xs k from rfl)
      have HPR := Lib.hid (arcL_pre xs (k + 1) (xs.length - (k + 1)))
      rw [show k + 1 + (xs.length - (k + 1)) = xs.length by omega] at HPR
      generalize xs.getD k 0 = y at *
      by_cases hky : (k : Int) < y
      · have d1 : decide ((k : Int) < y) = true := decide_eq_true hky
        have HE := Lib.hid (HSU.out.trans (if_pos hky))
        obtain ⟨fn, tmps, assign, body, hy, hR⟩ := hY (arcL xs k) ((k : Int), y) wr hJs (by omega)
        unfold arcV at hy
        dsimp only at hy
        gi_wp2
        refine hR.mono ?_
        rintro e W3 (⟨rfl, hJ3, hk3⟩ | ⟨rfl, hJx3⟩)
        · have ho3 := ho.keep hk3 hhi
          gi_wp2
          go_roundw
          case rel => exact ⟨k + 1, by omega, by simp, ho3, by rw [HE.out]; exact hJ3⟩
          case measure => simp [intOf]; omega
        · gi_wp2
          refine bodyPost_ret (results_none rfl _ _ _) rfl ?_
          exact ⟨⟨_, rfl⟩, .inr ⟨_, by rw [← HE.out]; exact HPR.out, hJx3⟩⟩
      · have d1 : decide ((k : Int) < y) = false := decide_eq_false hky
        have HE := Lib.hid (HSU.out.trans (if_neg hky))
        gi_wp2
        refine ⟨fun _ h => (by cases h), ?_⟩
        gi_wp2
        go_roundw
        case rel => exact ⟨k + 1, by omega, by simp, ho, by rw [HE.out]; exact hJs⟩
        case measure => simp [intOf]; omega
    · obtain rfl : k = xs.length := by omega
      gi_wp2
      go_end0
      exact ⟨⟨_, rfl⟩, .inl ⟨_, rfl, hJs⟩⟩

end Go.Proofs.Ytgaggpdlpcldeaa
end

section
namespace Go.Proofs.Ytgaggpdlpcldeaa
open Go.ChangeShapes Go.WideShapes Go.ChangeAt Go.RowKit
set_option linter.unusedVariables false

def crossB (f1 t1 f2 t2 : Int) : Bool := decide (f1 < f2 ∧ f2 < t1 ∧ t1 < t2 ∨ f2 < f1 ∧ f1 < t2 ∧ t2 < t1)
set_option maxRecDepth 100000 in
set_option maxHeartbeats 3200000 in
theorem crossesC (f1 t1 f2 t2 : Int) (w : World) :
    Calls Try.prog 51 #[.agg #[.int .i64 f1, .int .i64 t1], .agg #[.int .i64 f2, .int .i64 t2]] w fun e w' => e = .returned (.bool (crossB f1 t1 f2 t2)) ∧ Below w.heap.size w w' := by
  by_cases p1 : f1 < f2
  · have d1 : decide (f1 < f2) = true := decide_eq_true p1
    have r1 : ¬ f2 < f1 := by omega
    have e1 : decide (f2 < f1) = false := decide_eq_false r1
    by_cases p2 : f2 < t1
    · have d2 : decide (f2 < t1) = true := decide_eq_true p2
      by_cases p3 : t1 < t2
      · have d3 : decide (t1 < t2) = true := decide_eq_true p3
        have HR := Lib.hid (show crossB f1 t1 f2 t2 = true from decide_eq_true (.inl ⟨p1, p2, p3⟩))
        go_enter Try.func51, Try.ntmps51
        go_wp2
        go_ret
        exact ⟨ret_bool HR.out.symm, ((Below.refl _ w).alloc (Nat.le_refl _) _).alloc (by simp) _⟩
      · have d3 : decide (t1 < t2) = false := decide_eq_false p3
        have HR := Lib.hid (show crossB f1 t1 f2 t2 = false from decide_eq_false (by omega))
        go_enter Try.func51, Try.ntmps51
        go_wp2
        go_ret
        exact ⟨ret_bool HR.out.symm, ((Below.refl _ w).alloc (Nat.le_refl _) _).alloc (by simp) _⟩
    · have d2 : decide (f2 < t1) = false := decide_eq_false p2
      have HR := Lib.hid (show crossB f1 t1 f2 t2 = false from decide_eq_false (by omega))
      go_enter Try.func51, Try.ntmps51
      go_wp2
      go_ret
      exact ⟨ret_bool HR.out.symm, ((Below.refl _ w).alloc (Nat.le_refl _) _).alloc (by simp) _⟩
  · have d1 : decide (f1 < f2) = false := decide_eq_false p1
    by_cases p2 : f2 < f1
    · have d2 : decide (f2 < f1) = true := decide_eq_true p2
      by_cases p3 : f1 < t2
      · have d3 : decide (f1 < t2) = true := decide_eq_true p3
        by_cases p4 : t2 < t1
        · have d4 : decide (t2 < t1) = true := decide_eq_true p4
          have HR := Lib.hid (show crossB f1 t1 f2 t2 = true from decide_eq_true (.inr ⟨p2, p3, p4⟩))
          go_enter Try.func51, Try.ntmps51
          go_wp2
          go_ret
          exact ⟨ret_bool HR.out.symm, ((Below.refl _ w).alloc (Nat.le_refl _) _).alloc (by simp) _⟩
        · have d4 : decide (t2 < t1) = false := decide_eq_false p4
          have HR := Lib.hid (show crossB f1 t1 f2 t2 = false from decide_eq_false (by omega))
          go_enter Try.func51, Try.ntmps51
          go_wp2
          go_ret
          exact ⟨ret_bool HR.out.symm, ((Below.refl _ w).alloc (Nat.le_refl _) _).alloc (by simp) _⟩
      · have d3 : decide (f1 < t2) = false := decide_eq_false p3
        have HR := Lib.hid (show crossB f1 t1 f2 t2 = false from decide_eq_false (by omega))
        go_enter Try.func51, Try.ntmps51
        go_wp2
        go_ret
        exact ⟨ret_bool HR.out.symm, ((Below.refl _ w).alloc (Nat.le_refl _) _).alloc (by simp) _⟩
    · have d2 : decide (f2 < f1) = false := decide_eq_false p2
      have HR := Lib.hid (show crossB f1 t1 f2 t2 = false from decide_eq_false (by omega))
      go_enter Try.func51, Try.ntmps51
      go_wp2
      go_ret
      exact ⟨ret_bool HR.out.symm, ((Below.refl _ w).alloc (Nat.le_refl _) _).alloc (by simp) _⟩

def contB (f1 t1 f2 t2 : Int) : Bool := decide (f1 < f2 ∧ t2 < t1)
end Go.Proofs.Ytgaggpdlpcldeaa
end
