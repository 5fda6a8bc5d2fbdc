/- The contract of the program's partnersOf: two lists in one row. -/
import Derived.Test.YtcckpodpgenapaaPlainKb
import Derived.BigQuiet
namespace Go.Proofs.Ytcckpodpgenapaa
open Go.ChangeShapes Go.WideShapes Go.ChangeAt Go.RowKit
open Go.PlainAid (bt bt_nonneg bt_le get_bt)
set_option linter.unusedVariables false

/-- Block g is a row of m ints that reads f. -/
def TabI (w : World) (g m : Nat) (f : Nat → Int) : Prop := ∃ C : Array Value, w.heap[g]? = some (.cells C 3 (0, 0)) ∧ C.size = m ∧ ∀ j, j < m → C[j]? = some (.int .i64 (f j))
theorem TabI.lt {w : World} {g m : Nat} {f : Nat → Int} (h : TabI w g m f) : g < w.heap.size := by
  obtain ⟨C, h1, -⟩ := h
  exact (Array.getElem?_eq_some_iff.1 h1).1
theorem TabI.cell {w : World} {g m : Nat} {f : Nat → Int} (h : TabI w g m f) {j : Nat} (hj : j < m) : w.cell? ⟨g, j, none⟩ = some (.int .i64 (f j)) ∧ w.frozen? ⟨g, j, none⟩ = false := by
  obtain ⟨C, h1, h2, h3⟩ := h
  refine ⟨?_, by simp [World.frozen?, h1]⟩
  rw [cell_of_row w g j C 3 (0, 0) h1]
  exact h3 j hj
theorem TabI.keep {w w' : World} {g m : Nat} {f : Nat → Int} (h : TabI w g m f) (e : w'.heap[g]? = w.heap[g]?) : TabI w' g m f := by
  obtain ⟨C, h1, h2⟩ := h
  exact ⟨C, e.trans h1, h2⟩
theorem TabI.set {w : World} {g m k : Nat} {f : Nat → Int} (h : TabI w g m f) (hk : k < m) (y : Int) : TabI (w.setCell ⟨g, k, none⟩ (.int .i64 y)) g m (upd f k y) := by
  obtain ⟨C, h1, h2, h3⟩ := h
  refine ⟨C.setIfInBounds k (.int .i64 y), by simp [World.setCell, Array.getElem?_modify, h1], by simpa using h2, fun j hj => ?_⟩
  by_cases e : j = k
  · subst e
    rw [Array.getElem?_setIfInBounds_self_of_lt (by omega), upd_at]
  · rw [Array.getElem?_setIfInBounds_ne (by omega), h3 j hj, upd_ne _ _ e]
theorem TabI.ne_iter {w : World} {k g m : Nat} {f : Nat → Int} {s : ByteArray} {i : Nat} (h : TabI w g m f) (hk : w.heap[k]? = some (.stringIter s i)) : g ≠ k := by
  obtain ⟨C, h1, -⟩ := h
  intro e
  rw [e, hk] at h1
  simp at h1
theorem TabI.iterAt {w : World} {k g m : Nat} {f : Nat → Int} {s : ByteArray} {i j : Nat} (h : TabI w g m f) (hk : w.heap[k]? = some (.stringIter s i)) : TabI (w.iterAt k s j) g m f :=
  h.keep (Lib.iterAt_other _ _ _ _ _ (h.ne_iter hk))
theorem TabI.alloc {w : World} {g m : Nat} {f : Nat → Int} (h : TabI w g m f) (o : Obj) : TabI (w.alloc o) g m f :=
  h.keep (by
    have := h.lt
    rw [show (w.alloc o).heap = w.heap.push o from rfl, Array.getElem?_push, if_neg (by omega)])
theorem TabI.made {w : World} {base m : Nat} (h : w.ownsRow base 3 1 (.slice (some ⟨base, 0, none⟩) m m) m (madeCells (Value.int .i64 0).cells (m * 1)).toList) : TabI w base m fun _ => 0 := by
  rcases h.2 with ⟨h1, _⟩ | ⟨g, cap, cur, hv, hb, hh, hnc, hcm, hcur, htake⟩
  · cases h1
  · simp only [Value.slice.injEq, Option.some.injEq, Addr.mk.injEq] at hv
    obtain ⟨⟨rfl, _, _⟩, _, rfl⟩ := hv
    refine ⟨cur, hh, by simpa using hcur, fun j hj => ?_⟩
    have e : cur.toList[j]? = (cur.toList.take (m * 1))[j]? := by rw [List.getElem?_take, if_pos (by omega)]
    rw [← Array.getElem?_toList, e, htake, show (Value.int IntKind.i64 0).cells = #[Value.int .i64 0] from rfl, toList_madeCells_one]
    simp [hj]
theorem OwnI.of_tab {w : World} {lo hi g m n c : Nat} {f : Nat → Int} {xs : List Int} (h : TabI w g m f) (hl : xs.length = n) (hn : n ≤ m) (hx : ∀ j, j < n → xs.getD j 0 = f j) (h1 : lo ≤ g) (h2 : g < hi) : OwnI w lo hi (.slice (some ⟨g, 0, none⟩) n c) xs := by
  obtain ⟨C, h3, h4, h5⟩ := h
  refine ⟨_, c, by rw [hl], .inr ⟨g, C, h1, h2, rfl, h3, fun j hj => ?_⟩⟩
  rw [h5 j (by omega), hx j (by omega)]

/-- One cell stored. -/
theorem run_store_one (P : Program) (w : World) (g o : Nat) (y old : Value) (hc : w.cell? ⟨g, o, none⟩ = some old) (hf : w.frozen? ⟨g, o, none⟩ = false) (h1 : y.oneCell' = true) :
    (storeCells ⟨g, o, none⟩ [y]).run P w = .ok () (w.setCell ⟨g, o, none⟩ y) := by
  have hadd : (⟨g, o, none⟩ : Addr).add 0 = ⟨g, o, none⟩ := by simp [Addr.add]
  simp only [storeCells, Sem.run_bind, hadd, run_store P w _ y _ h1, hc]
  simp [hf]
/-- One int appended to a slice with room, wherever in its block it begins. -/
theorem run_append_in (P : Program) (w : World) (t ty e : TypeId) (i : TypeInfo) (ht : P.underlying t = some (.slice e)) (hi : P.info? e = some i) (hs : i.size = 1)
    (g o n cap : Nat) (hroom : n + 1 ≤ cap) (a : Addr) (c : Nat) (y old : Value) (hy : w.cell? (a.add 0) = some y) (h1 : y.oneCell' = true) (hc : w.cell? ⟨g, o + n, none⟩ = some old) (hf : w.frozen? ⟨g, o + n, none⟩ = false) :
    (Builtin.append_ #[t, t] ty #[.slice (some ⟨g, o, none⟩) n cap, .slice (some a) 1 c]).run P w = .ok (.slice (some ⟨g, o, none⟩) (n + 1) cap) (w.setCell ⟨g, o + n, none⟩ y) := by
  have hfc := run_firstCells_some (P := P) w 1 1 a 1 c [y] rfl (fun j u hj => by
    match j, hj with
    | 0, hj => simp at hj; subst hj; exact hy)
  have hst := run_store_one P w g (o + n) y old hc hf h1
  simp [Builtin.append_, run_underlying ht, sizeOf, typeInfo, hi, hs, Builtin.lenOf, hroom, hfc, Addr.add_lit, hst]
theorem wpList_append_in {P : Program} {w : World} {ops : Array Oper} {rest : List Oper} {o : Oper} {a : Act} {Q : Exit → Act → World → Prop} (hgd : o.guard = none) (s x : Operand) (t : TypeId)
    (ho : o.op = .call { callee := .builtin .append, args := #[s, x], argTypes := #[t, t] })
    (e : TypeId) (i : TypeInfo) (ht : P.underlying t = some (.slice e)) (hi : P.info? e = some i) (hs : i.size = 1)
    (g q n cap : Nat) (hev : a.eval s = .slice (some ⟨g, q, none⟩) n cap) (hroom : n + 1 ≤ cap) (ad : Addr) (c : Nat) (y old : Value) (hx : a.eval x = .slice (some ad) 1 c) (hy : w.cell? (ad.add 0) = some y) (h1 : y.oneCell' = true)
    (hc : w.cell? ⟨g, q + n, none⟩ = some old) (hf : w.frozen? ⟨g, q + n, none⟩ = false)
    (h : wpList P ops Q rest (a.put o.dst (.slice (some ⟨g, q, none⟩) (n + 1) cap)) (w.setCell ⟨g, q + n, none⟩ y)) : wpList P ops Q (o :: rest) a w :=
  wpList_plain hgd fun _ hK => by
    have hr := run_append_in P w t o.type e i ht hi hs g q n cap hroom ad c y old hy h1 hc hf
    unfold Oper.wp execOp
    simp only [ho, resolve, invoke, builtin, Sem.run_bind, Sem.run_pure, Result.andThen_ok, List.map_toArray, List.map_cons, List.map_nil, hev, hx, hr]
    exact hK _ _ h

/-- The partners of all letters. -/
def partsP (s : ByteArray) : List Int := (List.range s.size).map fun q => partL s q
theorem partsP_len (s : ByteArray) : (partsP s).length = s.size := by simp [partsP]
theorem partsP_at (s : ByteArray) (q : Nat) (h : q < s.size) : (partsP s).getD q 0 = partL s q := by simp [partsP, List.getD, h]

theorem stk_half {s : ByteArray} (hd : dyck s = true) {i : Nat} (hi : i ≤ s.size) : 2 * (stk s i).length ≤ s.size := by
  obtain ⟨h1, -⟩ := stk_ok hd i hi
  obtain ⟨k, hk1, hk2, hk3⟩ := hAt_path hd i hi
  have hz := df_low _ _ hk3
  have : (rest s i).length = s.size - i := by unfold rest; simp
  omega
theorem two_le {s : ByteArray} (hd : dyck s = true) (h0 : 0 < s.size) : 2 ≤ s.size := by
  obtain ⟨k, hk1, hk2, hk3⟩ := hAt_path hd s.size (Nat.le_refl _)
  have hz := df_low _ _ hk3
  rw [rest_end s s.size (Nat.le_refl _)] at hz
  have hz0 : k = 0 := by simpa using hz
  rcases Nat.lt_or_ge 1 s.size with h | h
  · exact h
  · exfalso
    have e : s.size = 1 := by omega
    rw [e, hz0] at hk1
    have h00 := hAt_zero s
    rcases dyck_letter hd 0 h0 with e1 | e1
    · have := hAt_up s 0 h0 e1
      simp only [Nat.zero_add] at this
      omega
    · have := hAt_down s 0 h0 (by omega)
      simp only [Nat.zero_add] at this
      omega

end Go.Proofs.Ytcckpodpgenapaa
