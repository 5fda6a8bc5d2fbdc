/- The contract of the program's partnersOf: two lists in one row. -/
import Derived.Test.YtknojbcpjjhegaaPlainKb
import Derived.BigQuiet
namespace Go.Proofs.Ytknojbcpjjhegaa
open Go.ChangeShapes Go.WideShapes Go.ChangeAt Go.RowKit
open Go.PlainAid (bt bt_nonneg bt_le get_bt)
set_option linter.unusedVariables false

/-- Block g is a row of m ints that reads f. -/
def TabI (w : World) (g m : Nat) (f : Nat → Int) : Prop := ∃ C : Array Value, w.heap[g]? = some (.cells C 3 (0, 0)) ∧ C.size = m ∧ ∀ j, j < m → C[j]? = some (.int .i64 (f j))
theorem TabI.lt {w : World} {g m : Nat} {f : Nat → Int} (h : TabI w g m f) : g < w.heap.size := by
  obtain ⟨C, h1, -⟩ := h
  exact (Array.getElem?_eq_some_iff.1 h1).1
theorem TabI.cell {w : World} {g m : Nat} {f : Nat → Int} (h : TabI w g m f) {j : Nat} (hj : j < m) : w.cell? ⟨g, j, none⟩ = some (.int .i64 (f j)) ∧ w.frozen? ⟨g, j, none⟩ = false := by
  obtain ⟨C, h1, h2, h3⟩ := h
  refine ⟨?_, by simp [World.frozen?, h1]⟩
  rw [cell_of_row w g j C 3 (0, 0) h1]
  exact h3 j hj
theorem TabI.keep {w w' : World} {g m : Nat} {f : Nat → Int} (h : TabI w g m f) (e : w'.heap[g]? = w.heap[g]?) : TabI w' g m f := by
  obtain ⟨C, h1, h2⟩ := h
  exact ⟨C, e.trans h1, h2⟩
theorem TabI.set {w : World} {g m k : Nat} {f : Nat → Int} (h : TabI w g m f) (hk : k < m) (y : Int) : TabI (w.setCell ⟨g, k, none⟩ (.int .i64 y)) g m (upd f k y) := by
  obtain ⟨C, h1, h2, h3⟩ := h
  refine ⟨C.setIfInBounds k (.int .i64 y), by simp [World.setCell, Array.getElem?_modify, h1], by simpa using h2, fun j hj => ?_⟩
  by_cases e : j = k
  · subst e
    rw [Array.getElem?_setIfInBounds_self_of_lt (by omega), upd_at]
  · rw [Array.getElem?_setIfInBounds_ne (by omega), h3 j hj, upd_ne _ _ e]
theorem TabI.ne_iter {w : World} {k g m : Nat} {f : Nat → Int} {s : ByteArray} {i : Nat} (h : TabI w g m f) (hk : w.heap[k]? = some (.stringIter s i)) : g ≠ k := by
  obtain ⟨C, h1, -⟩ := h
  intro e
  rw [e, hk] at h1
  simp at h1
theorem TabI.iterAt {w : World} {k g m : Nat} {f : Nat → Int} {s : ByteArray} {i j : Nat} (h : TabI w g m f) (hk : w.heap[k]? = some (.stringIter s i)) : TabI (w.iterAt k s j) g m f :=
  h.keep (Lib.iterAt_other _ _ _ _ _ (h.ne_iter hk))
theorem TabI.alloc {w : World} {g m : Nat} {f : Nat → Int} (h : TabI w g m f) (o : Obj) : TabI (w.alloc o) g m f :=
  h.keep (by
    have := h.lt
    rw [show (w.alloc o).heap = w.heap.push o from rfl, Array.getElem?_push, if_neg (by omega)])
theorem TabI.made {w : World} {base m : Nat} (h : w.ownsRow base 3 1 (.slice (some ⟨base, 0, none⟩) m m) m (madeCells (Value.int .i64 0).cells (m * 1)).toList) : TabI w base m fun _ => 0 := by
  rcases h.2 with ⟨h1, _⟩ | ⟨g, cap, cur, hv, hb, hh, hnc, hcm, hcur, htake⟩
  · cases h1
  · simp only [Value.slice.injEq, Option.some.injEq, Addr.mk.injEq] at hv
    obtain ⟨⟨rfl, _, _⟩, _, rfl⟩ := hv
    refine ⟨cur, hh, by simpa using hcur, fun j hj => ?_⟩
    have e : cur.toList[j]? = (cur.toList.take (m * 1))[j]? := by rw [List.getElem?_take, if_pos (by omega)]
    rw [← Array.getElem?_toList, e, htake, show (Value.int IntKind.i64 0).cells = #[Value.int .i64 0] from rfl, toList_madeCells_one]
    simp [hj]
theorem OwnI.of_tab {w : World} {lo hi g m n c : Nat} {f : Nat → Int} {xs : List Int} (h : TabI w g m f) (hl : xs.length = n) (hn : n ≤ m) (hx : ∀ j, j < n → xs.getD j 0 = f j) (h1 : lo ≤ g) (h2 : g < hi) : OwnI w lo hi (.slice (some ⟨g, 0, none⟩) n c) xs := by
  obtain ⟨C, h3, h4, h5⟩ := h
  refine ⟨_, c, by rw [hl], .inr ⟨g, C, h1, h2, rfl, h3, fun j hj => ?_⟩⟩
  rw [h5 j (by omega), hx j (by omega)]

/-- One cell stored. -/
theorem run_store_one (P : Program) (w : World) (g o : Nat) (y old : Value) (hc : w.cell? ⟨g, o, none⟩ = some old) (hf : w.frozen? ⟨g, o, none⟩ = false) (h1 : y.oneCell' = true) :
    (storeCells ⟨g, o, none⟩ [y]).run P w = .ok () (w.setCell ⟨g, o, none⟩ y) := by
  have hadd : (⟨g, o, none⟩ : Addr).add 0 = ⟨g, o, none⟩ := by simp [Addr.add]
  simp only [storeCells, Sem.run_bind, hadd, run_store P w _ y _ h1, hc]
  simp [hf]
/-- One int appended to a slice with room, wherever in its block it begins. -/
theorem run_append_in (P : Program) (w : World) (t ty e : TypeId) (i : TypeInfo) (ht : P.underlying t = some (.slice e)) (hi : P.info? e = some i) (hs : i.size = 1)
    (g o n cap : Nat) (hroom : n + 1 ≤ cap) (a : Addr) (c : Nat) (y old : Value) (hy : w.cell? (a.add 0) = some y) (h1 : y.oneCell' = true) (hc : w.cell? ⟨g, o + n, none⟩ = some old) (hf : w.frozen? ⟨g, o + n, none⟩ = false) :
    (Builtin.append_ #[t, t] ty #[.slice (some ⟨g, o, none⟩) n cap, .slice (some a) 1 c]).run P w = .ok (.slice (some ⟨g, o, none⟩) (n + 1) cap) (w.setCell ⟨g, o + n, none⟩ y) := by
  have hfc := run_firstCells_some (P := P) w 1 1 a 1 c [y] rfl (fun j u hj => by
    match j, hj with
    | 0, hj => simp at hj; subst hj; exact hy)
  have hst := run_store_one P w g (o + n) y old hc hf h1
  simp [Builtin.append_, run_underlying ht, sizeOf, typeInfo, hi, hs, Builtin.lenOf, hroom, hfc, Addr.add_lit, hst]
theorem wpList_append_in {P : Program} {w : World} {ops : Array Oper} {rest : List Oper} {o : Oper} {a : Act} {Q : Exit → Act → World → Prop} (hgd : o.guard = none) (s x : Operand) (t : TypeId)
    (ho : o.op = .call { callee := .builtin .append, args := #[s, x], argTypes := #[t, t] })
    (e : TypeId) (i : TypeInfo) (ht : P.underlying t = some (.slice e)) (hi : P.info? e = some i) (hs : i.size = 1)
    (g q n cap : Nat) (hev : a.eval s = .slice (some ⟨g, q, none⟩) n cap) (hroom : n + 1 ≤ cap) (ad : Addr) (c : Nat) (y old : Value) (hx : a.eval x = .slice (some ad) 1 c) (hy : w.cell? (ad.add 0) = some y) (h1 : y.oneCell' = true)
    (hc : w.cell? ⟨g, q + n, none⟩ = some old) (hf : w.frozen? ⟨g, q + n, none⟩ = false)
    (h : wpList P ops Q rest (a.put o.dst (.slice (some ⟨g, q, none⟩) (n + 1) cap)) (w.setCell ⟨g, q + n, none⟩ y)) : wpList P ops Q (o :: rest) a w :=
  wpList_plain hgd fun _ hK => by
    have hr := run_append_in P w t o.type e i ht hi hs g q n cap hroom ad c y old hy h1 hc hf
    unfold Oper.wp execOp
    simp only [ho, resolve, invoke, builtin, Sem.run_bind, Sem.run_pure, Result.andThen_ok, List.map_toArray, List.map_cons, List.map_nil, hev, hx, hr]
    exact hK _ _ h

/-- The partners of all letters. -/
def partsP (s : ByteArray) : List Int := (List.range s.size).map fun q => partL s q
theorem partsP_len (s : ByteArray) : (partsP s).length = s.size := by simp [partsP]
theorem partsP_at (s : ByteArray) (q : Nat) (h : q < s.size) : (partsP s).getD q 0 = partL s q := by simp [partsP, List.getD, h]

theorem stk_half {s : ByteArray} (hd : dyck s = true) {i : Nat} (hi : i ≤ s.size) : 2 * (stk s i).length ≤ s.size := by
  obtain ⟨h1, -⟩ := stk_ok hd i hi
  obtain ⟨k, hk1, hk2, hk3⟩ := hAt_path hd i hi
  have hz := df_low _ _ hk3
  have : (rest s i).length = s.size - i := by unfold rest; simp
  omega
theorem two_le {s : ByteArray} (hd : dyck s = true) (h0 : 0 < s.size) : 2 ≤ s.size := by
  obtain ⟨k, hk1, hk2, hk3⟩ := hAt_path hd s.size (Nat.le_refl _)
  have hz := df_low _ _ hk3
  rw [rest_end s s.size (Nat.le_refl _)] at hz
  have hz0 : k = 0 := by simpa using hz
  rcases Nat.lt_or_ge 1 s.size with h | h
  · exact h
  · exfalso
    have e : s.size = 1 := by omega
    rw [e, hz0] at hk1
    have h00 := hAt_zero s
    rcases dyck_letter hd 0 h0 with e1 | e1
    · have := hAt_up s 0 h0 e1
      simp only [Nat.zero_add] at this
      omega
    · have := hAt_down s 0 h0 (by omega)
      simp only [Nat.zero_add] at this
      omega

set_option maxRecDepth 100000 in
set_option maxHeartbeats 1600000 in
theorem partnersOfI (s : ByteArray) (w : World) (hd : dyck s = true) (h0 : 0 < s.size) : Calls Try.prog 121 #[.string s] w (AnsI (partsP s) w) := by
  have h16 := dyck_size hd
  have h2 := two_le hd h0
  have HD := Lib.hid hd
  clear hd
  obtain ⟨i0, hi0, hz0, hz1, hz2⟩ := info_parts info3
  go_enter Try.func121, Try.ntmps121
  obtain ⟨M, hM⟩ : ∃ M, M = s.size + s.size / 2 := ⟨_, rfl⟩
  go_wp2_with (at_make; go_must (refine wpList_make_full _ rfl _ _ 24 rfl w.heap.size 3 i0 (.int .i64 0) 1 Try.underlying24 hi0 hz0 hz1 .i64 .i64 ((s.size : Int) + (s.size : Int) / 2) ((s.size : Int) + (s.size : Int) / 2) M rfl rfl (by omega) (by omega) (by rw [hz2]; omega) (by unfold maxLen; omega) (Nat.le_refl _) ?_); intro w2 hown1 hgrow1)
  have HT0 := Lib.hid (TabI.made hown1)
  have HB2 := Lib.hid ((Below.refl w.heap.size w).grown hgrow1 (Nat.le_refl _) (fun k hk => by cases hk))
  have z2 := (hown1.lt w.heap.size rfl).2
  clear hown1 hgrow1
  obtain ⟨g, hg⟩ : ∃ g, g = w.heap.size := ⟨_, rfl⟩
  rw [← hg] at HT0 HB2 z2
  rw [← hg]
  have HG := Lib.hid hg
  clear hg
  have hMi : (s.size : Int) ≤ (M : Int) := by omega
  have hn2 : ¬ s.size < 2 := by omega
  go_quiet (fail)
  have HT1 := Lib.hid (show TabI (w2.drewN nq) g M (fun _ => 0) from HT0.out.keep rfl)
  have HB3 := Lib.hid (below_drewN HB2.out nq)
  have z3 : g < (w2.drewN nq).heap.size := z2
  clear HT0 HB2 z2 hn2
  generalize w2.drewN nq = W2 at *
  obtain ⟨T, hT⟩ : ∃ T, T = s.size / 2 := ⟨_, rfl⟩
  rw [← hT]
  have HTT := Lib.hid (show 2 * T ≤ s.size ∧ s.size ≤ 2 * T + 1 ∧ s.size + T = M by omega)
  clear hM hT
  go_wp2
  go_loopw [6] (fun x wr => ∃ (i : Nat) (f : Nat → Int), i ≤ s.size ∧ x = .slice (some ⟨g, s.size, none⟩) (stk s i).length T ∧ AtS wr W2.heap.size s i ∧ TabI wr g M f ∧ Mem s i f ∧ Below g W2 wr) (fun _ wr => s.size - wr.iterPos W2.heap.size)
  case atStart => exact ⟨0, fun _ => 0, Nat.zero_le _, rfl, World.iter_heap W2 s 0, HT1.out.alloc _, Mem.start s _, (Below.refl _ _).alloc (by omega) _⟩
  case round =>
    obtain ⟨i, f, hi, rfl, hit, htab, hmem, hb⟩ := hrel
    have HIT := Lib.hid hit
    have HTAB := Lib.hid htab
    have HMEM := Lib.hid hmem
    have HB := Lib.hid hb
    clear hit htab hmem hb HT1
    by_cases hlt : i < s.size
    · obtain ⟨W, hW⟩ : ∃ W, W = wr.iterAt W2.heap.size s (i + 1) := ⟨_, rfl⟩
      have HIT1 := Lib.hid (show AtS W W2.heap.size s (i + 1) by rw [hW]; exact HIT.out.move)
      have HTAB1 := Lib.hid (show TabI W g M f by rw [hW]; exact HTAB.out.iterAt HIT.out)
      have HB4 := Lib.hid (show Below g W2 W by rw [hW]; exact Lib.below_iterAt HB.out (by omega) _ _)
      have hl := dyck_letter HD.out i hlt
      have hb := get_bt s i hlt
      rcases hl with e1 | e1
      · have HE := Lib.hid (show bt s i = 117 by omega)
        have hnx := next_letter (P := Try.prog) wr _ s i 117 HIT.out hlt e1 (by omega)
        rw [← hW] at hnx
        obtain ⟨r1, r2⟩ := stk_room HD.out hlt HE.out
        have HM1 := Lib.hid (HMEM.out.up hlt HE.out)
        have HS1 := Lib.hid (show (stk s (i + 1)).length = (stk s i).length + 1 by rw [stk_up HE.out]; simp)
        clear hW e1 hb
        generalize (stk s i).length = L at *
        have hT2 := HTT.out
        have hLM : s.size + L < M := by omega
        have hLT : L + 1 ≤ T := by omega
        clear hT2
        obtain ⟨hc, hf⟩ := (HTAB1.out.alloc (.cells #[.int .i64 i] 3)).cell (j := s.size + L) hLM
        go_wp2_with (refine wpList_append_in rfl (.tmp 33) (.tmp 35) 24 rfl 3 i0 Try.underlying24 hi0 hz1 g s.size L T rfl hLT ⟨W.heap.size, 0, none⟩ 1 (.int .i64 i) _ rfl (cell_one W _ _) rfl hc hf ?_)
        go_roundw
        case rel => exact ⟨i + 1, _, by omega, by rw [HS1.out], iter_setCell (HIT1.out.alloc _) (Nat.ne_of_lt z3), (HTAB1.out.alloc _).set hLM _, HM1.out, (HB4.out.alloc (by have := HB4.out.size; omega) _).setCell (p := ⟨g, s.size + L, none⟩) (Nat.le_refl _) _⟩
        case measure =>
          have e : World.iterPos (World.setCell (World.alloc W (.cells #[.int .i64 i] 3)) ⟨g, s.size + L, none⟩ (.int .i64 i)) W2.heap.size = i + 1 := AtS.pos (s := s) (iter_setCell (HIT1.out.alloc _) (Nat.ne_of_lt z3))
          rw [HIT.out.pos, e]
          omega
      · have HE := Lib.hid (show bt s i ≠ 117 by omega)
        have hnx := next_letter (P := Try.prog) wr _ s i 100 HIT.out hlt e1 (by omega)
        rw [← hW] at hnx
        obtain ⟨l, hl, hll, hp, p1, p2⟩ := partners HD.out hlt HE.out
        have HM1 := Lib.hid (HMEM.out.down hlt HE.out hl hll hp p1 p2)
        have HS1 := Lib.hid (show (stk s (i + 1)).length = l by rw [stk_down HE.out, List.length_dropLast, hll]; omega)
        have hcp := (HMEM.out.1 l hl)
        have hT2 := HTT.out
        have hmm := hT2
        have hroom : l + 1 ≤ T := by have := stk_half HD.out (i := i) (by omega); omega
        rw [hll]
        generalize (stk s i)[l] = p at *
        clear hW e1 hb hl hll p1 p2
        obtain ⟨hc1, hf1⟩ := HTAB1.out.cell (j := s.size + l) (by omega)
        rw [hcp] at hc1
        obtain ⟨hc2, hf2⟩ := HTAB1.out.cell (j := i) (by omega)
        obtain ⟨hc3, hf3⟩ := HTAB1.out.cell (j := p) (by omega)
        have hne : p ≠ i := by omega
        have hpi : (p : Int) < (s.size : Int) := by omega
        have hii : (i : Int) < (s.size : Int) := by omega
        have hlT : (l : Int) ≤ (T : Int) := by omega
        have hwl : wrap64 (l : Int) = (l : Int) := IntWalk.wrap64_in _ (by omega)
        generalize f i = y2 at hc2
        generalize f p = y3 at hc3
        have HMM := Lib.hid hmm
        clear hT2 hmm
        go_wp2
        go_region
        all_goals go_wp2
        all_goals go_roundw
        case rel => exact ⟨i + 1, _, by omega, by rw [HS1.out], iter_setCell (iter_setCell HIT1.out (Nat.ne_of_lt z3)) (Nat.ne_of_lt z3), ((HTAB1.out.set (k := i) (by omega) _).set (k := p) (by omega) _).keep rfl, HM1.out, ((HB4.out.setCell (p := ⟨g, i, none⟩) (Nat.le_refl _) _).setCell (p := ⟨g, p, none⟩) (Nat.le_refl _) _).drew⟩
        case measure =>
          have e : World.iterPos (World.drew (World.setCell (World.setCell W ⟨g, i, none⟩ (.int .i64 p)) ⟨g, p, none⟩ (.int .i64 i))) W2.heap.size = i + 1 := AtS.pos (s := s) (show AtS (World.drew _) _ s (i + 1) from iter_setCell (iter_setCell HIT1.out (Nat.ne_of_lt z3)) (Nat.ne_of_lt z3))
          rw [HIT.out.pos, e]
          omega
    · have hnx := fun ty => Lib.run_next_end_at (P := Try.prog) wr _ s i ty HIT.out hlt
      obtain rfl : i = s.size := by omega
      have HQ := Lib.hid (HMEM.out.stop HD.out)
      have hT2 := HTT.out
      go_wp2
      go_ret
      exact ⟨_, rfl, OwnI.of_tab HTAB.out (partsP_len s) (by omega) (fun j hj => (partsP_at s j hj).trans (HQ.out j hj).symm) (Nat.le_of_eq HG.out.symm) (HTAB.out.lt), by rw [← HG.out]; exact HB3.out.trans HB.out⟩

end Go.Proofs.Ytknojbcpjjhegaa
