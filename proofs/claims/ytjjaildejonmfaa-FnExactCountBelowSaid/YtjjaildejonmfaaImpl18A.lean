/- The program's pairs of heights: pairOf, lesser, greater, pathThrough, LowerPath, UpperPath, IsBelow, DistanceBetween (written by tools/mk18a.py). -/
import Derived.Test.YtjjaildejonmfaaFact18
import Derived.BigQuiet
import Derived.BigRegion
import Derived.Deep.RegionHeld3
import Derived.Lib.MinMax
import Derived.Laws.ResultCell
namespace Go.Proofs.Ytjjaildejonmfaa
open Go.ChangeShapes Go.WideShapes Go.ChangeAt Go.RowKit
set_option linter.unusedVariables false

theorem bel_app {w W w' : World} (h : Below w.heap.size w W) (hb : Below W.heap.size W w') : Below w.heap.size w w' := h.trans (hb.mono h.size)
/-- Two slices of heights in a struct, in the memory between two bounds. -/
def Pair (w : World) (lo hi : Nat) (u v : Value) (xs ys : List Int) (n : Nat) : Prop := OwnI w lo hi u xs ∧ OwnI w lo hi v ys ∧ xs.length = n ∧ ys.length = n
theorem Pair.keep {w w' : World} {lo hi B n : Nat} {u v : Value} {xs ys : List Int} (h : Pair w lo hi u v xs ys n) (hb : Below B w w') (hB : hi ≤ B) : Pair w' lo hi u v xs ys n := ⟨h.1.keep hb hB, h.2.1.keep hb hB, h.2.2.1, h.2.2.2⟩
/-- The heights that are chosen so far. -/
def thF (f : Int → Int → Int) (xs ys : List Int) (i : Nat) : Nat → Int := fun q => if q < i then f (xs.getD q 0) (ys.getD q 0) else 0
theorem thF_zero (f : Int → Int → Int) (xs ys : List Int) (q : Nat) : thF f xs ys 0 q = 0 := by unfold thF; rw [if_neg (by omega)]
theorem thF_at (f : Int → Int → Int) (xs ys : List Int) (i : Nat) : thF f xs ys (i + 1) i = f (xs.getD i 0) (ys.getD i 0) := by unfold thF; rw [if_pos (by omega)]
theorem thF_next (f : Int → Int → Int) (xs ys : List Int) (i q : Nat) (h : q ≠ i) : thF f xs ys (i + 1) q = thF f xs ys i q := by
  unfold thF
  by_cases e : q < i
  · rw [if_pos (by omega), if_pos e]
  · rw [if_neg (by omega), if_neg e]
theorem hp_box (w : World) (x y : Value) : (w.alloc (.cells #[x, y] 42)).cell? ⟨w.heap.size, 0, none⟩ = some x ∧ (w.alloc (.cells #[x, y] 42)).cell? ⟨w.heap.size, 1, none⟩ = some y := by
  constructor
  · rw [World.cell?_alloc_at _ _ _ _ rfl]; rfl
  · rw [World.cell?_alloc_at _ _ _ _ rfl]; rfl

/-- A row of ints behind a block is the same when the block's two cells are written. -/
theorem own_set2 {w : World} {hi b : Nat} {x y : Value} {v : Value} {xs : List Int} (h : OwnI w (b + 1) hi v xs) : OwnI ((w.setCell ⟨b, 0, none⟩ x).setCell ⟨b, 1, none⟩ y) b ((w.setCell ⟨b, 0, none⟩ x).setCell ⟨b, 1, none⟩ y).heap.size v xs := by
  obtain ⟨A, c, e, h⟩ := h
  refine ⟨A, c, e, h.elim .inl fun ⟨g, C, h1, h2, h3, h4, h5⟩ => ?_⟩
  have h6 : ((w.setCell ⟨b, 0, none⟩ x).setCell ⟨b, 1, none⟩ y).heap[g]? = some (.cells C 3 (0, 0)) := by
    rw [Below.heap_setCell _ _ _ _ (by show g ≠ b; omega), Below.heap_setCell _ _ _ _ (by show g ≠ b; omega)]; exact h4
  exact .inr ⟨g, C, by omega, (Array.getElem?_eq_some_iff.1 h6).1, h3, h6, h5⟩
/-- The two cells of a box at w's end. -/
def Bx (w W : World) (x y : Value) : Prop := (W.cell? ⟨w.heap.size, 0, none⟩ = some x ∧ W.cell? ⟨w.heap.size, 1, none⟩ = some y) ∧ (W.frozen? ⟨w.heap.size, 0, none⟩ = false ∧ W.frozen? ⟨w.heap.size, 1, none⟩ = false) ∧ Below w.heap.size w W ∧ w.heap.size < W.heap.size
theorem bx_start (w : World) (x y : Value) : Bx w (w.alloc (.cells #[x, y] 42)) x y := by
  refine ⟨hp_box w x y, ?_, (Below.refl _ w).alloc (Nat.le_refl _) _, by simp⟩
  have hg : (w.alloc (.cells #[x, y] 42)).heap[w.heap.size]? = some (.cells #[x, y] 42 (0, 0)) := Array.getElem?_push_size
  constructor
  · unfold World.frozen?; rw [hg]; rfl
  · unfold World.frozen?; rw [hg]; rfl
theorem bx_call {w W w' : World} {x y : Value} (hb : Below W.heap.size W w') (h : Bx w W x y) : Bx w w' x y := by
  obtain ⟨⟨h1, h2⟩, ⟨f1, f2⟩, h3, h4⟩ := h
  have := hb.size
  exact ⟨⟨(hb.cell (p := ⟨w.heap.size, 0, none⟩) h4).trans h1, (hb.cell (p := ⟨w.heap.size, 1, none⟩) h4).trans h2⟩, ⟨(hb.frozen (p := ⟨w.heap.size, 0, none⟩) h4).trans f1, (hb.frozen (p := ⟨w.heap.size, 1, none⟩) h4).trans f2⟩, h3.trans (hb.mono h3.size), by omega⟩

set_option maxRecDepth 100000 in
set_option maxHeartbeats 1600000 in
theorem pairOf_no (a b : ByteArray) (w : World) (ha : a.size ≤ 1099511627776) (hb : b.size ≤ 1099511627776) (hf : fitB a b = false) :
    Calls Try.prog 36 #[.string a, .string b] w fun e w' => e = .returned (.tuple #[.agg #[.slice none 0 0, .slice none 0 0], .bool false]) ∧ Below w.heap.size w w' := by
  have HX0 := Lib.hid (bx_start w (.slice none 0 0) (.slice none 0 0))
  rcases h1 : dyck a with _ | _
  · have H1 := Lib.hid h1
    clear h1 hf
    go_enter Try.func36, Try.ntmps36
    go_wp2_with fail
    (with_reducible refine (isDyckI_no a _ H1.out).mono ?_)
    rintro e w1 ⟨rfl, hb1⟩
    have HX1 := Lib.hid (bx_call hb1 HX0.out)
    obtain ⟨⟨c0, c1⟩, ⟨f0, f1⟩, -, hsz⟩ := HX1.out
    clear hb1
    go_wp2
    (try simp only [Exit.inBlock, Exit.then])
    refine bodyPost_ret (v := .tuple #[.agg #[.slice none 0 0, .slice none 0 0], .bool false]) ?_ rfl ⟨rfl, ?_⟩
    · rw [results_cell_tmp rfl]
      go_simp
    · exact ((HX1.out.2.2.1.setCell (p := ⟨w.heap.size, 0, none⟩) (Nat.le_refl _) _).setCell (p := ⟨w.heap.size, 1, none⟩) (Nat.le_refl _) _)
  · rcases h2 : dyck b with _ | _
    · have H1 := Lib.hid h1
      have H2 := Lib.hid h2
      clear h1 h2 hf
      go_enter Try.func36, Try.ntmps36
      go_wp2_with fail
      (with_reducible refine (isDyckI_yes a _ H1.out).mono ?_)
      rintro e w1 ⟨rfl, hb1⟩
      have HX1 := Lib.hid (bx_call hb1 HX0.out)
      clear hb1
      go_wp2_with fail
      (with_reducible refine (isDyckI_no b _ H2.out).mono ?_)
      rintro e w2 ⟨rfl, hb2⟩
      have HX2 := Lib.hid (bx_call hb2 HX1.out)
      obtain ⟨⟨c0, c1⟩, ⟨f0, f1⟩, -, hsz⟩ := HX2.out
      clear hb2
      go_wp2
      (try simp only [Exit.inBlock, Exit.then])
      refine bodyPost_ret (v := .tuple #[.agg #[.slice none 0 0, .slice none 0 0], .bool false]) ?_ rfl ⟨rfl, ?_⟩
      · rw [results_cell_tmp rfl]
        go_simp
      · exact ((HX2.out.2.2.1.setCell (p := ⟨w.heap.size, 0, none⟩) (Nat.le_refl _) _).setCell (p := ⟨w.heap.size, 1, none⟩) (Nat.le_refl _) _)
    · have hne : a.size ≠ b.size := fun e => by rw [fit_of h1 h2 e] at hf; cases hf
      have hni : ((a.size : Int) != (b.size : Int)) = true := by simp; omega
      have hnd : ((a.size : Int) == (b.size : Int)) = false := by simp; omega
      have H1 := Lib.hid h1
      have H2 := Lib.hid h2
      clear h1 h2 hf hne
      go_enter Try.func36, Try.ntmps36
      go_wp2_with fail
      (with_reducible refine (isDyckI_yes a _ H1.out).mono ?_)
      rintro e w1 ⟨rfl, hb1⟩
      have HX1 := Lib.hid (bx_call hb1 HX0.out)
      clear hb1
      go_wp2_with fail
      (with_reducible refine (isDyckI_yes b _ H2.out).mono ?_)
      rintro e w2 ⟨rfl, hb2⟩
      have HX2 := Lib.hid (bx_call hb2 HX1.out)
      obtain ⟨⟨c0, c1⟩, ⟨f0, f1⟩, -, hsz⟩ := HX2.out
      clear hb2
      go_wp2
      (try simp only [Exit.inBlock, Exit.then])
      refine bodyPost_ret (v := .tuple #[.agg #[.slice none 0 0, .slice none 0 0], .bool false]) ?_ rfl ⟨rfl, ?_⟩
      · rw [results_cell_tmp rfl]
        go_simp
      · exact ((HX2.out.2.2.1.setCell (p := ⟨w.heap.size, 0, none⟩) (Nat.le_refl _) _).setCell (p := ⟨w.heap.size, 1, none⟩) (Nat.le_refl _) _)

set_option maxRecDepth 100000 in
set_option maxHeartbeats 1600000 in
theorem pairOf_yes (a b : ByteArray) (w : World) (ha : a.size ≤ 1099511627776) (hb : b.size ≤ 1099511627776) (hf : fitB a b = true) :
    Calls Try.prog 36 #[.string a, .string b] w fun e w' => ∃ u v, e = .returned (.tuple #[.agg #[u, v], .bool true]) ∧ Pair w' w.heap.size w'.heap.size u v (heightsP a) (heightsP b) (a.size + 1) ∧ Below w.heap.size w w' := by
  have HX0 := Lib.hid (bx_start w (.slice none 0 0) (.slice none 0 0))
  obtain ⟨d1, d2, hs⟩ := fit_yes hf
  have hsi : ((a.size : Int) != (b.size : Int)) = false := by rw [hs]; simp
  have hsd : ((a.size : Int) == (b.size : Int)) = true := by rw [hs]; simp
  have H1 := Lib.hid d1
  have H2 := Lib.hid d2
  have HL1 := Lib.hid (hs_len d1)
  have HL2 := Lib.hid (show (heightsP b).length = a.size + 1 by rw [hs_len d2, hs])
  have HS := Lib.hid hs
  clear d1 d2 hf hs
  go_enter Try.func36, Try.ntmps36
  go_wp2_with fail
  (with_reducible refine (isDyckI_yes a _ H1.out).mono ?_)
  rintro e w1 ⟨rfl, hb1⟩
  have HX1 := Lib.hid (bx_call hb1 HX0.out)
  clear hb1
  go_wp2_with fail
  (with_reducible refine (isDyckI_yes b _ H2.out).mono ?_)
  rintro e w2 ⟨rfl, hb2⟩
  have HX2 := Lib.hid (bx_call hb2 HX1.out)
  clear hb2
  go_wp2_with fail
  (with_reducible refine (heightsOfI a _).mono ?_)
  rintro e w3 ⟨v3, rfl, o3, hb3⟩
  have HX3 := Lib.hid (bx_call hb3 HX2.out)
  have HO3 := Lib.hid (o3.wide (show w.heap.size + 1 ≤ w2.heap.size from HX2.out.2.2.2) (Nat.le_refl _))
  clear hb3 o3
  go_wp2_with fail
  (with_reducible refine (heightsOfI b _).mono ?_)
  rintro e w4 ⟨v4, rfl, o4, hb4⟩
  have HX4 := Lib.hid (bx_call hb4 HX3.out)
  have HO4 := Lib.hid (o4.wide (show w.heap.size + 1 ≤ w3.heap.size from HX3.out.2.2.2) (Nat.le_refl _))
  have HO34 := Lib.hid ((HO3.out.keep hb4 (Nat.le_refl _)).wide (Nat.le_refl _) hb4.size)
  obtain ⟨A3, c3, rfl, -⟩ := id HO3.out
  obtain ⟨A4, c4, rfl, -⟩ := id HO4.out
  obtain ⟨⟨c0, c1⟩, ⟨f0, f1⟩, -, hsz⟩ := HX4.out
  clear hb4 o4
  go_wp2
  (try simp only [Exit.inBlock, Exit.then])
  refine bodyPost_ret (v := .tuple #[.agg #[.slice A3 (heightsP a).length c3, .slice A4 (heightsP b).length c4], .bool true]) ?_ rfl ⟨_, _, rfl, ⟨?_, ?_, HL1.out, HL2.out⟩, ?_⟩
  · rw [results_cell_tmp rfl]
    go_simp
  · exact own_set2 (hi := w4.heap.size) HO34.out
  · exact own_set2 (hi := w4.heap.size) HO4.out
  · exact ((HX4.out.2.2.1.setCell (p := ⟨w.heap.size, 0, none⟩) (Nat.le_refl _) _).setCell (p := ⟨w.heap.size, 1, none⟩) (Nat.le_refl _) _)

set_option maxRecDepth 100000 in
set_option maxHeartbeats 1600000 in
theorem lesser_at (u v : Value) (xs ys : List Int) (lo hi n i : Nat) (w : World) (hp : Pair w lo hi u v xs ys n) (hhi : hi ≤ w.heap.size) (h : i < n) (hn : n ≤ 1048576) :
    Calls Try.prog 38 #[.agg #[u, v], .int .i64 i] w fun e w' => e = .returned (.int .i64 (min (xs.getD i 0) (ys.getD i 0))) ∧ Below w.heap.size w w' := by
  obtain ⟨o1, o2, l1, l2⟩ := hp
  have l1' := l1
  have l2' := l2
  obtain ⟨g1, p1, rfl, -, -, hc1, -⟩ := o1.cell (j := i) (by omega)
  obtain ⟨g2, p2, rfl, -, -, hc2, -⟩ := o2.cell (j := i) (by omega)
  rw [l1, l2]
  clear l1' l2'
  generalize xs.getD i 0 = x at *
  generalize ys.getD i 0 = y at *
  have hii : (i : Int) < (n : Int) := by omega
  obtain ⟨hb0, hb1⟩ := hp_box w (.slice (some ⟨g1, 0, none⟩) n p1) (.slice (some ⟨g2, 0, none⟩) n p2)
  have hg1 : g1 < w.heap.size := (World.block_lt_of_cell? _ _ hc1)
  have hg2 : g2 < w.heap.size := (World.block_lt_of_cell? _ _ hc2)
  have hd1 : (w.alloc (.cells #[.slice (some ⟨g1, 0, none⟩) n p1, .slice (some ⟨g2, 0, none⟩) n p2] 42)).cell? ⟨g1, i, none⟩ = some (.int .i64 x) := (World.cell?_of_block (a := ⟨g1, i, none⟩) (Below.heap_alloc _ _ _ hg1)).trans hc1
  have hd2 : (w.alloc (.cells #[.slice (some ⟨g1, 0, none⟩) n p1, .slice (some ⟨g2, 0, none⟩) n p2] 42)).cell? ⟨g2, i, none⟩ = some (.int .i64 y) := (World.cell?_of_block (a := ⟨g2, i, none⟩) (Below.heap_alloc _ _ _ hg2)).trans hc2
  clear l1 l2 o1 o2 hc1 hc2
  go_enter Try.func38, Try.ntmps38
  go_wp2
  go_quiet (fail)
  go_wp2
  go_ret
  exact ⟨rfl, below_drewN ((Below.refl _ w).alloc (Nat.le_refl _) _) _⟩

set_option maxRecDepth 100000 in
set_option maxHeartbeats 3200000 in
theorem through_lesser (u v : Value) (xs ys : List Int) (lo hi d : Nat) (w : World) (hp : Pair w lo hi u v xs ys (d + 1)) (hhi : hi ≤ w.heap.size) (hn : d ≤ 1048570) :
    Calls Try.prog 37 #[.agg #[u, v], .func (.func 38) #[.agg #[u, v]] #[]] w fun e w' => e = .returned (.tuple #[.string (pohP (hh min xs ys (d + 1))), .bool (pohOk (hh min xs ys (d + 1)))]) ∧ Below w.heap.size w w' := by
  obtain ⟨i0, hi0, hz0, hz1, hz2⟩ := info_parts info3
  obtain ⟨A1, c1, rfl, -⟩ := id hp.1
  obtain ⟨A2, c2, rfl, -⟩ := id hp.2.1
  have l1 := hp.2.2.1
  have l2 := hp.2.2.2
  rw [l1, l2] at hp
  rw [l1, l2]
  have HP := Lib.hid hp
  obtain ⟨hb0, hb1⟩ := hp_box w (.slice A1 (d + 1) c1) (.slice A2 (d + 1) c2)
  have HB0 := Lib.hid ((Below.refl w.heap.size w).alloc (Nat.le_refl _) (.cells #[.slice A1 (d + 1) c1, .slice A2 (d + 1) c2] 42))
  clear hp l1 l2
  go_enter Try.func37, Try.ntmps37
  go_wp2_with (at_make; go_must (refine wpList_make_full _ rfl _ _ 40 rfl (w.heap.size + 1) 3 i0 (.int .i64 0) 1 Try.underlying40 hi0 hz0 hz1 .i64 .i64 ((d : Int) + 1) ((d : Int) + 1) (d + 1) rfl rfl (by omega) (by omega) (by rw [hz2]; omega) (by unfold maxLen; omega) (by simp) ?_); intro w2 hown1 hgrow1)
  have HR := Lib.hid (RowI.made hown1)
  have HB2 := Lib.hid (HB0.out.grown hgrow1 (by simp) (fun k hk => by cases hk))
  have hbk : (w.alloc (.cells #[.slice A1 (d + 1) c1, .slice A2 (d + 1) c2] 42)).heap.size = w.heap.size + 1 := by simp
  rw [hbk] at HR
  clear hown1 hgrow1 hbk hb0 hb1 HB0
  obtain ⟨g, hg⟩ : ∃ g, g = w.heap.size + 1 := ⟨_, rfl⟩
  have hgb : w.heap.size ≤ g := by omega
  rw [← hg] at HR
  rw [← hg]
  clear hg
  go_loopw [14] (fun y wr => ∃ i : Nat, i ≤ d + 1 ∧ y = .int .i64 i ∧ RowI wr g d (thF min xs ys i) ∧ Below w.heap.size w wr ∧ g < wr.heap.size) (fun y _ => d + 1 - (intOf y).toNat)
  case atStart => exact ⟨0, Nat.zero_le _, rfl, HR.out.same (fun q _ => thF_zero _ _ _ q), HB2.out, HR.out.lt⟩
  case round =>
    obtain ⟨i, hi1, rfl, hrow, hb, hgz⟩ := hrel
    have HROW := Lib.hid hrow
    have HB := Lib.hid hb
    clear hrow hb
    by_cases hlt : i < d + 1
    · have hii : (i : Int) < (d : Int) + 1 := by omega
      have HLS := Lib.hid (lesser_at (.slice A1 (d + 1) c1) (.slice A2 (d + 1) c2) xs ys lo hi (d + 1) i wr (HP.out.keep HB.out hhi) (Nat.le_trans hhi HB.out.size) hlt (by omega))
      have HAT := Lib.hid (thF_at min xs ys i)
      generalize min (xs.getD i 0) (ys.getD i 0) = z at *
      go_wp2_with fail
      (with_reducible refine HLS.out.mono ?_)
      rintro e w3 ⟨rfl, hb3⟩
      have HROW3 := Lib.hid (HROW.out.keep (hb3.block g hgz))
      have HB3 := Lib.hid (bel_app HB.out hb3)
      have hgz3 : g < w3.heap.size := Nat.lt_of_lt_of_le hgz hb3.size
      obtain ⟨hc, hf⟩ := HROW3.out.cell (k := i) (by omega)
      clear hb3
      go_wp2
      refine ⟨⟨i + 1, by omega, by simp, HROW3.out.set (f' := thF min xs ys (i + 1)) (by omega) HAT.out (fun q _ hne => thF_next _ _ _ _ _ hne), HB3.out.setCell hgb _, by simpa [World.setCell] using hgz3⟩, by simp [intOf]; omega⟩
    · obtain rfl : i = d + 1 := by omega
      have HO := Lib.hid (fun c => OwnI.of_rowI (lo := w.heap.size) (hi := wr.heap.size) (c := c) (xs := hh min xs ys (d + 1)) HROW.out (hh_len _ _ _ _) (fun j hj => by rw [hh_at _ _ _ _ _ (by omega)]; unfold thF; rw [if_pos (by omega)]) hgb hgz)
      have HQ := Lib.hid (fun c => pathOfHeightsI (.slice (some ⟨g, 0, none⟩) (d + 1) c) (hh min xs ys (d + 1)) _ _ wr (HO.out c) (Nat.le_refl _) (by rw [hh_len]; omega))
      go_wp2_with fail
      (with_reducible refine (HQ.out _).mono ?_)
      rintro e w3 ⟨rfl, hb3⟩
      go_wp2
      go_ret2
      exact ⟨rfl, bel_app HB.out hb3⟩

set_option maxRecDepth 100000 in
set_option maxHeartbeats 1600000 in
theorem LowerPathI (a b : ByteArray) (w : World) (ha : a.size ≤ 1099511627776) (hb : b.size ≤ 1099511627776) :
    Calls Try.prog 13 #[.string a, .string b] w fun e w' => e = .returned (.tuple #[.string (thrP min a b), .bool (thrOk min a b)]) ∧ Below w.heap.size w w' := by
  rcases hf : fitB a b with _ | _
  · have HP := Lib.hid (thr_no (f := min) hf)
    have HF := Lib.hid (pairOf_no a b w ha hb hf)
    clear hf
    go_enter Try.func13, Try.ntmps13
    go_wp2_with fail
    (with_reducible refine HF.out.mono ?_)
    rintro e w1 ⟨rfl, hb1⟩
    have z1 := hb1.size
    go_wp2
    go_ret2
    exact ⟨ret_sb HP.out.1.symm HP.out.2.symm, hb1.alloc z1 _⟩
  · have HP := Lib.hid (thr_yes (f := min) hf)
    have HF := Lib.hid (pairOf_yes a b w ha hb hf)
    have h16 := dyck_size (fit_yes hf).1
    clear hf
    go_enter Try.func13, Try.ntmps13
    go_wp2_with fail
    (with_reducible refine HF.out.mono ?_)
    rintro e w1 ⟨u, v, rfl, hp, hb1⟩
    have z1 := hb1.size
    have HB1 := Lib.hid hb1
    have HPA := Lib.hid hp
    obtain ⟨k0, k1⟩ := hp_box w1 u v
    have HTH := Lib.hid (through_lesser u v (heightsP a) (heightsP b) w.heap.size w1.heap.size a.size (w1.alloc (.cells #[u, v] 42)) (hp.keep ((Below.refl w1.heap.size w1).alloc (Nat.le_refl _) _) (Nat.le_refl _)) (by simp) (by omega))
    have HB2 := Lib.hid (hb1.alloc z1 (.cells #[u, v] 42))
    have z2 := HB2.out.size
    clear hb1 hp
    obtain ⟨A1, c1, rfl, -⟩ := id HPA.out.1
    obtain ⟨A2, c2, rfl, -⟩ := id HPA.out.2.1
    go_wp2_with fail
    (with_reducible refine HTH.out.mono ?_)
    rintro e w3 ⟨rfl, hb3⟩
    go_wp2
    go_ret2
    exact ⟨ret_sb HP.out.1.symm HP.out.2.symm, HB2.out.trans (hb3.mono z2)⟩

set_option maxRecDepth 100000 in
set_option maxHeartbeats 1600000 in
theorem greater_at (u v : Value) (xs ys : List Int) (lo hi n i : Nat) (w : World) (hp : Pair w lo hi u v xs ys n) (hhi : hi ≤ w.heap.size) (h : i < n) (hn : n ≤ 1048576) :
    Calls Try.prog 40 #[.agg #[u, v], .int .i64 i] w fun e w' => e = .returned (.int .i64 (max (xs.getD i 0) (ys.getD i 0))) ∧ Below w.heap.size w w' := by
  obtain ⟨o1, o2, l1, l2⟩ := hp
  have l1' := l1
  have l2' := l2
  obtain ⟨g1, p1, rfl, -, -, hc1, -⟩ := o1.cell (j := i) (by omega)
  obtain ⟨g2, p2, rfl, -, -, hc2, -⟩ := o2.cell (j := i) (by omega)
  rw [l1, l2]
  clear l1' l2'
  generalize xs.getD i 0 = x at *
  generalize ys.getD i 0 = y at *
  have hii : (i : Int) < (n : Int) := by omega
  obtain ⟨hb0, hb1⟩ := hp_box w (.slice (some ⟨g1, 0, none⟩) n p1) (.slice (some ⟨g2, 0, none⟩) n p2)
  have hg1 : g1 < w.heap.size := (World.block_lt_of_cell? _ _ hc1)
  have hg2 : g2 < w.heap.size := (World.block_lt_of_cell? _ _ hc2)
  have hd1 : (w.alloc (.cells #[.slice (some ⟨g1, 0, none⟩) n p1, .slice (some ⟨g2, 0, none⟩) n p2] 42)).cell? ⟨g1, i, none⟩ = some (.int .i64 x) := (World.cell?_of_block (a := ⟨g1, i, none⟩) (Below.heap_alloc _ _ _ hg1)).trans hc1
  have hd2 : (w.alloc (.cells #[.slice (some ⟨g1, 0, none⟩) n p1, .slice (some ⟨g2, 0, none⟩) n p2] 42)).cell? ⟨g2, i, none⟩ = some (.int .i64 y) := (World.cell?_of_block (a := ⟨g2, i, none⟩) (Below.heap_alloc _ _ _ hg2)).trans hc2
  clear l1 l2 o1 o2 hc1 hc2
  go_enter Try.func40, Try.ntmps40
  go_wp2
  go_quiet (fail)
  go_wp2
  go_ret
  exact ⟨rfl, below_drewN ((Below.refl _ w).alloc (Nat.le_refl _) _) _⟩

set_option maxRecDepth 100000 in
set_option maxHeartbeats 3200000 in
theorem through_greater (u v : Value) (xs ys : List Int) (lo hi d : Nat) (w : World) (hp : Pair w lo hi u v xs ys (d + 1)) (hhi : hi ≤ w.heap.size) (hn : d ≤ 1048570) :
    Calls Try.prog 37 #[.agg #[u, v], .func (.func 40) #[.agg #[u, v]] #[]] w fun e w' => e = .returned (.tuple #[.string (pohP (hh max xs ys (d + 1))), .bool (pohOk (hh max xs ys (d + 1)))]) ∧ Below w.heap.size w w' := by
  obtain ⟨i0, hi0, hz0, hz1, hz2⟩ := info_parts info3
  obtain ⟨A1, c1, rfl, -⟩ := id hp.1
  obtain ⟨A2, c2, rfl, -⟩ := id hp.2.1
  have l1 := hp.2.2.1
  have l2 := hp.2.2.2
  rw [l1, l2] at hp
  rw [l1, l2]
  have HP := Lib.hid hp
  obtain ⟨hb0, hb1⟩ := hp_box w (.slice A1 (d + 1) c1) (.slice A2 (d + 1) c2)
  have HB0 := Lib.hid ((Below.refl w.heap.size w).alloc (Nat.le_refl _) (.cells #[.slice A1 (d + 1) c1, .slice A2 (d + 1) c2] 42))
  clear hp l1 l2
  go_enter Try.func37, Try.ntmps37
  go_wp2_with (at_make; go_must (refine wpList_make_full _ rfl _ _ 40 rfl (w.heap.size + 1) 3 i0 (.int .i64 0) 1 Try.underlying40 hi0 hz0 hz1 .i64 .i64 ((d : Int) + 1) ((d : Int) + 1) (d + 1) rfl rfl (by omega) (by omega) (by rw [hz2]; omega) (by unfold maxLen; omega) (by simp) ?_); intro w2 hown1 hgrow1)
  have HR := Lib.hid (RowI.made hown1)
  have HB2 := Lib.hid (HB0.out.grown hgrow1 (by simp) (fun k hk => by cases hk))
  have hbk : (w.alloc (.cells #[.slice A1 (d + 1) c1, .slice A2 (d + 1) c2] 42)).heap.size = w.heap.size + 1 := by simp
  rw [hbk] at HR
  clear hown1 hgrow1 hbk hb0 hb1 HB0
  obtain ⟨g, hg⟩ : ∃ g, g = w.heap.size + 1 := ⟨_, rfl⟩
  have hgb : w.heap.size ≤ g := by omega
  rw [← hg] at HR
  rw [← hg]
  clear hg
  go_loopw [14] (fun y wr => ∃ i : Nat, i ≤ d + 1 ∧ y = .int .i64 i ∧ RowI wr g d (thF max xs ys i) ∧ Below w.heap.size w wr ∧ g < wr.heap.size) (fun y _ => d + 1 - (intOf y).toNat)
  case atStart => exact ⟨0, Nat.zero_le _, rfl, HR.out.same (fun q _ => thF_zero _ _ _ q), HB2.out, HR.out.lt⟩
  case round =>
    obtain ⟨i, hi1, rfl, hrow, hb, hgz⟩ := hrel
    have HROW := Lib.hid hrow
    have HB := Lib.hid hb
    clear hrow hb
    by_cases hlt : i < d + 1
    · have hii : (i : Int) < (d : Int) + 1 := by omega
      have HLS := Lib.hid (greater_at (.slice A1 (d + 1) c1) (.slice A2 (d + 1) c2) xs ys lo hi (d + 1) i wr (HP.out.keep HB.out hhi) (Nat.le_trans hhi HB.out.size) hlt (by omega))
      have HAT := Lib.hid (thF_at max xs ys i)
      generalize max (xs.getD i 0) (ys.getD i 0) = z at *
      go_wp2_with fail
      (with_reducible refine HLS.out.mono ?_)
      rintro e w3 ⟨rfl, hb3⟩
      have HROW3 := Lib.hid (HROW.out.keep (hb3.block g hgz))
      have HB3 := Lib.hid (bel_app HB.out hb3)
      have hgz3 : g < w3.heap.size := Nat.lt_of_lt_of_le hgz hb3.size
      obtain ⟨hc, hf⟩ := HROW3.out.cell (k := i) (by omega)
      clear hb3
      go_wp2
      refine ⟨⟨i + 1, by omega, by simp, HROW3.out.set (f' := thF max xs ys (i + 1)) (by omega) HAT.out (fun q _ hne => thF_next _ _ _ _ _ hne), HB3.out.setCell hgb _, by simpa [World.setCell] using hgz3⟩, by simp [intOf]; omega⟩
    · obtain rfl : i = d + 1 := by omega
      have HO := Lib.hid (fun c => OwnI.of_rowI (lo := w.heap.size) (hi := wr.heap.size) (c := c) (xs := hh max xs ys (d + 1)) HROW.out (hh_len _ _ _ _) (fun j hj => by rw [hh_at _ _ _ _ _ (by omega)]; unfold thF; rw [if_pos (by omega)]) hgb hgz)
      have HQ := Lib.hid (fun c => pathOfHeightsI (.slice (some ⟨g, 0, none⟩) (d + 1) c) (hh max xs ys (d + 1)) _ _ wr (HO.out c) (Nat.le_refl _) (by rw [hh_len]; omega))
      go_wp2_with fail
      (with_reducible refine (HQ.out _).mono ?_)
      rintro e w3 ⟨rfl, hb3⟩
      go_wp2
      go_ret2
      exact ⟨rfl, bel_app HB.out hb3⟩

set_option maxRecDepth 100000 in
set_option maxHeartbeats 1600000 in
theorem UpperPathI (a b : ByteArray) (w : World) (ha : a.size ≤ 1099511627776) (hb : b.size ≤ 1099511627776) :
    Calls Try.prog 15 #[.string a, .string b] w fun e w' => e = .returned (.tuple #[.string (thrP max a b), .bool (thrOk max a b)]) ∧ Below w.heap.size w w' := by
  rcases hf : fitB a b with _ | _
  · have HP := Lib.hid (thr_no (f := max) hf)
    have HF := Lib.hid (pairOf_no a b w ha hb hf)
    clear hf
    go_enter Try.func15, Try.ntmps15
    go_wp2_with fail
    (with_reducible refine HF.out.mono ?_)
    rintro e w1 ⟨rfl, hb1⟩
    have z1 := hb1.size
    go_wp2
    go_ret2
    exact ⟨ret_sb HP.out.1.symm HP.out.2.symm, hb1.alloc z1 _⟩
  · have HP := Lib.hid (thr_yes (f := max) hf)
    have HF := Lib.hid (pairOf_yes a b w ha hb hf)
    have h16 := dyck_size (fit_yes hf).1
    clear hf
    go_enter Try.func15, Try.ntmps15
    go_wp2_with fail
    (with_reducible refine HF.out.mono ?_)
    rintro e w1 ⟨u, v, rfl, hp, hb1⟩
    have z1 := hb1.size
    have HB1 := Lib.hid hb1
    have HPA := Lib.hid hp
    obtain ⟨k0, k1⟩ := hp_box w1 u v
    have HTH := Lib.hid (through_greater u v (heightsP a) (heightsP b) w.heap.size w1.heap.size a.size (w1.alloc (.cells #[u, v] 42)) (hp.keep ((Below.refl w1.heap.size w1).alloc (Nat.le_refl _) _) (Nat.le_refl _)) (by simp) (by omega))
    have HB2 := Lib.hid (hb1.alloc z1 (.cells #[u, v] 42))
    have z2 := HB2.out.size
    clear hb1 hp
    obtain ⟨A1, c1, rfl, -⟩ := id HPA.out.1
    obtain ⟨A2, c2, rfl, -⟩ := id HPA.out.2.1
    go_wp2_with fail
    (with_reducible refine HTH.out.mono ?_)
    rintro e w3 ⟨rfl, hb3⟩
    go_wp2
    go_ret2
    exact ⟨ret_sb HP.out.1.symm HP.out.2.symm, HB2.out.trans (hb3.mono z2)⟩

set_option maxRecDepth 100000 in
set_option maxHeartbeats 800000 in
theorem isBelowI (a b : ByteArray) (w : World) (ha : a.size ≤ 1099511627776) (hb : b.size ≤ 1099511627776) : Calls Try.prog 19 #[.string a, .string b] w fun e w' => e = .returned (.bool (isbP a b)) ∧ Below w.heap.size w w' := by
  have HL := Lib.hid (LowerPathI a b w ha hb)
  rcases hf : fitB a b with _ | _
  · have HP := Lib.hid (isb_no hf)
    obtain ⟨h1, h2⟩ := thr_no (f := min) hf
    rw [h1, h2] at HL
    clear hf h1 h2
    go_enter Try.func19, Try.ntmps19
    go_wp2_with fail
    (with_reducible refine HL.out.mono ?_)
    rintro e w1 ⟨rfl, hb1⟩
    go_wp2
    go_ret
    exact ⟨ret_bool HP.out.symm, hb1⟩
  · have HP := Lib.hid (isb_low hf)
    clear hf
    rcases hk : thrOk min a b with _ | _
    · have HP2 := Lib.hid (show isbP a b = false by rw [HP.out, hk]; rfl)
      rw [hk] at HL
      clear hk HP
      go_enter Try.func19, Try.ntmps19
      go_wp2_with fail
      (with_reducible refine HL.out.mono ?_)
      rintro e w1 ⟨rfl, hb1⟩
      go_wp2
      go_ret
      exact ⟨ret_bool HP2.out.symm, hb1⟩
    · have HP2 := Lib.hid (show isbP a b = ((thrP min a b).toList == a.toList) by
        rw [HP.out, hk, Bool.true_and, Bool.eq_iff_iff, decide_eq_true_eq, beq_iff_eq]
        constructor
        · intro h; rw [h]
        · intro h
          rw [ByteArray.toList_eq, ByteArray.toList_eq] at h
          exact ByteArray.ext (Array.toList_inj.1 h))
      rw [hk] at HL
      clear hk HP
      generalize thrP min a b = r at *
      go_enter Try.func19, Try.ntmps19
      go_wp2_with fail
      (with_reducible refine HL.out.mono ?_)
      rintro e w1 ⟨rfl, hb1⟩
      go_wp2
      go_ret
      exact ⟨ret_bool HP2.out.symm, hb1⟩

/-- The pair's box stands, behind each step of a region. -/
theorem rs_call {w W w' : World} {x y : Value} (hb : Below W.heap.size W w') (h : W.cell? ⟨w.heap.size, 0, none⟩ = some x ∧ W.cell? ⟨w.heap.size, 1, none⟩ = some y ∧ Below w.heap.size w W ∧ w.heap.size < W.heap.size) :
    w'.cell? ⟨w.heap.size, 0, none⟩ = some x ∧ w'.cell? ⟨w.heap.size, 1, none⟩ = some y ∧ Below w.heap.size w w' ∧ w.heap.size < w'.heap.size := by
  obtain ⟨h1, h2, h3, h4⟩ := h
  have := hb.size
  exact ⟨(hb.cell (p := ⟨w.heap.size, 0, none⟩) h4).trans h1, (hb.cell (p := ⟨w.heap.size, 1, none⟩) h4).trans h2, h3.trans (hb.mono h3.size), by omega⟩
theorem rs_drew {w W : World} {x y : Value} (h : W.cell? ⟨w.heap.size, 0, none⟩ = some x ∧ W.cell? ⟨w.heap.size, 1, none⟩ = some y ∧ Below w.heap.size w W ∧ w.heap.size < W.heap.size) :
    W.drew.cell? ⟨w.heap.size, 0, none⟩ = some x ∧ W.drew.cell? ⟨w.heap.size, 1, none⟩ = some y ∧ Below w.heap.size w W.drew ∧ w.heap.size < W.drew.heap.size :=
  ⟨h.1, h.2.1, below_drewN h.2.2.1 1, h.2.2.2⟩

set_option maxRecDepth 100000 in
set_option maxHeartbeats 3200000 in
theorem distanceBetweenI (a b : ByteArray) (w : World) (ha : a.size ≤ 1099511627776) (hb : b.size ≤ 1099511627776) : Calls Try.prog 17 #[.string a, .string b] w fun e w' => e = .returned (.int .i64 (dstP a b)) ∧ Below w.heap.size w w' := by
  rcases hf : fitB a b with _ | _
  · have HP := Lib.hid (dst_no hf)
    have HF := Lib.hid (pairOf_no a b w ha hb hf)
    clear hf
    go_enter Try.func17, Try.ntmps17
    go_wp2_with fail
    (with_reducible refine HF.out.mono ?_)
    rintro e w1 ⟨rfl, hb1⟩
    have z1 := hb1.size
    go_wp2
    go_ret
    exact ⟨ret_int HP.out.symm, hb1.alloc z1 _⟩
  · have HP := Lib.hid (dst_yes hf)
    have HF := Lib.hid (pairOf_yes a b w ha hb hf)
    obtain ⟨d1, d2, hs⟩ := fit_yes hf
    have h16 := dyck_size d1
    have HX := Lib.hid (fun j (h : j < a.size + 1) => hs_fit d1 j h)
    have HY := Lib.hid (fun j (h : j < a.size + 1) => hs_fit d2 j (by omega))
    have HDB := Lib.hid (dsL_bd HX.out HY.out)
    clear hf d1 d2 hs
    obtain ⟨n, hn⟩ : ∃ n, n = a.size + 1 := ⟨_, rfl⟩
    have hn17 : n ≤ 17 := by omega
    rw [← hn] at HP HX HY HDB HF
    clear hn h16
    generalize heightsP a = xs at *
    generalize heightsP b = ys at *
    go_enter Try.func17, Try.ntmps17
    go_wp2_with fail
    (with_reducible refine HF.out.mono ?_)
    rintro e w1 ⟨u, v, rfl, hp, hb1⟩
    have z1 := hb1.size
    have HB1 := Lib.hid hb1
    have HPA := Lib.hid hp
    have HS0 := Lib.hid (show (w1.alloc (.cells #[u, v] 42)).cell? ⟨w1.heap.size, 0, none⟩ = some u ∧ (w1.alloc (.cells #[u, v] 42)).cell? ⟨w1.heap.size, 1, none⟩ = some v ∧ Below w1.heap.size w1 (w1.alloc (.cells #[u, v] 42)) ∧ w1.heap.size < (w1.alloc (.cells #[u, v] 42)).heap.size from
      ⟨(hp_box w1 u v).1, (hp_box w1 u v).2, (Below.refl _ w1).alloc (Nat.le_refl _) _, by simp⟩)
    have HLE := Lib.hid (fun (W : World) (i : Nat) (hi : i < n) (hS : W.cell? ⟨w1.heap.size, 0, none⟩ = some u ∧ W.cell? ⟨w1.heap.size, 1, none⟩ = some v ∧ Below w1.heap.size w1 W ∧ w1.heap.size < W.heap.size) => lesser_at u v xs ys _ _ n i W (HPA.out.keep hS.2.2.1 (Nat.le_refl _)) (Nat.le_of_lt hS.2.2.2) hi (by omega))
    have HGR := Lib.hid (fun (W : World) (i : Nat) (hi : i < n) (hS : W.cell? ⟨w1.heap.size, 0, none⟩ = some u ∧ W.cell? ⟨w1.heap.size, 1, none⟩ = some v ∧ Below w1.heap.size w1 W ∧ w1.heap.size < W.heap.size) => greater_at u v xs ys _ _ n i W (HPA.out.keep hS.2.2.1 (Nat.le_refl _)) (Nat.le_of_lt hS.2.2.2) hi (by omega))
    clear hb1 hp
    have hl1 := HPA.out.2.2.1
    have hl2 := HPA.out.2.2.2
    obtain ⟨A1, c1, rfl, -⟩ := id HPA.out.1
    obtain ⟨A2, c2, rfl, -⟩ := id HPA.out.2.1
    rw [hl1, hl2] at HPA HS0 HLE HGR
    rw [hl1, hl2]
    clear hl1 hl2
    obtain ⟨k0, k1, -, -⟩ := HS0.out
    go_wp2
    go_loopw [7, 20] (fun x y wr => ∃ i : Nat, i ≤ n ∧ y = .int .i64 i ∧ x = .int .i64 (dsL xs ys i) ∧ (wr.cell? ⟨w1.heap.size, 0, none⟩ = some (.slice A1 n c1) ∧ wr.cell? ⟨w1.heap.size, 1, none⟩ = some (.slice A2 n c2) ∧ Below w1.heap.size w1 wr ∧ w1.heap.size < wr.heap.size)) (fun _ y _ => n - (intOf y).toNat)
    case atStart => exact ⟨0, Nat.zero_le _, rfl, rfl, HS0.out⟩
    case round =>
      obtain ⟨i, hi, rfl, rfl, hS⟩ := hrel
      have HS := Lib.hid hS
      obtain ⟨q0, q1, -, -⟩ := hS
      clear k0 k1
      obtain ⟨d0, d1⟩ := HDB.out i hi
      by_cases hlt : i < n
      · have hii : (i : Int) < (n : Int) := by omega
        have HL := Lib.hid (fun W hS => HLE.out W i hlt hS)
        have HG := Lib.hid (fun W hS => HGR.out W i hlt hS)
        have HD := Lib.hid (show dsL xs ys (i + 1) = dsL xs ys i + (max (xs.getD i 0) (ys.getD i 0) - min (xs.getD i 0) (ys.getD i 0)) by rw [dsL]; omega)
        obtain ⟨x0, x1⟩ := HX.out i hlt
        obtain ⟨y0, y1⟩ := HY.out i hlt
        generalize dsL xs ys i = d at *
        obtain ⟨p, hp⟩ : ∃ p, p = max (xs.getD i 0) (ys.getD i 0) := ⟨_, rfl⟩
        obtain ⟨q, hq⟩ : ∃ q, q = min (xs.getD i 0) (ys.getD i 0) := ⟨_, rfl⟩
        have hp8 : 0 ≤ p ∧ p ≤ 8 ∧ 0 ≤ q ∧ q ≤ 8 := by omega
        rw [← hp] at HG HD
        rw [← hq] at HL HD
        clear hp hq x0 x1 y0 y1
        have g1 : IntKind.i64.wrap (p - q) = p - q := IntWalk.i64_in _ (by omega)
        have g2 : IntKind.i64.wrap (d + (p - q)) = d + (p - q) := IntWalk.i64_in _ (by omega)
        go_wp2
        go_region_held3 (fun W => W.cell? ⟨w1.heap.size, 0, none⟩ = some (.slice A1 n c1) ∧ W.cell? ⟨w1.heap.size, 1, none⟩ = some (.slice A2 n c2) ∧ Below w1.heap.size w1 W ∧ w1.heap.size < W.heap.size)
          (first | exact HS.out | exact rs_drew (by first | assumption | exact HS.out) | exact rs_call (by assumption) (by first | assumption | exact HS.out | exact rs_drew HS.out | exact rs_drew (by assumption)))
          (first | ((with_reducible refine (HL.out _ (by first | assumption | exact HS.out | exact rs_drew HS.out | exact rs_drew (by assumption))).mono ?_); rintro e w' ⟨rfl, hb⟩) | ((with_reducible refine (HG.out _ (by first | assumption | exact HS.out | exact rs_drew HS.out | exact rs_drew (by assumption))).mono ?_); rintro e w' ⟨rfl, hb⟩))
        all_goals go_wp2
        all_goals exact ⟨⟨i + 1, by omega, by simp, by rw [HD.out], ‹_ ∧ _ ∧ Below w1.heap.size w1 _ ∧ _›⟩, by simp [intOf]; omega⟩
      · obtain rfl : i = n := by omega
        go_wp2
        go_ret
        exact ⟨ret_int HP.out.symm, HB1.out.trans (HS.out.2.2.1.mono z1)⟩

end Go.Proofs.Ytjjaildejonmfaa
