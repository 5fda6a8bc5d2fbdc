/- The program's PathOfPlane and MirrorPlane. -/
import Derived.Test.YtlnogepmkbibcaaFact5
import Derived.Test.YtlnogepmkbibcaaImpl5C
import Derived.Test.YtlnogepmkbibcaaImpl5D
import Derived.Test.YtlnogepmkbibcaaImpl2E
import Derived.Test.YtlnogepmkbibcaaRep
import Derived.Lib.BufferWrite
import Derived.Laws.CopyOwn
namespace Go.Proofs.Ytlnogepmkbibcaa
open Go.ChangeShapes Go.WideShapes Go.ChangeAt Go.RowKit
open Go.PlainAid (bt bt_nonneg bt_le get_bt)
set_option linter.unusedVariables false

theorem back_dyck {s : ByteArray} (hd : dyck s = true) : ∀ k, k ≤ s.size → ∀ m, dyckFrom 0 (backL s k ++ m) = dyckFrom (hAt s (s.size - k)).toNat m := by
  intro k
  induction k with
  | zero =>
    intro _ m
    obtain ⟨h, h1, -, h3⟩ := hAt_path hd s.size (Nat.le_refl _)
    have h4 := df_low _ _ h3
    have h6 : (rest s s.size).length = s.size - s.size := by unfold rest; simp
    rw [Nat.sub_zero, show (hAt s s.size).toNat = 0 by omega]
    rfl
  | succ k ih =>
    intro hk m
    have hlt : s.size - 1 - k < s.size := by omega
    have hb := get_bt s (s.size - 1 - k) hlt
    have hf := hAt_fit hd (s.size - (k + 1)) (by omega)
    rw [backL_succ, List.append_assoc, ih (by omega)]
    have e : s.size - k = (s.size - 1 - k) + 1 := by omega
    have e2 : s.size - (k + 1) = s.size - 1 - k := by omega
    rw [e2] at hf ⊢
    rw [e]
    rcases dyck_letter hd (s.size - 1 - k) hlt with h | h
    · rw [if_pos (by omega), hAt_up s _ hlt h, show (hAt s (s.size - 1 - k) + 1).toNat = (hAt s (s.size - 1 - k)).toNat + 1 by omega]
      exact df_down _ _ _ rfl
    · have h2 := hAt_down s _ hlt (by omega)
      have hf2 := (hAt_fit hd (s.size - 1 - k + 1) (by omega)).1
      rw [if_neg (by omega), h2]
      rw [h2] at hf2
      obtain ⟨j, hj⟩ : ∃ j : Nat, hAt s (s.size - 1 - k) = ((j + 1 : Nat) : Int) := ⟨(hAt s (s.size - 1 - k)).toNat - 1, by omega⟩
      rw [hj, show (((j + 1 : Nat) : Int) + -1).toNat = j by omega, Int.toNat_natCast]
      exact df_up _ _ _ rfl
theorem rev_is_dyck {s : ByteArray} (hd : dyck s = true) : dyck (reverseP s) = true := by
  have h16 := dyck_size hd
  have h := back_dyck hd s.size (Nat.le_refl _) []
  rw [List.append_nil, Nat.sub_self, hAt_zero, df_nil] at h
  unfold reverseP
  rw [if_pos hd, dyck_short (by rw [str_len, backL_len]; omega)]
  exact h

/-- Block g is a row of the bytes x. -/
def RowL (w : World) (g : Nat) (x : List UInt8) : Prop := w.heap[g]? = some (Obj.cells (Lib.byteCells x).toArray 5 (0, 0))
theorem RowL.made {w : World} {base m : Nat} (h : w.ownsRow base 5 1 (.slice (some ⟨base, 0, none⟩) m m) m (madeCells (Value.int .u8 0).cells (m * 1)).toList) : RowL w base (List.replicate m 0) := by
  obtain ⟨C, h1, h2, h3⟩ := RowOf.made h
  unfold RowL
  rw [h1]
  congr 2
  apply Array.ext
  · simp [Lib.byteCells, h2]
  · intro i a b
    have := h3 i (by omega)
    rw [Array.getElem?_eq_getElem a] at this
    simp [Lib.byteCells] at this ⊢
    rw [this]
theorem RowL.lt {w : World} {g : Nat} {x : List UInt8} (h : RowL w g x) : g < w.heap.size := (Array.getElem?_eq_some_iff.1 h).1
theorem RowL.keep {w w' : World} {g B : Nat} {x : List UInt8} (h : RowL w g x) (hb : Below B w w') (hB : w.heap.size ≤ B) : RowL w' g x := (hb.block g (Nat.lt_of_lt_of_le h.lt hB)).trans h
theorem RowL.keepD {w W w' : World} {g B : Nat} {x : List UInt8} (h : RowL w g x) (hb : Below B W w') (hB : W.heap.size ≤ B) (e : W.heap = w.heap) : RowL w' g x := RowL.keep (w := W) (by unfold RowL at h ⊢; rw [e]; exact h) hb hB
theorem RowL.conv {w : World} {g : Nat} {x : List UInt8} (h : RowL w g x) : (convert 43 9 (.slice (some ⟨g, 0, none⟩) x.length x.length)).run Try.prog w = .ok (.string ⟨x.toArray⟩) w := by
  have hs : strOfNums (x.map fun b => (b.toNat : Int)) = ⟨x.toArray⟩ := by
    unfold strOfNums
    rw [List.map_map]
    congr 2
    conv => rhs; rw [← List.map_id x]
    apply List.map_congr_left
    intro b _
    show UInt8.ofNat ((b.toNat : Int)).toNat = b
    rw [Int.toNat_natCast]; simp
  rw [← hs]
  refine run_convert_bytes_arg w 43 5 Try.underlying43 Try.underlying5 g 0 x.length x.length _ (by simp) (fun i hi => ?_) 9 Try.underlying9
  rw [Nat.zero_add, cell_of_row w g i _ 5 (0, 0) h]
  simp [Lib.byteCells, List.getD, hi]
/-- A copy of a string into such a row, as a step of a region. -/
theorem stepCopy {w : World} {ops : Array Oper} {o : Oper} {a : Act} {K : Act → World → Prop} {Q : Exit → Act → World → Prop} {E : Prop} (hgd : o.guard = none) (d x : Operand)
    (ho : o.op = .call { callee := .builtin .copy, args := #[d, x], argTypes := #[43, 9] })
    (g off len cap : Nat) (y : List UInt8) (s : ByteArray) (hd : a.eval d = .slice (some ⟨g, off, none⟩) len cap) (hx : a.eval x = .string s) (hg : RowL w g y) (hle : s.size ≤ len) (hfit : off + s.size ≤ y.length) (N : Int) (hN : (s.size : Int) = N)
    (h : ∀ w', w' = w.setRow g (Lib.byteCells (y.take off ++ s.data.toList ++ y.drop (off + s.size))).toArray → RowL w' g (y.take off ++ s.data.toList ++ y.drop (off + s.size)) → K (a.put o.dst (.int .i64 N)) w') :
    if Region.wanted o (yielded ops a.tmps) = true then Oper.wp Try.prog o a w K Q else E := by
  have hw : Region.wanted o (yielded ops a.tmps) = true := by simp [Region.wanted, hgd]
  rw [if_pos hw]
  subst hN
  have hr := Lib.run_copy_row_string (P := Try.prog) w 43 9 o.type 5 g off len cap s (Lib.byteCells y).toArray 5 Try.underlying43 (by kernel_rfl) hg hle (by simp [Lib.byteCells]; exact hfit)
  have e : ((Lib.byteCells y).toArray.toList.take off ++ Lib.byteCells s.data.toList ++ (Lib.byteCells y).toArray.toList.drop (off + s.size)).toArray = (Lib.byteCells (y.take off ++ s.data.toList ++ y.drop (off + s.size))).toArray := by
    simp [Lib.byteCells, List.map_take, List.map_drop]
  rw [e] at hr
  unfold Oper.wp execOp
  simp only [ho, resolve, invoke, builtin, Sem.run_bind, Sem.run_pure, Result.andThen_ok, List.map_toArray, List.map_cons, List.map_nil, hd, hx, hr]
  exact h _ rfl (setRow_heap w g _ _ 5 (0, 0) hg)
theorem run_tailV (w : World) (g len cap : Nat) (h0 : 0 < len) (hc : len ≤ cap) : (Instr.slice 37 (.slice (some ⟨g, 0, none⟩) len cap) (some (.int .i64 1)) none none).run Try.prog w = .ok (.slice (if cap = 1 then some ⟨g, 0, none⟩ else some ⟨g, 1, none⟩) (len - 1) (cap - 1)) w := by
  obtain ⟨i0, hi, -, -, -⟩ := info_parts infoV
  have he : Try.prog.elem 37 = 39 := by kernel_rfl
  have hc : Try.prog.cellsOf 39 = 1 := by kernel_rfl
  have hu : Try.prog.underlying 37 = some (.slice (Try.prog.elem 37)) := by rw [he]; exact Try.underlying37
  rw [run_slice_l w _ _ len cap hu .i64 1 (by omega) (by omega), he, run_sizeOf w hi, hc]
  simp [sliced, Result.andThen, Addr.add]

theorem run_fromB (w : World) (g n len cap : Nat) (hn : n ≤ len) (hc : n < cap) : (Instr.slice 43 (.slice (some ⟨g, 0, none⟩) len cap) (some (.int .i64 (n : Int))) none none).run Try.prog w = .ok (.slice (some ⟨g, n, none⟩) (len - n) (cap - n)) w := by
  obtain ⟨i0, hi, -, -, -⟩ := info_parts infoB
  have he : Try.prog.elem 43 = 5 := by kernel_rfl
  have hcc : Try.prog.cellsOf 5 = 1 := by kernel_rfl
  have hu : Try.prog.underlying 43 = some (.slice (Try.prog.elem 43)) := by rw [he]; exact Try.underlying43
  rw [run_slice_l w _ _ len cap hu .i64 (n : Int) (by omega) (by omega), he, run_sizeOf w hi, hcc]
  have h1 : ¬ cap = n := by omega
  simp [sliced, Result.andThen, Addr.add_lit, h1]
theorem RowV.room {w : World} {base n cap : Nat} {A : Option Addr} {gs : List Nat} (h : RowV w base (.slice A n cap) gs) (h0 : 0 < gs.length) : gs.length ≤ cap := by
  rcases h.2 with ⟨h1, e⟩ | ⟨g, c, cur, h1, hb, hh, hc, -⟩
  · omega
  · simp only [Value.slice.injEq] at h1
    obtain ⟨-, -, rfl⟩ := h1
    exact hc
/-- What stands while the letters are written: the vertices, and the row of pointers to them. -/
structure Stand (w1 : World) (lo gv : Nat) (gs : List Nat) (xs : List Int) (w : World) : Prop where
  vs : VS w lo gs xs
  row : ∃ C : Array Value, w.heap[gv]? = some (Obj.cells C 39 (0, 0)) ∧ ∀ j, j < gs.length → C[j]? = some (pA (gs.getD j 0))
  below : Below w1.heap.size w1 w
theorem Stand.cell {w1 w : World} {lo gv : Nat} {gs : List Nat} {xs : List Int} (h : Stand w1 lo gv gs xs w) (j : Nat) (hj : j < gs.length) : w.cell? ⟨gv, j, none⟩ = some (pA (gs.getD j 0)) := by
  obtain ⟨C, h1, h2⟩ := h.row
  rw [cell_of_row w gv j C _ (0, 0) h1]; exact h2 j hj
theorem Stand.call {w1 w w' : World} {lo gv : Nat} {gs : List Nat} {xs : List Int} (hb : Below w.heap.size w w') (h : Stand w1 lo gv gs xs w) : Stand w1 lo gv gs xs w' := by
  obtain ⟨C, h1, h2⟩ := h.row
  exact ⟨h.vs.keep hb (Nat.le_refl _), ⟨C, (hb.block gv (Array.getElem?_eq_some_iff.1 h1).1).trans h1, h2⟩, h.below.trans (hb.mono h.below.size)⟩
theorem Stand.drew {w1 w : World} {lo gv : Nat} {gs : List Nat} {xs : List Int} (h : Stand w1 lo gv gs xs w) : Stand w1 lo gv gs xs w.drew := h.call (w' := w.drew) (below_drewN (Below.refl _ _) 1)
theorem Stand.set {w1 w : World} {lo gv g : Nat} {gs : List Nat} {xs : List Int} {y : List UInt8} (h : Stand w1 lo gv gs xs w) (hr : RowL w g y) (hg : w1.heap.size ≤ g) (cs : Array Value) : Stand w1 lo gv gs xs (w.setRow g cs) := by
  obtain ⟨C, h1, h2⟩ := h.row
  refine ⟨h.vs.same fun k C e => setRow_other w g k cs (fun e2 => ?_), ⟨C, (setRow_other w g gv cs (fun e2 => ?_)).trans h1, h2⟩, below_setRow h.below hg cs⟩
  · subst e2; unfold RowL at hr; rw [hr] at e; simp at e
  · subst e2; unfold RowL at hr; rw [hr] at h1; simp at h1
theorem st_call {w1 W w' : World} {lo gv gk : Nat} {gs : List Nat} {xs : List Int} {x : Value} (hb : Below W.heap.size W w') (h : W.cell? ⟨gk, 2, none⟩ = some x ∧ Stand w1 lo gv gs xs W) : w'.cell? ⟨gk, 2, none⟩ = some x ∧ Stand w1 lo gv gs xs w' :=
  ⟨(hb.cell (p := ⟨gk, 2, none⟩) (World.block_lt_of_cell? W _ h.1)).trans h.1, h.2.call hb⟩
theorem st_set {w1 W w' : World} {lo gv gk g : Nat} {gs : List Nat} {xs : List Int} {y : List UInt8} {n : Int} {cs : Array Value} (hw : w' = W.setRow g cs) (hr : RowL W g y) (hg : w1.heap.size ≤ g) (h : W.cell? ⟨gk, 2, none⟩ = some (.int .i64 n) ∧ Stand w1 lo gv gs xs W) : w'.cell? ⟨gk, 2, none⟩ = some (.int .i64 n) ∧ Stand w1 lo gv gs xs w' := by
  subst hw
  refine ⟨?_, h.2.set hr hg cs⟩
  rw [cell_setRow_other _ _ _ _ (fun e => ?_)]
  · exact h.1
  · have e' : gk = g := e
    subst e'
    have h1 := h.1
    rw [cell_of_row W gk 2 _ 5 (0, 0) hr] at h1
    simp only [Lib.byteCells, List.getElem?_toArray, List.getElem?_map] at h1
    cases hx : y[2]? with
    | none => rw [hx] at h1; cases h1
    | some b => rw [hx] at h1; simp at h1
theorem repS_size (c : UInt8) (k : Nat) : (repS c k).size = k := by
  show (Lib.repeatL [c] k).toArray.size = k
  rw [List.size_toArray, Lib.repeatL_length]; simp
theorem repS_list (c : UInt8) (k : Nat) : (repS c k).data.toList = List.replicate k c := by
  show (Lib.repeatL [c] k).toArray.toList = _
  have := Lib.repeatL_replicate c 1 k
  rw [show List.replicate 1 c = [c] from rfl, Nat.mul_one] at this
  rw [this]

/-- The letters when k vertices are there. -/
def padL (l : List Int) (n k : Nat) : List UInt8 := wkL l k ++ List.replicate (n - 2 * k) 0
theorem padL_len {l : List Int} (h : LvOk l) (n k : Nat) (hk : k < l.length) (hn : 2 * k ≤ n) : (padL l n k).length = n := by
  unfold padL
  rw [List.length_append, wkL_len h k hk, List.length_replicate]; omega
theorem padL_step {l : List Int} (h : LvOk l) (n k v : Nat) (hk : k + 1 < l.length) (hn : 2 * k + 2 ≤ n) (hv : l.getD (k + 1) 0 = ((v + 1 : Nat) : Int)) (s : ByteArray) (hs : s.data.toList = 117 :: List.replicate (v + 1) 100) (hz : s.size = v + 2) :
    (padL l n k).take (2 * k - v) ++ s.data.toList ++ (padL l n k).drop (2 * k - v + s.size) = padL l n (k + 1) := by
  have hl := wkL_len h k (by omega)
  have st := h.step k hk
  have b := h.bd k (by omega)
  unfold padL
  rw [wkL_step h k v hk hv, hs, hz, List.take_append_of_le_length (by omega), List.drop_append, List.drop_of_length_le (by omega), List.nil_append, hl, List.drop_replicate]
  have e : n - 2 * k - (2 * k - v + (v + 2) - 2 * k) = n - 2 * (k + 1) := by omega
  rw [e]

set_option maxRecDepth 100000 in
set_option maxHeartbeats 3200000 in
theorem pathOfPlaneI (A : Option Addr) (xs : List Int) (cap lo hi : Nat) (w : World) (hv : OwnI w lo hi (.slice A xs.length cap) xs) (hhi : hi ≤ w.heap.size) (hcap : xs.length ≤ cap) :
    Calls Try.prog 19 #[.slice A xs.length cap] w fun e w' => e = .returned (.tuple #[.string (popP xs), .bool (planeB xs)]) ∧ Below w.heap.size w w' := by
  have HM := Lib.hid (isPlaneI A xs cap lo hi w hv hhi hcap)
  have HO := Lib.hid hv
  clear hv
  rcases hp : planeB xs with _ | _
  · have HP := Lib.hid (show popP xs = ⟨#[]⟩ from if_neg (by rw [hp]; simp))
    rw [hp] at HM
    clear hp
    go_enter Try.func19, Try.ntmps19
    go_wp2_with fail
    (with_reducible refine HM.out.mono ?_)
    rintro e w1 ⟨rfl, hb⟩
    go_wp2
    go_ret2
    exact ⟨ret_sb HP.out.symm rfl, hb⟩
  · have HPB := Lib.hid hp
    have h9 := (plane_yes hp).1
    have HLV := Lib.hid (lvOk hp)
    have hll : (levelsP xs).length = xs.length := by unfold levelsP; rw [if_pos hp, lvL_len]
    have HLL := Lib.hid hll
    have HLE := Lib.hid fun j hj => plane_lev hp j hj
    have HIN := Lib.hid (plane_in hp)
    have HP := Lib.hid (pop_eq hp)
    rw [hp] at HM
    obtain ⟨m, hm⟩ : ∃ m, xs.length = m + 1 := ⟨xs.length - 1, by omega⟩
    have HXM := Lib.hid hm
    have hm8 : m ≤ 8 := by omega
    obtain ⟨mm, hmm⟩ : ∃ mm, mm = 2 * m := ⟨_, rfl⟩
    have HMM := Lib.hid hmm
    have hmm16 : mm ≤ 16 := by omega
    have hmul : IntKind.i64.wrap (2 * (xs.length : Int)) = (mm : Int) + 2 := by rw [IntWalk.i64_in _ (by omega)]; omega
    have hsub : IntKind.i64.wrap ((mm : Int) + 2 - 2) = (mm : Int) := by rw [IntWalk.i64_in _ (by omega)]; omega
    have hsub2 : IntKind.i64.wrap (mm : Int) = (mm : Int) := IntWalk.i64_in _ (by omega)
    obtain ⟨i0, hi0, hz0, hz1, hz2⟩ := info_parts infoB
    clear hp hll hm hmm
    go_enter Try.func19, Try.ntmps19
    go_wp2_with fail
    (with_reducible refine HM.out.mono ?_)
    rintro e w1 ⟨rfl, hb⟩
    have HB1 := Lib.hid hb
    have z1 := hb.size
    clear hb
    go_wp2_with (at_make; go_must (refine wpList_make_full _ rfl _ _ 43 rfl w1.heap.size 5 i0 (.int .u8 0) 1 Try.underlying43 hi0 hz0 hz1 .i64 .i64 (mm : Int) (mm : Int) mm rfl rfl rfl rfl (by rw [hz2]; omega) (by unfold maxLen; omega) (Nat.le_refl _) ?_); intro w2 hown1 hgrow1)
    have HROW := Lib.hid (RowL.made hown1)
    have hb2 := HB1.out.grown hgrow1 z1 (fun k hk => by cases hk)
    have z2 := (hown1.lt w1.heap.size rfl).2
    have hb12 : Below w1.heap.size w1 w2 := (Below.refl _ w1).grown hgrow1 (Nat.le_refl _) (fun k hk => by cases hk)
    have HB12 := Lib.hid hb12
    clear hown1 hgrow1
    have HVC := Lib.hid (verticesOf A xs cap lo hi w2 (HO.out.keep hb2 hhi) (by have := hb2.size; omega) hcap)
    clear hb2 hb12
    (with_reducible refine HVC.out.mono ?_)
    rintro e w3 ⟨v, gs, rfl, hr, h1, -, hb3⟩
    obtain ⟨hl3, hvs⟩ := h1 HPB.out
    clear h1
    have hgm : gs.length = m + 1 := by have := HXM.out; omega
    have hB3 := hb3.size
    obtain ⟨gv, cv, rfl, hv1, hv2, hvc⟩ := hr.open_ (by omega)
    have hroom := hr.room (by omega)
    have hrt := fun W => run_tailV W gv gs.length cv (by omega) hroom
    obtain ⟨B, hB⟩ : ∃ B, (if cv = 1 then some (⟨gv, 0, none⟩ : Addr) else some ⟨gv, 1, none⟩) = B := ⟨_, rfl⟩
    have HBC := Lib.hid (show 0 < m → B = some ⟨gv, 1, none⟩ from fun h => by rw [← hB, if_neg (by omega)])
    rw [hB] at hrt
    have hm2 : gs.length - 1 = m := by omega
    rw [hm2] at hrt
    have HST := Lib.hid (show Stand w1 w2.heap.size gv gs xs w3 from ⟨hvs, by
      rcases hr.2 with ⟨-, e⟩ | ⟨g', c', cur, e1, hb', hh, hnc, hcm, hcur, htk⟩
      · omega
      · simp only [Value.slice.injEq, Option.some.injEq, Addr.mk.injEq] at e1
        obtain ⟨⟨rfl, -⟩, -, rfl⟩ := e1
        refine ⟨cur, hh, fun j hj => ?_⟩
        have := hvc j hj
        rwa [cell_of_row w3 gv j cur _ (0, 0) hh] at this, HB12.out.trans (hb3.mono HB12.out.size)⟩)
    have HR3 := Lib.hid (show RowL w3 w1.heap.size (padL (levelsP xs) mm 0) by
      have e : padL (levelsP xs) mm 0 = List.replicate mm 0 := by
        unfold padL wkL; rw [HLV.out.zero]; rfl
      rw [e]; exact HROW.out.keep hb3 (Nat.le_refl _))
    have HG := Lib.hid hgm
    clear hr hvs hvc hb3 hB hm2 hl3
    rw [hgm] at hrt ⊢
    clear hgm hroom
    go_wp2
    go_loopw [5, 21] (fun e y wr => ∃ k e2 : Nat, Hid (e2 = 2 * k) ∧ k ≤ m ∧ y = .int .i64 k ∧ e = .int .i64 (e2 : Int) ∧ RowL wr w1.heap.size (padL (levelsP xs) mm k) ∧ Stand w1 w2.heap.size gv gs xs wr) (fun _ y _ => m - (intOf y).toNat)
    case atStart => exact ⟨0, 0, Lib.hid rfl, Nat.zero_le _, rfl, rfl, HR3.out, HST.out⟩
    case round =>
      obtain ⟨k, e2, HE2, hk, rfl, rfl, hrow, hst⟩ := hrel
      have HRW := Lib.hid hrow
      have HS := Lib.hid hst
      clear hrow hst
      by_cases hlt : k < m
      · have hki : (k : Int) < (m : Int) := by omega
        have hBe := HBC.out (by omega)
        subst hBe
        have hgm := HG.out
        have he2 := HE2.out
        have hmm := HMM.out
        have hx1 := HXM.out
        obtain ⟨a, b⟩ := HIN.out (k + 1) (by omega) (by omega)
        obtain ⟨q, hq⟩ : ∃ q : Nat, xs.getD (k + 1) 0 = q := ⟨(xs.getD (k + 1) 0).toNat, by omega⟩
        have hls := lev_step xs (k + 1) (by omega) a b
        have hlb := lev_bd xs q (fun i h1 h2 => HIN.out i h1 (by omega))
        rw [hq, Int.toNat_natCast] at hls
        obtain ⟨v, hv⟩ : ∃ v : Nat, lev xs q = v := ⟨(lev xs q).toNat, by omega⟩
        have hpc : wr.cell? ⟨gv, 1 + k, none⟩ = some (pA (gs.getD (k + 1) 0)) := by rw [Nat.add_comm 1 k]; exact HS.out.cell (k + 1) (by omega)
        have hc0 := HS.out.vs.c0 (k + 1) (by omega)
        have hc2 := HS.out.vs.c2 (k + 1) (by omega)
        have hd2 := HS.out.vs.c2 q (by omega)
        have hup : pUp gs xs (k + 1) = pA (gs.getD q 0) := by unfold pUp; rw [if_neg (by omega), hq, Int.toNat_natCast]
        rw [hup] at hc0
        rw [hls, hv] at hc2
        rw [hv] at hd2
        have HV1 := Lib.hid (show (levelsP xs).getD (k + 1) 0 = ((v + 1 : Nat) : Int) by rw [HLE.out (k + 1) (by omega), hls, hv]; omega)
        have hvk : v ≤ k := by omega
        have HREP := Lib.hid (repD (v + 1) · (by omega))
        have hv1c : ((v + 1 : Nat) : Int) = (v : Int) + 1 := by omega
        rw [hv1c] at HREP
        have HPS := Lib.hid (padL_step HLV.out mm k v (by have := HLL.out; omega) (by omega) HV1.out (⟨#[117]⟩ ++ repS 100 (v + 1)) (by rw [ByteArray.data_append, Array.toList_append, repS_list]; rfl) (by rw [ByteArray.size_append, repS_size]; show 1 + (v + 1) = v + 2; omega))
        have HPL := Lib.hid (padL_len HLV.out mm k (by have := HLL.out; omega) (by omega))
        have hsz : (⟨#[117]⟩ ++ repS 100 (v + 1) : ByteArray).size = v + 2 := by rw [ByteArray.size_append, repS_size]; show 1 + (v + 1) = v + 2; omega
        have HSZ := Lib.hid hsz
        have hrz := repS_size 100 (v + 1)
        have y1 : ¬ 9223372036854775807 < (⟨#[117]⟩ : ByteArray).size + (repS 100 (v + 1)).size := by rw [hrz]; show ¬ _ < 1 + (v + 1); omega
        have y2 : ¬ 9223372036854775807 < 1 + (repS 100 (v + 1)).size := by rw [hrz]; omega
        have hsb : IntKind.i64.wrap ((e2 : Int) - (v : Int)) = ((2 * k - v : Nat) : Int) := by rw [IntWalk.i64_in _ (by omega)]; omega
        have hfb := fun W => run_fromB W w1.heap.size (2 * k - v) mm mm (by omega) (by omega)
        have hen : IntKind.i64.wrap (((2 * k - v : Nat) : Int) + ((v : Int) + 2)) = (e2 : Int) + 2 := by rw [IntWalk.i64_in _ (by omega)]; omega
        have h0n : (0 : Int) ≤ ((2 * k - v : Nat) : Int) := by omega
        have hnm : ((2 * k - v : Nat) : Int) ≤ (mm : Int) := by omega
        unfold pA at hpc hc0
        generalize gs.getD (k + 1) 0 = gk at *
        generalize gs.getD q 0 = gq at *
        have HN := Lib.hid (show 2 * k - v + (v + 2) ≤ mm ∧ v + 2 ≤ mm - (2 * k - v) by omega)
        clear hup hq hls hlb hv a b hx1 hgm hrz hsz hv1c he2 hmm
        generalize repS 100 (v + 1) = R at *
        generalize 2 * k - v = n at *
        go_wp2
        go_region_held3 (fun w' => w'.cell? ⟨gk, 2, none⟩ = some (.int .i64 ((v : Int) + 1)) ∧ Stand w1 w2.heap.size gv gs xs w')
          (first | exact ⟨hc2, HS.out⟩ | exact ⟨hc2, HS.out.drew⟩ | exact ⟨(‹_ ∧ Stand _ _ _ _ _ _› : _ ∧ _).1, (‹_ ∧ Stand _ _ _ _ _ _› : _ ∧ _).2.drew⟩ | exact st_call (by assumption) (by first | assumption | exact ⟨hc2, HS.out⟩ | exact ⟨hc2, HS.out.drew⟩) | exact st_set HW6.out HRW2.out (Nat.le_refl _) (by first | assumption | exact ⟨(‹_ ∧ Stand _ _ _ _ _ _› : _ ∧ _).1, (‹_ ∧ Stand _ _ _ _ _ _› : _ ∧ _).2.drew⟩))
          (first | (go_at_call 33; (with_reducible refine (HREP.out _).mono ?_); rintro e w' ⟨rfl, hb⟩; have HRW2 := Lib.hid (RowL.keepD HRW.out hb (Nat.le_refl _) rfl)) | (refine stepCopy rfl _ _ (by rfl) w1.heap.size n _ _ _ _ (by rfl) (by rfl) HRW2.out (by rw [HSZ.out]; exact HN.out.2) (by rw [HSZ.out, HPL.out]; exact HN.out.1) ((v : Int) + 2) (by rw [HSZ.out]; omega) ?_; intro w6 hw6 hrow6; have HR6 := Lib.hid hrow6; have HW6 := Lib.hid hw6; clear hrow6 hw6))
        all_goals go_wp2
        all_goals go_roundw
        all_goals first
          | (case rel => exact ⟨k + 1, e2 + 2, Lib.hid (by have := HE2.out; omega), by omega, by simp, by simp, by have h := HR6.out; rw [HPS.out] at h; exact h, (‹_ ∧ Stand _ _ _ _ _ _› : _ ∧ _).2⟩)
          | skip
        all_goals (simp [intOf]; omega)
      · obtain rfl : k = m := by omega
        have hcv := HRW.out.conv
        have hpl := padL_len HLV.out mm k (by have := HLL.out; have := HXM.out; omega) (by have := HMM.out; omega)
        have HPP := Lib.hid (show popP xs = ⟨(padL (levelsP xs) mm k).toArray⟩ by
          rw [HP.out, show xs.length - 1 = k by have := HXM.out; omega]
          unfold padL
          rw [HMM.out, Nat.sub_self]; simp)
        rw [hpl] at hcv
        have HB := Lib.hid HS.out.below
        clear hpl
        go_wp2
        go_ret2
        exact ⟨ret_sb HPP.out.symm rfl, HB1.out.trans (HB.out.mono z1)⟩

set_option maxRecDepth 100000 in
set_option maxHeartbeats 800000 in
theorem mirrorPlaneI (A : Option Addr) (xs : List Int) (cap lo hi : Nat) (w : World) (hv : OwnI w lo hi (.slice A xs.length cap) xs) (hhi : hi ≤ w.heap.size) (hcap : xs.length ≤ cap) :
    Calls Try.prog 27 #[.slice A xs.length cap] w (AnsIP (mirrorP xs) (mirOk xs) w) := by
  have HP := Lib.hid (pathOfPlaneI A xs cap lo hi w hv hhi hcap)
  clear hv
  rcases hp : planeB xs with _ | _
  · have HM1 := Lib.hid (show mirOk xs = false by unfold mirOk; rw [hp]; rfl)
    have HM2 := Lib.hid (show mirrorP xs = [] by unfold mirrorP; rw [HM1.out]; rfl)
    rw [hp] at HP
    clear hp
    go_enter Try.func27, Try.ntmps27
    go_wp2_with fail
    (with_reducible refine HP.out.mono ?_)
    rintro e w1 ⟨rfl, hb⟩
    go_wp2
    go_ret2
    exact ⟨_, ret_ip rfl HM1.out.symm, by rw [HM2.out]; exact ⟨none, 0, rfl, .inl rfl⟩, hb⟩
  · have hd := pop_dyck hp
    have h16 := dyck_size hd
    have HD2 := Lib.hid (rev_is_dyck hd)
    have HM1 := Lib.hid (show mirOk xs = true by unfold mirOk; rw [hp, hd]; rfl)
    have HM2 := Lib.hid (show mirrorP xs = planeOfP (reverseP (popP xs)) by unfold mirrorP; rw [if_pos HM1.out])
    have HR := Lib.hid (reversePathI (popP xs) · (by omega))
    have HPL := Lib.hid (planeOfI (reverseP (popP xs)))
    rw [HD2.out] at HPL
    rw [hp] at HP
    generalize popP xs = p at *
    generalize reverseP p = r at *
    generalize planeOfP r = ys at *
    generalize dyck p = dp at *
    clear hp hd h16
    go_enter Try.func27, Try.ntmps27
    go_wp2_with fail
    (with_reducible refine HP.out.mono ?_)
    rintro e w1 ⟨rfl, hb⟩
    have z1 := hb.size
    go_wp2_with fail
    (with_reducible refine (HR.out _).mono ?_)
    rintro e w2 ⟨rfl, hb2⟩
    have hb3 := hb.trans (hb2.mono z1)
    have z3 := hb3.size
    go_wp2_with fail
    (with_reducible refine (HPL.out _).mono ?_)
    rintro e w4 ⟨v, rfl, ho, hb4⟩
    have HO := Lib.hid ho
    have HB4 := Lib.hid hb4
    clear ho hb4
    go_wp2
    go_ret2
    exact ⟨_, ret_ip rfl HM1.out.symm, by rw [HM2.out]; exact HO.out.wide z3 (Nat.le_refl _), hb3.trans (HB4.out.mono z3)⟩

end Go.Proofs.Ytlnogepmkbibcaa
