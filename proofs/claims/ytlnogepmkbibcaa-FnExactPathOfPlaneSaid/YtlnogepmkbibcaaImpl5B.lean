/- The program's verticesOf: the vertices of a plane tree in their order. -/
import Derived.Test.YtlnogepmkbibcaaImpl5A
namespace Go.Proofs.Ytlnogepmkbibcaa
open Go.ChangeShapes Go.WideShapes Go.ChangeAt Go.RowKit
open Go.PlainAid (bt bt_nonneg bt_le get_bt)
set_option linter.unusedVariables false

theorem infoV : (Try.prog.info? 39).map (fun i => (i.zero, i.size, i.bytes)) = some (some (.pointer none), 1, 8) := by kernel_rfl
/-- A row of pointers that the call owns. -/
def RowV (w : World) (base : Nat) (v : Value) (gs : List Nat) : Prop := w.ownsRow base 39 1 v gs.length (gs.map pA)
theorem RowV.keep {w w' : World} {base B : Nat} {v : Value} {gs : List Nat} (h : RowV w base v gs) (hb : Below B w w') (hB : w.heap.size ≤ B) : RowV w' base v gs := by
  obtain ⟨h1, h2⟩ := h
  refine ⟨h1, h2.elim .inl fun ⟨g, cap, cur, e, hg, hh, r⟩ => .inr ⟨g, cap, cur, e, hg, ?_, r⟩⟩
  have : g < w.heap.size := (Array.getElem?_eq_some_iff.1 hh).1
  exact (hb.block g (by omega)).trans hh
theorem RowV.open_ {w : World} {base : Nat} {v : Value} {gs : List Nat} (h : RowV w base v gs) (h0 : 0 < gs.length) :
    ∃ g cap, v = .slice (some ⟨g, 0, none⟩) gs.length cap ∧ base ≤ g ∧ g < w.heap.size ∧ ∀ j, j < gs.length → w.cell? ⟨g, j, none⟩ = some (pA (gs.getD j 0)) := by
  have hl := h.lt
  rcases h.2 with ⟨rfl, e⟩ | ⟨g, cap, cur, rfl, hb, hh, -⟩
  · omega
  · refine ⟨g, cap, rfl, hb, (hl g rfl).2, fun j hj => ?_⟩
    have := World.ownsRow.cells h (g := g) rfl j (pA (gs.getD j 0)) (by rw [List.getElem?_map, List.getD_eq_getElem?_getD, List.getElem?_eq_getElem hj]; rfl)
    rw [Addr.add_lit] at this
    simpa using this
theorem wpAppV {w : World} {ops : Array Oper} {rest : List Oper} {o : Oper} {a : Act} {Q : Exit → Act → World → Prop} (hgd : o.guard = none) (s x : Operand)
    (ho : o.op = .call { callee := .builtin .append, args := #[s, x], argTypes := #[37, 37] })
    (base : Nat) (v : Value) (gs : List Nat) (hs : a.eval s = v) (hown : RowV w base v gs)
    (b c y : Nat) (hx : a.eval x = .slice (some ⟨b, 0, none⟩) 1 c) (hcell : w.cell? ⟨b, 0, none⟩ = some (pA y))
    (hn : gs.length ≤ 1099511627776) (hbase : base ≤ w.heap.size)
    (h : ∀ v' w', RowV w' base v' (gs ++ [y]) → w.grownBy w' v.ownBlock → wpList Try.prog ops Q rest (a.put o.dst v') w') : wpList Try.prog ops Q (o :: rest) a w := by
  obtain ⟨i0, hi, hz0, hz1, hz2⟩ := info_parts infoV
  refine wpList_append_own _ hgd s x 37 ho base 39 i0 (.pointer none) 1 8 Try.underlying37 hi hz0 hz1 hz2 rfl (by decide) v gs.length _ hs hown ⟨b, 0, none⟩ 1 c [pA y] hx rfl ?_ ?_ (by unfold maxLen; omega) (by omega) hbase ?_
  · intro j u hj
    match j, hj with
    | 0, hj => simp at hj; subst hj; simpa [Addr.add] using hcell
  · intro u hu; simp at hu; subst hu; rfl
  · intro v' w' h1 h2 _
    exact h v' w' (by unfold RowV; simpa using h1) h2

theorem RowV.ne {w : World} {base g : Nat} {v : Value} {gs : List Nat} {C : Array Value} (h : RowV w base v gs) (e : w.heap[g]? = some (Obj.cells C 41 (0, 0))) : some g ≠ v.ownBlock := by
  intro he
  rcases h.2 with ⟨rfl, -⟩ | ⟨r, cap, cur, rfl, hb, hh, -⟩
  · cases he
  · simp only [Value.ownBlock, Option.some.injEq] at he
    subst he
    rw [hh] at e
    simp at e
theorem RowV.one (W : World) (g base : Nat) (hb : base ≤ W.heap.size) : RowV (W.alloc (.cells #[pA g] 39)) base (.slice (some ⟨W.heap.size, 0, none⟩) 1 1) [g] :=
  ⟨rfl, .inr ⟨W.heap.size, 1, _, rfl, hb, heap_alloc_new W _, Nat.le_refl _, by decide, rfl, rfl⟩⟩
theorem grow_old {wr w' : World} {O1 O2 : Obj} {row : Option Nat} (hg : ((wr.alloc O1).alloc O2).grownBy w' row) {g : Nat} (h : g < wr.heap.size) (hne : some g ≠ row) : w'.heap[g]? = wr.heap[g]? := by
  rw [hg.block g (by simp; omega) hne, show ((wr.alloc O1).alloc O2).heap = (wr.heap.push O1).push O2 from rfl, Array.getElem?_push, if_neg (by simp; omega), Array.getElem?_push, if_neg (by omega)]
theorem grow_new {wr w' : World} {O1 O2 : Obj} {row : Option Nat} (hg : ((wr.alloc O1).alloc O2).grownBy w' row) (hne : some wr.heap.size ≠ row) : w'.heap[wr.heap.size]? = some O1 := by
  rw [hg.block _ (by simp; omega) hne, show ((wr.alloc O1).alloc O2).heap = (wr.heap.push O1).push O2 from rfl, Array.getElem?_push, if_neg (by simp), Array.getElem?_push, if_pos rfl]
theorem VS.one {w : World} {xs : List Int} (hx : xs.getD 0 0 = -1) (hl : 1 ≤ xs.length) : VS (w.alloc (.cells #[.pointer none, .int .i64 0, .int .i64 0] 41)) w.heap.size [w.heap.size] xs := by
  have one : ∀ j, j < ([w.heap.size] : List Nat).length → j = 0 := fun j hj => by simpa using hj
  refine ⟨⟨Nat.le_refl _, hl⟩, hx, fun j h0 hj => ?_, fun i j hij hj => ?_, fun j hj => ?_, fun j hj => ?_⟩
  · have := one j hj; omega
  · have := one j hj; omega
  · obtain rfl := one j hj; exact Nat.le_refl _
  · obtain rfl := one j hj; exact heap_alloc_new w _
theorem VS.more {w w' : World} {lo : Nat} {gs : List Nat} {xs : List Int} (h : VS w lo gs xs) (hk : VS w' lo gs xs) (hn : gs.length < xs.length) (y : Nat) (hy : xs.getD gs.length 0 = (y : Int)) (hyl : y < gs.length)
    (g : Nat) (hg : w.heap.size ≤ g) (hlo : lo ≤ w.heap.size)
    (hblk : w'.heap[g]? = some (.cells #[pA (gs.getD y 0), .int .i64 (gs.length : Int), .int .i64 (lev xs y + 1)] 41 (0, 0))) : VS w' lo (gs ++ [g]) xs := by
  have hlen : (gs ++ [g]).length = gs.length + 1 := by simp
  have old : ∀ j, j < gs.length → (gs ++ [g]).getD j 0 = gs.getD j 0 := fun j hj => ga_old _ _ _ _ hj
  have new : (gs ++ [g]).getD gs.length 0 = g := ga_new _ _ _ _ rfl
  have pold : ∀ j, j < gs.length → pUp (gs ++ [g]) xs j = pUp gs xs j := fun j hj => by
    unfold pUp
    split
    · rfl
    · rename_i h0
      have := h.inn j (by omega) hj
      rw [old _ (by omega)]
  have pnew : pUp (gs ++ [g]) xs gs.length = pA (gs.getD y 0) := by
    unfold pUp
    rw [if_neg (by omega), hy, Int.toNat_natCast, old y hyl]
  have lnew : lev xs gs.length = lev xs y + 1 := by rw [lev_step xs gs.length (by omega) (by omega) (by omega), hy, Int.toNat_natCast]
  refine ⟨⟨by omega, by omega⟩, h.root, fun j h0 hj => ?_, fun i j hij hj => ?_, fun j hj => ?_, fun j hj => ?_⟩
  all_goals rw [hlen] at hj
  · by_cases e : j < gs.length
    · exact h.inn j h0 e
    · obtain rfl : j = gs.length := by omega
      omega
  · by_cases e : j < gs.length
    · rw [old j e, old i (by omega)]; exact h.up i j hij e
    · obtain rfl : j = gs.length := by omega
      rw [new, old i hij]; have := (h.at_ i hij).2; omega
  · by_cases e : j < gs.length
    · rw [old j e]; exact h.lo_ j e
    · obtain rfl : j = gs.length := by omega
      rw [new]; omega
  · by_cases e : j < gs.length
    · rw [old j e, pold j e]; exact hk.blk j e
    · obtain rfl : j = gs.length := by omega
      rw [new, pnew, lnew]; exact hblk
/-- What verticesOf answers. -/
def VAns (xs : List Int) (w : World) (e : Ending) (w' : World) : Prop :=
  ∃ v gs, e = .returned v ∧ RowV w' w.heap.size v gs ∧ (planeB xs = true → gs.length = xs.length ∧ VS w' w.heap.size gs xs) ∧ (planeB xs = false → gs = [] ∧ v = .slice none 0 0) ∧ Below w.heap.size w w'
theorem VAns.none {xs : List Int} {w w' : World} (h : planeB xs = false) (hb : Below w.heap.size w w') : VAns xs w (.returned (.slice none 0 0)) w' :=
  ⟨_, [], rfl, World.ownsRow_nil _ _ _ _, fun h' => by (rw [h] at h'; cases h'), fun _ => ⟨rfl, rfl⟩, hb⟩
theorem run_tail (w : World) (g len cap : Nat) (h0 : 0 < len) (hc : len ≤ cap) : (Instr.slice 22 (.slice (some ⟨g, 0, none⟩) len cap) (some (.int .i64 1)) none none).run Try.prog w = .ok (.slice (if cap = 1 then some ⟨g, 0, none⟩ else some ⟨g, 1, none⟩) (len - 1) (cap - 1)) w := by
  obtain ⟨i0, hi, -, -, -⟩ := info_parts info3
  have he : Try.prog.elem 22 = 3 := by kernel_rfl
  have hc : Try.prog.cellsOf 3 = 1 := by kernel_rfl
  have hu : Try.prog.underlying 22 = some (.slice (Try.prog.elem 22)) := by rw [he]; exact Try.underlying22
  rw [run_slice_l w _ _ len cap hu .i64 1 (by omega) (by omega), he, run_sizeOf w hi, hc]
  simp [sliced, Result.andThen, Addr.add]
theorem plane_first {xs : List Int} (h : planeB xs = true) : xs.getD 0 0 = -1 := by
  obtain ⟨⟨h1, -⟩, h2⟩ := plane_yes h
  have := h2 0 (by omega)
  unfold plOk at this
  rwa [if_pos rfl] at this
theorem plOk_up {xs : List Int} {n : Nat} (h0 : xs.getD 0 0 = -1) (hin : ∀ i, 0 < i → i < n + 1 → 0 ≤ xs.getD i 0 ∧ xs.getD i 0 < (i : Int)) : plOk xs (n + 1) ↔ upHas xs (xs.getD (n + 1) 0) (n + 1) n = true := by
  have hf := up_fuel xs (xs.getD (n + 1) 0) n (n + 1 + 1) (n + 1) (fun i a b => hin i a (by omega)) (by omega) (by omega) (by omega)
  unfold plOk
  rw [if_neg (by omega), show (((n + 1 : Nat) : Int) - 1) = (n : Int) by omega, hf]
  constructor
  · exact fun h => h.2.2
  · intro h
    have := up_in xs _ n (fun i a b => hin i a (by omega)) (by omega) h
    exact ⟨this.1, this.2, h⟩

set_option maxRecDepth 100000 in
set_option maxHeartbeats 3200000 in
theorem verticesOf (A : Option Addr) (xs : List Int) (cap lo hi : Nat) (w : World) (hv : OwnI w lo hi (.slice A xs.length cap) xs) (hhi : hi ≤ w.heap.size) (hcap : xs.length ≤ cap) :
    Calls Try.prog 29 #[.slice A xs.length cap] w (VAns xs w) := by
  by_cases h0 : xs.length = 0
  · have HN := Lib.hid (show planeB xs = false from decide_eq_false fun h => by omega)
    have hb : ((xs.length : Int) == 0) = true := by simp [h0]
    clear hv h0
    go_enter Try.func29, Try.ntmps29
    go_wp2
    go_ret
    exact VAns.none HN.out (Below.refl _ _)
  have hb : ((xs.length : Int) == 0) = false := beq_eq_false_iff_ne.2 (by omega)
  by_cases h9 : 9 < xs.length
  · have HN := Lib.hid (show planeB xs = false from decide_eq_false fun h => by omega)
    have h9i : (9 : Int) < (xs.length : Int) := by omega
    clear hv h0 h9
    go_enter Try.func29, Try.ntmps29
    go_wp2
    go_ret
    exact VAns.none HN.out (Below.refl _ _)
  have h9i : ¬ (9 : Int) < (xs.length : Int) := by omega
  obtain ⟨g, c, e', hg1, hg2, hc0, -⟩ := hv.cell (j := 0) (by omega)
  simp only [Value.slice.injEq] at e'
  obtain ⟨rfl, -, rfl⟩ := e'
  have hli : (0 : Int) < (xs.length : Int) := by omega
  by_cases hm : xs.getD 0 0 = -1
  · have HO := Lib.hid hv
    have HM := Lib.hid hm
    have HRT := Lib.hid fun W => run_tail W g xs.length cap (by omega) hcap
    obtain ⟨B, hB⟩ : ∃ B, (if cap = 1 then some (⟨g, 0, none⟩ : Addr) else some ⟨g, 1, none⟩) = B := ⟨_, rfl⟩
    have HBC := Lib.hid (show ∀ (W : World) (k : Nat), k + 1 < xs.length → OwnI W lo hi (.slice (some ⟨g, 0, none⟩) xs.length cap) xs → B = some ⟨g, 1, none⟩ ∧ W.cell? ⟨g, 1 + k, none⟩ = some (.int .i64 (xs.getD (k + 1) 0)) from fun W k hk ho => by
      obtain ⟨g', c', e', -, -, hc, -⟩ := ho.cell (j := k + 1) hk
      simp only [Value.slice.injEq, Option.some.injEq, Addr.mk.injEq] at e'
      obtain ⟨⟨rfl, -⟩, -, rfl⟩ := e'
      exact ⟨by rw [← hB, if_neg (by omega)], by rw [Nat.add_comm 1 k]; exact hc⟩)
    rw [hB] at HRT
    have hrt := HRT.out
    have hVS := VS.one (w := w) hm (by omega)
    have HOB := Lib.hid (((Below.refl w.heap.size w).alloc (Nat.le_refl _) (.cells #[.pointer none, .int .i64 0, .int .i64 0] 41)).alloc (by simp) (.cells #[pA w.heap.size] 39))
    have HVS := Lib.hid (hVS.keep (below_fresh _ (.cells #[pA w.heap.size] 39)) (Nat.le_refl _))
    have HRO := Lib.hid (show RowV ((w.alloc (.cells #[.pointer none, .int .i64 0, .int .i64 0] 41)).alloc (.cells #[pA w.heap.size] 39)) w.heap.size (.slice (some ⟨w.heap.size + 1, 0, none⟩) 1 1) [w.heap.size] by
      have h := RowV.one (w.alloc (.cells #[.pointer none, .int .i64 0, .int .i64 0] 41)) w.heap.size w.heap.size (by simp)
      rwa [show (w.alloc (.cells #[.pointer none, .int .i64 0, .int .i64 0] 41)).heap.size = w.heap.size + 1 by simp] at h)
    obtain ⟨m, hm1⟩ : ∃ m, xs.length = m + 1 := ⟨xs.length - 1, by omega⟩
    have HM1 := Lib.hid hm1
    have hm2 : xs.length - 1 = m := by omega
    rw [hm2] at hrt
    have hm3 : m ≤ 8 := by omega
    rw [hm] at hc0
    clear hv h0 h9 hm hB hVS hm1 hm2
    go_enter Try.func29, Try.ntmps29
    go_wp2
    go_loopw [3, 27] (fun v y wr => ∃ (i : Nat) (gs : List Nat), i ≤ m ∧ gs.length = i + 1 ∧ y = .int .i64 i ∧ RowV wr w.heap.size v gs ∧ VS wr w.heap.size gs xs ∧ (∀ j, j ≤ i → plOk xs j) ∧ Below w.heap.size w wr) (fun _ y _ => m - (intOf y).toNat)
    case atStart => exact ⟨0, [w.heap.size], Nat.zero_le _, rfl, rfl, HRO.out, HVS.out, fun j hj => by (obtain rfl : j = 0 := by omega); unfold plOk; rw [if_pos rfl]; exact HM.out, HOB.out⟩
    case round =>
      obtain ⟨i, gs, hi, hgl, rfl, hrow, hvs, hok, hbr⟩ := hrel
      have HROW := Lib.hid hrow
      have HV := Lib.hid hvs
      have HOK := Lib.hid hok
      have HG := Lib.hid hgl
      have hB := hbr.size
      obtain ⟨gv, cv, rfl, hv1, hv2, hvc⟩ := hrow.open_ (by omega)
      rw [hgl]
      clear hrow hvs hok
      by_cases hlt : i < m
      · have hii : (i : Int) < (m : Int) := by omega
        have hi1 : (i : Int) < ((i + 1 : Nat) : Int) := by omega
        have hm1 := HM1.out
        obtain ⟨hBe, hcx⟩ := HBC.out wr i (by omega) (HO.out.keep hbr hhi)
        subst hBe
        have hcv := hvc i (by omega)
        have HIN := Lib.hid (fun j h1 h2 => HV.out.inn j h1 h2)
        have HU := Lib.hid (upTo wr _ gs xs HV.out i (by omega) (xs.getD (i + 1) 0))
        have hpo := plOk_up (n := i) HM.out (fun j h1 h2 => HIN.out j h1 (by omega))
        unfold upRes at HU
        rcases hup : upHas xs (xs.getD (i + 1) 0) (i + 1) i with _ | _
        · rw [hup] at HU hpo
          have HN := Lib.hid (plane_no (xs := xs) (i := i + 1) (by omega) (fun h => by have := hpo.1 h; cases this))
          have HB := Lib.hid hbr
          generalize xs.getD (i + 1) 0 = y at *
          unfold pA at hcv HU
          generalize gs.getD i 0 = gi at *
          clear hpo hup hvc hgl hm1
          go_wp2_with fail
          (with_reducible refine HU.out.mono ?_)
          rintro e w1 ⟨rfl, rfl⟩
          go_wp2
          go_ret
          exact VAns.none HN.out HB.out
        · rw [hup] at HU hpo
          have hyin := up_in xs _ i (fun j h1 h2 => HIN.out j h1 (by omega)) (by rw [HM.out]; omega) hup
          obtain ⟨q, hq⟩ : ∃ q : Nat, xs.getD (i + 1) 0 = q := ⟨(xs.getD (i + 1) 0).toNat, by omega⟩
          have HQ := Lib.hid hq
          have HP := Lib.hid (hpo.2 rfl)
          rw [hq] at HU hcx hyin
          have hqi : q ≤ i := by omega
          have hlv := lev_bd xs q (fun j h1 h2 => HIN.out j h1 (by omega))
          have HCH := Lib.hid (childC wr (gs.getD q 0) ((i : Int) + 1) (lev xs q) (HV.out.c2 q (by omega)) (by omega))
          have hiw : IntKind.i64.wrap ((i : Int) + 1) = (i : Int) + 1 := IntWalk.i64_in _ (by omega)
          unfold pA at hcv HU
          rw [if_pos rfl, Int.toNat_natCast] at HU
          have HGQ := Lib.hid (show pA (gs.getD q 0) = .pointer (some ⟨gs.getD q 0, 0, none⟩) from rfl)
          have HB := Lib.hid hbr
          generalize gs.getD i 0 = gi at *
          obtain ⟨gq, hgq⟩ : ∃ gq, gs.getD q 0 = gq := ⟨_, rfl⟩
          rw [hgq] at HU HCH
          have HGQ := Lib.hid hgq
          have HROW2 := Lib.hid (show RowV wr w.heap.size (.slice (some ⟨gv, 0, none⟩) (i + 1) cv) gs by have h := HROW.out; rw [hgl] at h; exact h)
          have HCL := Lib.hid (show ((wr.alloc (.cells #[.pointer (some ⟨gq, 0, none⟩), .int .i64 ((i : Int) + 1), .int .i64 (lev xs q + 1)] 41)).alloc (.cells #[.pointer (some ⟨wr.heap.size, 0, none⟩)] 39)).cell? ⟨wr.heap.size + 1, 0, none⟩ = some (pA wr.heap.size) by
            rw [show wr.heap.size + 1 = (wr.alloc (.cells #[.pointer (some ⟨gq, 0, none⟩), .int .i64 ((i : Int) + 1), .int .i64 (lev xs q + 1)] 41)).heap.size by simp]
            exact cell_one _ _ _)
          clear hpo hup hvc hgl hm1 hq hyin hgq hbr hlt
          go_wp2_with fail
          (with_reducible refine HU.out.mono ?_)
          rintro e w1 ⟨rfl, rfl⟩
          go_wp2_with fail
          (with_reducible refine HCH.out.mono ?_)
          rintro e w2 ⟨rfl, rfl⟩
          go_wp2_with (at_builtin; go_must (refine wpAppV rfl _ _ rfl w.heap.size _ gs rfl (World.ownsRow.alloc (World.ownsRow.alloc HROW2.out _) _) _ _ wr.heap.size rfl HCL.out (by have := HG.out; omega) (by simp; omega) ?_); intro v' w' hown' hg')
          go_roundw
          case rel =>
            have hgl := HG.out
            have hrl := World.ownsRow.lt HROW2.out gv rfl
            have hold : VS w' w.heap.size gs xs := HV.out.same (fun g0 C e => grow_old hg' (Array.getElem?_eq_some_iff.1 e).1 (RowV.ne HROW2.out e))
            have hnew := grow_new hg' (fun e => by have e2 : wr.heap.size = gv := Option.some.inj e; omega)
            refine ⟨i + 1, gs ++ [wr.heap.size], by omega, by simp [hgl], by simp, hown', VS.more HV.out hold (by have := HM1.out; omega) q (by rw [hgl]; exact HQ.out) (by omega) wr.heap.size (Nat.le_refl _) hB ?_, fun j hj => ?_, ?_⟩
            · rw [hnew, hgl]
              unfold pA
              rw [HGQ.out]
              simp
            · by_cases e : j ≤ i
              · exact HOK.out j e
              · obtain rfl : j = i + 1 := by omega
                exact HP.out
            · exact ((HB.out.alloc hB _).alloc (by simp; omega) _).grown hg' (by simp; omega) (fun k hk => (World.ownsRow.lt HROW2.out k hk).1)
          case measure => simp [intOf]; omega
      · obtain rfl : i = m := by omega
        have HN := Lib.hid (show planeB xs = true from decide_eq_true ⟨⟨by have := HM1.out; omega, by have := HM1.out; omega⟩, fun j hj => HOK.out j (by have := HM1.out; omega)⟩)
        have HB := Lib.hid hbr
        have hll := HG.out
        clear hvc hgl hbr
        go_wp2
        go_ret
        exact ⟨_, gs, rfl, by have h := HROW.out; rw [hll] at h; exact h, fun _ => ⟨by rw [hll, HM1.out], HV.out⟩, fun h => by (rw [HN.out] at h; cases h), HB.out⟩
  · have HN := Lib.hid (show planeB xs = false by
      rcases hp : planeB xs with _ | _
      · rfl
      · exact absurd (plane_first hp) hm)
    have hne : (xs.getD 0 0 != -1) = true := bne_iff_ne.2 hm
    generalize xs.getD 0 0 = y at *
    clear hv h0 h9 hm
    go_enter Try.func29, Try.ntmps29
    go_wp2
    go_ret
    exact VAns.none HN.out (Below.refl _ _)

end Go.Proofs.Ytlnogepmkbibcaa
