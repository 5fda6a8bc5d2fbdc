/- The contract of the model's SortParking. -/
import Derived.Test.YtidfbnfgmacjgaaFact12S
import Derived.Test.YtidfbnfgmacjgaaSpec12C
import Derived.BigQuiet
import Derived.BigRegion
import Derived.Deep.RegionLaw
namespace Go.Proofs.Ytidfbnfgmacjgaa
open Go.ChangeShapes Go.WideShapes Go.ChangeAt Go.RowKit
set_option linter.unusedVariables false

theorem heap_new (w : World) (o : Obj) : (w.alloc o).heap[w.heap.size]? = some o := Array.getElem?_push_size
theorem addr_add (b off j : Nat) : (Addr.add ⟨b, off, none⟩ j) = ⟨b, off + j, none⟩ := by
  unfold Addr.add
  split
  · rename_i e; subst e; rfl
  · rfl
theorem belA {a w : World} {o : Obj} (h : Below a.heap.size a w) : Below a.heap.size a (w.alloc o) := h.alloc h.size o
theorem belD {a w : World} (h : Below a.heap.size a w) : Below a.heap.size a w.drew := h.drew
theorem belN {a w : World} {n : Nat} (h : Below a.heap.size a w) : Below a.heap.size a (w.drewN n) := ⟨h.os, h.tape, h.output, h.size, h.block⟩
theorem heap_at {w : World} {o : Obj} {b : Nat} (hb : b = w.heap.size) : (w.alloc o).heap[b]? = some o := by subst hb; exact heap_new _ _
theorem heap_at2 {w : World} {o o' : Obj} {b : Nat} (hb : b = w.heap.size) : ((w.alloc o).alloc o').heap[b]? = some o := by
  subst hb
  exact (Below.heap_alloc _ _ _ (by simp)).trans (heap_new _ _)
theorem cell_at {w : World} {x : Value} {t : TypeId} {b : Nat} (hb : b = w.heap.size) : (w.alloc (.cells #[x] t)).cell? ⟨b, 0, none⟩ = some x := by subst hb; exact cell_one _ _ _
theorem cell_at2 {w : World} {x : Value} {t : TypeId} {o' : Obj} {b : Nat} (hb : b = w.heap.size) : ((w.alloc (.cells #[x] t)).alloc o').cell? ⟨b, 0, none⟩ = some x := by
  subst hb
  exact (World.cell?_of_block (a := ⟨w.heap.size, 0, none⟩) (Below.heap_alloc _ _ _ (by simp))).trans (cell_one _ _ _)
theorem own_ne {b b' off n c : Nat} (h : b ≠ b') : some b ≠ (Value.slice (some ⟨b', off, none⟩) n c).ownBlock := fun e => h (Option.some.inj e)
theorem own_cap {w : World} {base : Nat} {e : TypeId} {size g n c m : Nat} {xs : List Value} (h : w.ownsRow base e size (.slice (some ⟨g, 0, none⟩) n c) m xs) : m ≤ c := by
  rcases h.2 with ⟨h, -⟩ | ⟨g', cap, cur, h, -, -, h1, -⟩
  · cases h
  · obtain ⟨-, -, rfl⟩ := Value.slice.inj h
    exact h1
theorem cells1 {w : World} {b : Nat} {x : Int} (h : w.cell? ⟨b, 0, none⟩ = some (.int .i64 x)) : ∀ j, j < 1 → w.cell? ⟨b, 0 + j, none⟩ = some (.int .i64 (([x] : List Int).getD j 0)) := by
  intro j hj
  obtain rfl : j = 0 := by omega
  exact h
set_option maxRecDepth 100000 in
/-- A part of a row of ints appended to a row of this call's own, in a region. -/
theorem stepAppP {w : World} {ops : Array Oper} {o : Oper} {a : Act} {K : Act → World → Prop} {Q : Exit → Act → World → Prop} {E : Prop} (hgd : o.guard = none) (s x : Operand)
    (ho : o.op = .call { callee := .builtin .append, args := #[s, x], argTypes := #[22, 22] })
    (w1 : World) (hbel : Below w1.heap.size w1 w) (v : Value) (n : Nat) (xs : List Int) (hs : a.eval s = v) (hown : w.ownsRow w1.heap.size 3 1 v n (xs.map (Value.int .i64)))
    (b off m c : Nat) (ys : List Int) (hm : ys.length = m) (hx : a.eval x = .slice (some ⟨b, off, none⟩) m c) (hcells : ∀ j, j < m → w.cell? ⟨b, off + j, none⟩ = some (.int .i64 (ys.getD j 0)))
    (hn : n + m ≤ 1099511627776)
    (h : ∀ v' w', w'.ownsRow w1.heap.size 3 1 v' (n + m) ((xs ++ ys).map (Value.int .i64)) → Below w1.heap.size w1 w' →
      (∀ b y, some b ≠ v.ownBlock → w.cell? ⟨b, 0, none⟩ = some y → w'.cell? ⟨b, 0, none⟩ = some y) → K (a.put o.dst v') w') :
    if Region.wanted o (yielded ops a.tmps) = true then Oper.wp Try.prog o a w K Q else E := by
  have hw : Region.wanted o (yielded ops a.tmps) = true := by simp [Region.wanted, hgd]
  rw [if_pos hw]
  subst hm
  obtain ⟨i0, hi, hz0, hz1, hz2⟩ := info_parts info3
  obtain ⟨v', w', hr, h2, h3, h4, h5⟩ := run_append_own_at (P := Try.prog) w w1.heap.size 22 o.type 3 i0 (.int .i64 0) 1 8 Try.underlying22 hi hz0 hz1 hz2 rfl (by decide) v n _ hown ⟨b, off, none⟩ ys.length c (ys.map (Value.int .i64)) (by simp) (fun j u hj => by
    have hjl : j < ys.length := by
      have := (List.getElem?_eq_some_iff.1 hj).1; simpa using this
    have h1 := hcells j hjl
    have h2 : u = .int .i64 (ys.getD j 0) := by
      rw [List.getElem?_map] at hj
      simp [hjl] at hj
      simp [List.getD, hjl, ← hj]
    rw [h2, ← h1, addr_add]) (fun u hu => by obtain ⟨y, -, rfl⟩ := List.mem_map.1 hu; rfl) (by unfold maxLen; omega) (by omega) hbel.size
  unfold Oper.wp execOp
  simp only [ho, resolve, invoke, builtin, Sem.run_bind, Sem.run_pure, Result.andThen_ok, List.map_toArray, List.map_cons, List.map_nil, hs, hx, hr]
  refine h v' w' (by simpa using h2) (hbel.grown h3 hbel.size (fun k hk => (World.ownsRow.lt hown k hk).1)) (fun b y hne hc => ?_)
  exact (World.cell?_of_block (a := ⟨b, 0, none⟩) (h3.block _ (World.block_lt_of_cell? _ _ hc) hne)).trans hc
theorem run_toI (w : World) (g n len cap : Nat) (hc : n ≤ cap) : (Instr.slice 22 (.slice (some ⟨g, 0, none⟩) len cap) none (some (.int .i64 (n : Int))) none).run Try.prog w = .ok (.slice (some ⟨g, 0, none⟩) n cap) w := by
  obtain ⟨i0, hi, hz0, hz1, hz2⟩ := info_parts info3
  have he : Try.prog.elem 22 = 3 := by kernel_rfl
  have hcc : Try.prog.cellsOf 3 = 1 := by kernel_rfl
  have hu : Try.prog.underlying 22 = some (.slice (Try.prog.elem 22)) := by rw [he]; exact Try.underlying22
  rw [run_slice_h w _ _ len cap hu .i64 (n : Int) (by omega) (by omega), he, run_sizeOf w hi, hcc]
  simp [sliced, Result.andThen, Addr.add]
theorem run_fromP (w : World) (g n len cap : Nat) (hn : n ≤ len) : (Instr.slice 22 (.slice (some ⟨g, 0, none⟩) len cap) (some (.int .i64 (n : Int))) none none).run Try.prog w = .ok (.slice (some ⟨g, if cap = n then 0 else n, none⟩) (len - n) (cap - n)) w := by
  obtain ⟨i0, hi, hz0, hz1, hz2⟩ := info_parts info3
  have he : Try.prog.elem 22 = 3 := by kernel_rfl
  have hcc : Try.prog.cellsOf 3 = 1 := by kernel_rfl
  have hu : Try.prog.underlying 22 = some (.slice (Try.prog.elem 22)) := by rw [he]; exact Try.underlying22
  rw [run_slice_l w _ _ len cap hu .i64 (n : Int) (by omega) (by omega), he, run_sizeOf w hi, hcc]
  by_cases e : cap = n
  · subst e; simp [sliced, Result.andThen]
  · simp [sliced, Result.andThen, Addr.add, e]
    by_cases e0 : n = 0
    · subst e0; simp
    · simp [e0]
theorem row_empty {W : World} {B b : Nat} (hB : B ≤ b) (h : W.heap[b]? = some (.cells #[] 3 (0, 0))) : W.ownsRow B 3 1 (.slice (some ⟨b, 0, none⟩) 0 0) 0 (([] : List Int).map (Value.int .i64)) :=
  ⟨rfl, .inr ⟨b, 0, #[], rfl, hB, h, Nat.le_refl _, Nat.zero_le _, rfl, rfl⟩⟩

set_option maxRecDepth 100000 in
set_option maxHeartbeats 3200000 in
theorem sortParking (v : Value) (xs : List Int) (lo hi : Nat) (w : World) (hv : OwnI w lo hi v xs) (hhi : hi ≤ w.heap.size) (hl : xs.length ≤ 1099511627776) :
    Calls Try.prog 24 #[v] w (AnsIB (srtP xs) (parkB xs) w) := by
  obtain ⟨A1, c1, rfl, -⟩ := id hv
  have HM := Lib.hid (fun w' lo hi (h : OwnI w' lo hi (.slice A1 xs.length c1) xs) (hh : hi ≤ w'.heap.size) => isParking (.slice A1 xs.length c1) xs lo hi w' h hh hl)
  have HV := Lib.hid hv
  clear hv
  have HB0 := Lib.hid ((Below.refl w.heap.size w).alloc (Nat.le_refl _) (.cells #[] 3))
  have HE0 := Lib.hid (row_empty (W := w.alloc (.cells #[] 3)) (Nat.le_refl w.heap.size) (heap_new w _))
  rcases hm : parkB xs with _ | _
  · have HS := Lib.hid (srt_no hm)
    have hne : xs.length ≠ 0 := fun h => by
      have : parkB xs = true := decide_eq_true ⟨by omega, fun i hi => by omega⟩
      rw [hm] at this; cases this
    have hii : (0 : Int) < (xs.length : Int) := by omega
    have HM0 := Lib.hid (HM.out (w.alloc (.cells #[] 3)) lo hi (HV.out.keep HB0.out hhi) (by simp; omega))
    rw [hm] at HM0 HM
    clear hm hne
    go_enter Try.func24, Try.ntmps24
    go_wp2
    refine wp_loop_rounds 1 ?_
    rw [rounds_succ]
    go_wp2_with fail
    (with_reducible refine HM0.out.mono ?_)
    rintro e w1 ⟨rfl, hb⟩
    have HB1 := Lib.hid (HB0.out.trans (hb.mono HB0.out.size))
    have HE1 := Lib.hid ((OwnI.of_row HE0.out).keep hb (Nat.le_refl _))
    have HM1 := Lib.hid (HM.out w1 lo hi (HV.out.keep HB1.out hhi) (by have := HB1.out.size; omega))
    have hs1 := hb.size
    clear hb
    go_wp2_with fail
    (with_reducible refine HM1.out.mono ?_)
    rintro e w2 ⟨rfl, hb⟩
    go_wp2
    go_ret2
    refine ⟨_, rfl, ?_, HB1.out.trans (hb.mono HB1.out.size)⟩
    rw [HS.out]
    exact (HE1.out.keep hb hs1).wide (Nat.le_refl _) (by have := hb.size; omega)
  · have HS := Lib.hid (srt_yes hm)
    have h6 := (park_yes hm).1
    rw [hm] at HM
    clear hm
    go_enter Try.func24, Try.ntmps24
    go_wp2
    go_loopw [4, 5] (fun u y wr => ∃ (i : Nat) (l : List Int) (g c : Nat), i ≤ xs.length ∧ y = .int .i64 i ∧ u = .slice (some ⟨g, 0, none⟩) l.length c ∧ l.length ≤ c ∧ g < wr.heap.size ∧ OwnI wr w.heap.size wr.heap.size u l ∧ SrtL l ∧ l.Perm (xs.take i) ∧ Below w.heap.size w wr) (fun _ y _ => xs.length - (intOf y).toNat)
    case atStart => exact ⟨0, [], w.heap.size, 0, Nat.zero_le _, rfl, rfl, Nat.le_refl _, by simp, OwnI.of_row HE0.out, List.Pairwise.nil, by simp, HB0.out⟩
    case round =>
      obtain ⟨i, l, g, c, hi1, rfl, rfl, hlc, hgl, ho, hsl, hpl, hb⟩ := hrel
      have HO := Lib.hid ho
      have HB := Lib.hid hb
      have hB := hb.size
      have HSL := Lib.hid hsl
      have HPL := Lib.hid hpl
      have HLI := Lib.hid (show l.length = i by rw [hpl.length_eq, List.length_take]; omega)
      have hl6 : l.length ≤ 6 := by have := HLI.out; omega
      clear ho hb hsl hpl HB0 HE0
      have HMW := Lib.hid (HM.out wr lo hi (HV.out.keep HB.out hhi) (by omega))
      by_cases hlt : i < xs.length
      · have hii : (i : Int) < (xs.length : Int) := by omega
        obtain ⟨gx, px, ex, -, hxh, -, -⟩ := HV.out.cell hlt
        simp only [Value.slice.injEq] at ex
        obtain ⟨rfl, -, rfl⟩ := ex
        generalize hx : xs.getD i 0 = x at *
        have HX := Lib.hid hx
        clear hx
        go_wp2_with fail
        (with_reducible refine HMW.out.mono ?_)
        rintro e w1 ⟨rfl, hb1⟩
        have hs1 := hb1.size
        have HB1 := Lib.hid (HB.out.trans (hb1.mono hB))
        have HO1 := Lib.hid (HO.out.keep hb1 (Nat.le_refl _))
        clear hb1
        go_wp2
        go_loopw [6] (fun y wr' => ∃ p q : Nat, p ≤ l.length ∧ y = .int .i64 p ∧ wr' = w1.drewN q ∧ ∀ j, p ≤ j → j < l.length → x < l.getD j 0) (fun y _ => (intOf y).toNat)
        case atStart => exact ⟨l.length, 0, Nat.le_refl _, rfl, rfl, fun j h1 h2 => by omega⟩
        case round =>
          obtain ⟨p, q, hp, rfl, rfl, hgt⟩ := hrel
          have HGT := Lib.hid hgt
          clear hgt
          have hcx : w1.cell? ⟨gx, i, none⟩ = some (.int .i64 x) := by
            obtain ⟨g2, c2, e2, -, -, h2, -⟩ := (HV.out.keep HB1.out hhi).cell hlt
            simp only [Value.slice.injEq, Option.some.injEq, Addr.mk.injEq] at e2
            obtain ⟨⟨rfl, -⟩, -, -⟩ := e2
            rw [HX.out] at h2; exact h2
          have HL := Lib.hid (fun j (hj : j < l.length) => show w1.cell? ⟨g, j, none⟩ = some (.int .i64 (l.getD j 0)) by
            obtain ⟨g2, c2, e2, -, -, h2, -⟩ := HO1.out.cell hj
            simp only [Value.slice.injEq, Option.some.injEq, Addr.mk.injEq] at e2
            obtain ⟨⟨rfl, -⟩, -, -⟩ := e2
            exact h2)
          have hg1 : g < w1.heap.size := by omega
          have hgx1 : gx < w1.heap.size := by omega
          by_cases hin : 0 < p ∧ x < l.getD (p - 1) 0
          · obtain ⟨hpp, hxx⟩ := hin
            obtain ⟨k, rfl⟩ : ∃ k, p = k + 1 := ⟨p - 1, by omega⟩
            rw [Nat.add_sub_cancel] at hxx
            have hcl := HL.out k (by omega)
            have HXX := Lib.hid hxx
            generalize hz : l.getD k 0 = z at *
            have HZ := Lib.hid hz
            clear hz
            have hk0 : (0 : Int) < (k : Int) + 1 := by omega
            have d1 : decide ((0 : Int) < (k : Int) + 1) = true := decide_eq_true hk0
            have d2 : decide (x < z) = true := decide_eq_true hxx
            go_wp2
            go_quiet (fail)
            go_wp2
            refine ⟨⟨k, q + nq, by omega, by simp, by simp, fun j h1 h2 => ?_⟩, by simp [intOf]⟩
            by_cases e : j = k
            · subst e; rw [HZ.out]; exact HXX.out
            · exact HGT.out j (by omega) h2
          · have h0 : p = 0 ∨ l.getD (p - 1) 0 ≤ x := by omega
            have H0 := Lib.hid h0
            clear h0 hin
            have HP : Hid (SrtL (l.take p ++ [x] ++ l.drop p) ∧ (l.take p ++ [x] ++ l.drop p).Perm (xs.take (i + 1))) := Lib.hid ⟨ins_srt HSL.out hp H0.out HGT.out, by
              rw [take_next xs hlt, HX.out]
              exact (ins_perm l x p).trans (HPL.out.append_right _)⟩
            have HLN := Lib.hid (show (l.take p ++ [x] ++ l.drop p).length = p + 1 + (l.length - p) by rw [List.length_append, List.length_append, List.length_singleton, List.length_take, List.length_drop]; omega)
            rcases Nat.eq_zero_or_pos p with e | hpp
            · have hpi : ¬ ((0 : Int) < (p : Int)) := by omega
              have d1 : decide ((0 : Int) < (p : Int)) = false := decide_eq_false hpi
              have hpn : ¬ 0 < p := by omega
              have d3 : decide (0 < p) = false := decide_eq_false hpn
              clear e
              go_wp2
              go_quiet (fail)
              go_wp2
              have hrt := fun W => run_toI W g p l.length c (by omega)
              have hrf := fun W => run_fromP W g p l.length c hp
              obtain ⟨o8, ho8⟩ : ∃ o8, (if c = p then 0 else p) = o8 := ⟨_, rfl⟩
              have HLT := Lib.hid (fun (W : World) (h : Below w1.heap.size w1 W) j (hj : j < p) => show W.cell? ⟨g, 0 + j, none⟩ = some (.int .i64 ((l.take p).getD j 0)) by
                rw [Nat.zero_add, (h.cell (p := ⟨g, j, none⟩) hg1)]
                rw [HL.out j (by omega)]
                simp [List.getD, hj])
              have HLD := Lib.hid (fun (W : World) (h : Below w1.heap.size w1 W) j (hj : j < l.length - p) => show W.cell? ⟨g, o8 + j, none⟩ = some (.int .i64 ((l.drop p).getD j 0)) by
                have e8 : o8 = p := by rw [← ho8, if_neg (by omega)]
                rw [e8, (h.cell (p := ⟨g, p + j, none⟩) hg1), HL.out (p + j) (by omega)]
                simp [List.getD])
              have HCX := Lib.hid (fun (W : World) (h : Below w1.heap.size w1 W) => (h.cell (p := ⟨gx, i, none⟩) hgx1).trans hcx)
              simp only [ho8] at hrf
              have hcxA : ∀ (m : Nat) (o : Obj), ((w1.drewN m).alloc o).cell? ⟨gx, i, none⟩ = some (.int .i64 x) := fun m o => HCX.out _ (belA (belN (Below.refl _ _)))
              go_region_law (first
                | (refine stepAppP rfl _ _ (by rfl) w1 (by first | exact HB46.out | exact belD HB46.out) v46 (p + 1) (l.take p ++ [x]) (by rfl) (by exact HO46.out) g o8 _ _ (l.drop p) (List.length_drop ..) (by rfl) (fun j hj => HLD.out _ (by first | exact HB46.out | exact belD HB46.out) j hj) (by omega) ?_; intro v50 w50 hown50 hb50 _; obtain ⟨g50, c50, hv50, HCC, -⟩ := World.ownsRow.form hown50 (by omega); subst hv50; have HO50 := Lib.hid hown50; have HB50 := Lib.hid hb50; clear hown50 hb50)
                | (refine stepAppP rfl _ _ (by rfl) w1 (by repeat (first | exact HB40.out | with_reducible apply belA | with_reducible apply belD)) v40 p (l.take p) (by rfl) (by first | exact HO40.out | exact World.ownsRow.alloc HO40.out _) _ 0 1 _ [x] rfl (by rfl) (cells1 (by first | exact cell_one _ _ _ | exact KC40.out _ _ (own_ne (by simp)) (cell_at (by simp)) | exact KC40.out _ _ (own_ne (by simp)) (cell_at2 (by simp)))) (by omega) ?_; intro v46 w46 hown46 hb46 _; have HO46 := Lib.hid hown46; have HB46 := Lib.hid hb46; have hcx46 := HCX.out w46 hb46; clear hown46 hb46)
                | (refine stepAppP rfl _ _ (by rfl) w1 (by repeat (first | exact Below.refl _ _ | with_reducible apply belA | with_reducible apply belD | with_reducible apply belN)) _ 0 [] (by rfl) (by first | exact row_empty (by simp) (heap_at (by simp)) | exact row_empty (by simp) (heap_at2 (by simp))) g 0 _ _ (l.take p) (by rw [List.length_take]; omega) (by rfl) (fun j hj => HLT.out _ (by repeat (first | exact Below.refl _ _ | with_reducible apply belA | with_reducible apply belD | with_reducible apply belN)) j hj) (by omega) ?_; intro v40 w40 hown40 hb40 hk40; rw [Nat.zero_add, List.nil_append] at hown40; have HO40 := Lib.hid hown40; have HB40 := Lib.hid hb40; have KC40 := Lib.hid hk40; have hcx40 := HCX.out w40 hb40; clear hown40 hb40 hk40))
              all_goals go_wp2
              all_goals exact ⟨⟨i + 1, l.take p ++ [x] ++ l.drop p, g50, c50, by omega, by simp, by rw [HLN.out], by rw [HLN.out]; exact own_cap HO50.out, World.ownsRow.lt HO50.out _ rfl |>.2, (OwnI.of_row HO50.out).wide (by omega) (Nat.le_refl _), HP.out.1, HP.out.2, HB1.out.trans (HB50.out.mono (by omega))⟩, by simp [intOf]; omega⟩
            · obtain ⟨k, hk⟩ : ∃ k, p = k + 1 := ⟨p - 1, by omega⟩
              have hcl := HL.out k (by omega)
              have hzx : l.getD k 0 ≤ x := by
                rcases H0.out with h | h
                · omega
                · rw [hk, Nat.add_sub_cancel] at h; exact h
              generalize hz : l.getD k 0 = z at *
              clear hz
              have hpk : (p : Int) - 1 = (k : Int) := by omega
              have d1 : decide ((0 : Int) < (p : Int)) = true := decide_eq_true (by omega)
              have d2 : decide (x < z) = false := decide_eq_false (by omega)
              have hpi : (0 : Int) < (p : Int) := by omega
              clear hk
              go_wp2
              go_quiet (fail)
              go_wp2
              have hrt := fun W => run_toI W g p l.length c (by omega)
              have hrf := fun W => run_fromP W g p l.length c hp
              obtain ⟨o8, ho8⟩ : ∃ o8, (if c = p then 0 else p) = o8 := ⟨_, rfl⟩
              have HLT := Lib.hid (fun (W : World) (h : Below w1.heap.size w1 W) j (hj : j < p) => show W.cell? ⟨g, 0 + j, none⟩ = some (.int .i64 ((l.take p).getD j 0)) by
                rw [Nat.zero_add, (h.cell (p := ⟨g, j, none⟩) hg1)]
                rw [HL.out j (by omega)]
                simp [List.getD, hj])
              have HLD := Lib.hid (fun (W : World) (h : Below w1.heap.size w1 W) j (hj : j < l.length - p) => show W.cell? ⟨g, o8 + j, none⟩ = some (.int .i64 ((l.drop p).getD j 0)) by
                have e8 : o8 = p := by rw [← ho8, if_neg (by omega)]
                rw [e8, (h.cell (p := ⟨g, p + j, none⟩) hg1), HL.out (p + j) (by omega)]
                simp [List.getD])
              have HCX := Lib.hid (fun (W : World) (h : Below w1.heap.size w1 W) => (h.cell (p := ⟨gx, i, none⟩) hgx1).trans hcx)
              simp only [ho8] at hrf
              have hcxA : ∀ (m : Nat) (o : Obj), ((w1.drewN m).alloc o).cell? ⟨gx, i, none⟩ = some (.int .i64 x) := fun m o => HCX.out _ (belA (belN (Below.refl _ _)))
              go_region_law (first
                | (refine stepAppP rfl _ _ (by rfl) w1 (by first | exact HB46.out | exact belD HB46.out) v46 (p + 1) (l.take p ++ [x]) (by rfl) (by exact HO46.out) g o8 _ _ (l.drop p) (List.length_drop ..) (by rfl) (fun j hj => HLD.out _ (by first | exact HB46.out | exact belD HB46.out) j hj) (by omega) ?_; intro v50 w50 hown50 hb50 _; obtain ⟨g50, c50, hv50, HCC, -⟩ := World.ownsRow.form hown50 (by omega); subst hv50; have HO50 := Lib.hid hown50; have HB50 := Lib.hid hb50; clear hown50 hb50)
                | (refine stepAppP rfl _ _ (by rfl) w1 (by repeat (first | exact HB40.out | with_reducible apply belA | with_reducible apply belD)) v40 p (l.take p) (by rfl) (by first | exact HO40.out | exact World.ownsRow.alloc HO40.out _) _ 0 1 _ [x] rfl (by rfl) (cells1 (by first | exact cell_one _ _ _ | exact KC40.out _ _ (own_ne (by simp)) (cell_at (by simp)) | exact KC40.out _ _ (own_ne (by simp)) (cell_at2 (by simp)))) (by omega) ?_; intro v46 w46 hown46 hb46 _; have HO46 := Lib.hid hown46; have HB46 := Lib.hid hb46; have hcx46 := HCX.out w46 hb46; clear hown46 hb46)
                | (refine stepAppP rfl _ _ (by rfl) w1 (by repeat (first | exact Below.refl _ _ | with_reducible apply belA | with_reducible apply belD | with_reducible apply belN)) _ 0 [] (by rfl) (by first | exact row_empty (by simp) (heap_at (by simp)) | exact row_empty (by simp) (heap_at2 (by simp))) g 0 _ _ (l.take p) (by rw [List.length_take]; omega) (by rfl) (fun j hj => HLT.out _ (by repeat (first | exact Below.refl _ _ | with_reducible apply belA | with_reducible apply belD | with_reducible apply belN)) j hj) (by omega) ?_; intro v40 w40 hown40 hb40 hk40; rw [Nat.zero_add, List.nil_append] at hown40; have HO40 := Lib.hid hown40; have HB40 := Lib.hid hb40; have KC40 := Lib.hid hk40; have hcx40 := HCX.out w40 hb40; clear hown40 hb40 hk40))
              all_goals go_wp2
              all_goals exact ⟨⟨i + 1, l.take p ++ [x] ++ l.drop p, g50, c50, by omega, by simp, by rw [HLN.out], by rw [HLN.out]; exact own_cap HO50.out, World.ownsRow.lt HO50.out _ rfl |>.2, (OwnI.of_row HO50.out).wide (by omega) (Nat.le_refl _), HP.out.1, HP.out.2, HB1.out.trans (HB50.out.mono (by omega))⟩, by simp [intOf]; omega⟩
      · obtain rfl : i = xs.length := by omega
        have hii : ¬ ((xs.length : Int) < (xs.length : Int)) := by omega
        have hPP := HPL.out
        rw [List.take_length] at hPP
        have HF := Lib.hid (srt_of HSL.out hPP)
        clear hPP
        go_wp2_with fail
        (with_reducible refine HMW.out.mono ?_)
        rintro e w2 ⟨rfl, hb⟩
        go_wp2
        go_ret2
        refine ⟨_, rfl, ?_, HB.out.trans (hb.mono hB)⟩
        rw [HS.out, ← HF.out]
        exact (HO.out.keep hb (Nat.le_refl _)).wide (Nat.le_refl _) hb.size

end Go.Proofs.Ytidfbnfgmacjgaa
