/- The model's and the program's TurnPartition; slices.Grow of nothing and slices.Concat of two slices. -/
import Derived.Test.YtniddpplmdbcmaaImpl8A
import Derived.Test.YtniddpplmdbcmaaSpec2G
import Derived.Lib.AppendZeros
import Derived.Deep.RegionHeld3
namespace Go.Proofs.Ytniddpplmdbcmaa
open Go.ChangeShapes Go.WideShapes Go.ChangeAt Go.RowKit
set_option linter.unusedVariables false

/-- What TurnPartition answers. -/
def turnL (xs : List Int) : List Int := xs.getD (xs.length - 1) 0 :: xs.take (xs.length - 1)
theorem turnL_len {xs : List Int} (h : 0 < xs.length) : (turnL xs).length = xs.length := by unfold turnL; rw [List.length_cons, List.length_take]; omega
def turnP (xs : List Int) : List Int := if prtB xs = true then (if xs.length = 0 then [] else rnO (turnL xs) xs.length) else []
theorem sk_below {w W w' : World} {lo hi g n : Nat} {v p : Value} {xs : List Int} (hhi : hi ≤ w.heap.size) (hg : g < w.heap.size) (hb : Below w.heap.size W w') (h : W.cell? ⟨g, n, none⟩ = some v ∧ OwnI W lo hi p xs ∧ Below w.heap.size w W) : w'.cell? ⟨g, n, none⟩ = some v ∧ OwnI w' lo hi p xs ∧ Below w.heap.size w w' :=
  ⟨(hb.cell (p := ⟨g, n, none⟩) hg).trans h.1, h.2.1.keep hb hhi, h.2.2.trans hb⟩
theorem below_al {w W : World} (h : w.heap.size ≤ W.heap.size) (o : Obj) : Below w.heap.size W (W.alloc o) := (Below.refl _ W).alloc h o
section
variable {w W w' : World} {lo hi g n : Nat} {v p : Value} {xs : List Int}
theorem sk_al (hhi : hi ≤ w.heap.size) (hg : g < w.heap.size) (h : W.cell? ⟨g, n, none⟩ = some v ∧ OwnI W lo hi p xs ∧ Below w.heap.size w W) (o : Obj) : (W.alloc o).cell? ⟨g, n, none⟩ = some v ∧ OwnI (W.alloc o) lo hi p xs ∧ Below w.heap.size w (W.alloc o) :=
  sk_below hhi hg (below_al h.2.2.size o) h
theorem sk_dr (hhi : hi ≤ w.heap.size) (hg : g < w.heap.size) (h : W.cell? ⟨g, n, none⟩ = some v ∧ OwnI W lo hi p xs ∧ Below w.heap.size w W) : W.drew.cell? ⟨g, n, none⟩ = some v ∧ OwnI W.drew lo hi p xs ∧ Below w.heap.size w W.drew :=
  sk_below hhi hg (below_drewN (Below.refl _ _) 1) h
theorem sk_gr {row : Option Nat} (hhi : hi ≤ w.heap.size) (hg : g < w.heap.size) (hgr : W.grownBy w' row) (hr : ∀ k, row = some k → w.heap.size ≤ k) (h : W.cell? ⟨g, n, none⟩ = some v ∧ OwnI W lo hi p xs ∧ Below w.heap.size w W) : w'.cell? ⟨g, n, none⟩ = some v ∧ OwnI w' lo hi p xs ∧ Below w.heap.size w w' :=
  sk_below hhi hg ((Below.refl _ W).grown hgr h.2.2.size hr) h
theorem sk_ca (hhi : hi ≤ w.heap.size) (hg : g < w.heap.size) (hb : Below W.heap.size W w') (h : W.cell? ⟨g, n, none⟩ = some v ∧ OwnI W lo hi p xs ∧ Below w.heap.size w W) : w'.cell? ⟨g, n, none⟩ = some v ∧ OwnI w' lo hi p xs ∧ Below w.heap.size w w' :=
  sk_below hhi hg (hb.mono h.2.2.size) h
end
theorem row_oneB (W : World) (x : Int) (b base : Nat) (hb : b = W.heap.size) (hbase : base ≤ W.heap.size) : (W.alloc (.cells #[.int .i64 x] 3)).ownsRow base 3 1 (.slice (some ⟨b, 0, none⟩) 1 1) 1 [.int .i64 x] := by
  subst hb
  exact ⟨rfl, .inr ⟨W.heap.size, 1, _, rfl, hbase, heap_alloc_new W _, Nat.le_refl _, by decide, rfl, rfl⟩⟩
/-- A row behind a row of this call's own, in a region; the second one may be empty. -/
theorem stepAppA {w : World} {ops : Array Oper} {o : Oper} {a : Act} {K : Act → World → Prop} {Q : Exit → Act → World → Prop} {E : Prop} (hgd : o.guard = none) (s x : Operand)
    (ho : o.op = .call { callee := .builtin .append, args := #[s, x], argTypes := #[22, 22] })
    (base : Nat) (v : Value) (n : Nat) (xs ys : List Int) (hs : a.eval s = v) (hown : w.ownsRow base 3 1 v n (xs.map (Value.int .i64)))
    (ad : Addr) (m c : Nat) (hx : a.eval x = .slice (some ad) m c) (hm : ys.length = m) (hy : ∀ j, j < m → w.cell? (ad.add j) = some (.int .i64 (ys.getD j 0)))
    (hn : n ≤ 1099511627776) (hm2 : m ≤ 1099511627776) (hbase : base ≤ w.heap.size)
    (h : ∀ v' w', w'.ownsRow base 3 1 v' (n + m) ((xs ++ ys).map (Value.int .i64)) → w.grownBy w' v.ownBlock → K (a.put o.dst v') w') :
    if Region.wanted o (yielded ops a.tmps) = true then Oper.wp Try.prog o a w K Q else E := by
  have hw : Region.wanted o (yielded ops a.tmps) = true := by simp [Region.wanted, hgd]
  rw [if_pos hw]
  obtain ⟨i0, hi, hz0, hz1, hz2⟩ := info_parts info3
  refine wp_append_own w s x 22 ho base 3 i0 (.int .i64 0) 1 8 Try.underlying22 hi hz0 hz1 hz2 rfl (by decide) v n _ hs hown ad m c (ys.map (Value.int .i64)) hx (by simpa using hm) ?_ ?_ (by unfold maxLen; omega) (by omega) hbase ?_
  · intro j u hj
    rw [List.getElem?_map] at hj
    cases hq : ys[j]? with
    | none => rw [hq] at hj; cases hj
    | some z =>
      rw [hq] at hj
      have hjl : j < ys.length := (List.getElem?_eq_some_iff.1 hq).1
      have := hy j (by omega)
      rw [List.getD_eq_getElem?_getD, hq] at this
      simp only [Option.map_some, Option.some.injEq] at hj
      rw [← hj]; exact this
  · intro u hu
    obtain ⟨y, -, rfl⟩ := List.mem_map.1 hu
    rfl
  · intro v' w' h1 h2 _
    exact h v' w' (by simpa using h1) h2

set_option maxRecDepth 100000 in
set_option maxHeartbeats 3200000 in
theorem turnPartition (A : Option Addr) (xs : List Int) (cap lo hi : Nat) (w : World) (hv : OwnI w lo hi (.slice A xs.length cap) xs) (hhi : hi ≤ w.heap.size) (hcap : xs.length ≤ cap) (hl : xs.length ≤ 1099511) :
    Calls Try.prog 32 #[.slice A xs.length cap] w (AnsIB (turnP xs) (prtB xs) w) := by
  have HM := Lib.hid (isPartition _ xs lo hi w hv (by omega))
  have HV := Lib.hid hv
  rcases hp : prtB xs with _ | _
  · have HP := Lib.hid (show turnP xs = [] from if_neg (by rw [hp]; simp))
    rw [hp] at HM
    clear hp hv
    go_enter Try.func32, Try.ntmps32
    go_wp2_with fail
    (with_reducible refine HM.out.mono ?_)
    rintro e w1 ⟨rfl, rfl⟩
    go_wp2
    go_ret2
    exact ⟨_, rfl, by rw [HP.out]; exact ⟨_, _, rfl, .inl rfl⟩, (Below.refl _ w).alloc (Nat.le_refl _) _⟩
  by_cases h0 : xs.length = 0
  · have HP := Lib.hid (show turnP xs = [] by unfold turnP; rw [if_pos hp, if_pos h0])
    have hb0 : ((xs.length : Int) == 0) = true := by simp [h0]
    rw [hp] at HM
    clear hp hv h0
    go_enter Try.func32, Try.ntmps32
    go_wp2_with fail
    (with_reducible refine HM.out.mono ?_)
    rintro e w1 ⟨rfl, rfl⟩
    go_wp2
    go_ret2
    exact ⟨_, rfl, by rw [HP.out]; exact ⟨_, _, rfl, .inl rfl⟩, (Below.refl _ w).alloc (Nat.le_refl _) _⟩
  · have HP := Lib.hid (show turnP xs = rnO (turnL xs) xs.length by unfold turnP; rw [if_pos hp, if_neg h0])
    have hb0 : ((xs.length : Int) == 0) = false := beq_eq_false_iff_ne.2 (by omega)
    obtain ⟨n, hn⟩ : ∃ n, xs.length = n + 1 := ⟨xs.length - 1, by omega⟩
    have HN := Lib.hid hn
    obtain ⟨g, c, e', hg1, hg2, hcl, -⟩ := hv.cell (j := n) (by omega)
    simp only [Value.slice.injEq] at e'
    obtain ⟨rfl, -, rfl⟩ := e'
    have hsub : IntKind.i64.wrap ((xs.length : Int) - 1) = (n : Int) := by rw [IntWalk.i64_in _ (by omega)]; omega
    have hni : (n : Int) < (xs.length : Int) := by omega
    have hnc : (n : Int) ≤ (cap : Int) := by omega
    have hn0 : (0 : Int) ≤ (n : Int) := by omega
    have HTL := Lib.hid (show turnL xs = xs.getD n 0 :: xs.take n by unfold turnL; rw [hn]; rfl)
    have HCE := Lib.hid (fun (W : World) (ho : OwnI W lo hi (.slice (some ⟨g, 0, none⟩) xs.length cap) xs) (j : Nat) (hj : j < n) => show W.cell? (Addr.add ⟨g, 0, none⟩ j) = some (.int .i64 ((xs.take n).getD j 0)) by
      obtain ⟨g', c', e', -, -, hc, -⟩ := ho.cell (j := j) (by omega)
      simp only [Value.slice.injEq, Option.some.injEq, Addr.mk.injEq] at e'
      obtain ⟨⟨rfl, -⟩, -, -⟩ := e'
      rw [add_flat, hc, List.getD_eq_getElem?_getD, List.getD_eq_getElem?_getD, List.getElem?_take, if_pos hj])
    have htl : (xs.take n).length = n := by rw [List.length_take]; omega
    have HRL := Lib.hid (fun (W : World) (u : Value) (lo' hi' : Nat) (ho : OwnI W lo' hi' u (xs.getD n 0 :: xs.take n)) (hh : hi' ≤ W.heap.size) => l8Renumber u (xs.getD n 0 :: xs.take n) lo' hi' W ho hh (by rw [List.length_cons, htl]; omega))
    have hgw : g < w.heap.size := by omega
    have HS := Lib.hid (show w.cell? ⟨g, n, none⟩ = some (.int .i64 (xs.getD n 0)) ∧ OwnI w lo hi (.slice (some ⟨g, 0, none⟩) xs.length cap) xs ∧ Below w.heap.size w w from ⟨hcl, HV.out, Below.refl _ _⟩)
    rw [hp] at HM
    generalize xs.getD n 0 = x at *
    clear hp hv h0 hn
    go_enter Try.func32, Try.ntmps32
    go_wp2_with fail
    (with_reducible refine HM.out.mono ?_)
    rintro e w1 ⟨rfl, rfl⟩
    go_wp2
    go_region_held3 (fun w' => w'.cell? ⟨g, n, none⟩ = some (.int .i64 x) ∧ OwnI w' lo hi (.slice (some ⟨g, 0, none⟩) xs.length cap) xs ∧ Below w.heap.size w w')
      (first | exact HS.out | exact sk_dr hhi hgw (by first | assumption | exact HS.out) | exact sk_al hhi hgw (by first | assumption | exact sk_dr hhi hgw (by first | assumption | exact HS.out)) _ | exact sk_gr hhi hgw HG5.out (fun k hk => by (simp only [Value.ownBlock, Option.some.injEq] at hk; omega)) (by assumption) | exact sk_ca hhi hgw (by assumption) (by assumption))
      (first | (refine stepAppA rfl _ _ (by rfl) w.heap.size _ 1 [x] (xs.take n) (by rfl) (row_oneB _ x _ _ rfl (by first | exact Nat.le_refl _ | simp)) ⟨g, 0, none⟩ n _ (by rfl) htl (HCE.out _ (‹_ ∧ OwnI _ lo hi _ xs ∧ _› : _ ∧ _ ∧ _).2.1) (by omega) (by omega) (by simp) ?_; intro v5 w5 hown5 hgr5; have HO5 := Lib.hid (OwnI.of_row hown5); have HG5 := Lib.hid hgr5; clear hown5 hgr5) | ((with_reducible refine (HRL.out _ v5 w.heap.size w5.heap.size HO5.out (Nat.le_refl _)).mono ?_); rintro e w6 ⟨u, rfl, ho, hb⟩; have HO6 := Lib.hid ho; clear ho))
    all_goals go_wp2
    all_goals go_ret2
    all_goals
      have hz5 : w.heap.size ≤ w5.heap.size := by
        have := HG5.out.size
        simp at this
        omega
      have HOX : OwnI w6 w.heap.size w6.heap.size u (rnO (turnL xs) xs.length) := by
        have h := HO6.out
        rw [List.length_cons, htl, ← HN.out, ← HTL.out] at h
        exact h.wide hz5 (Nat.le_refl _)
    all_goals exact ⟨_, rfl, by rw [HP.out]; exact HOX, (‹_ ∧ OwnI _ lo hi _ xs ∧ _› : _ ∧ _ ∧ _).2.2⟩

/-- slices.Grow of nothing: a row of this call's own with no element yet. -/
def GrAns (w : World) (e : Ending) (w' : World) : Prop := ∃ v, e = .returned v ∧ w'.ownsRow w.heap.size 3 1 v 0 (([] : List Int).map (Value.int .i64)) ∧ Below w.heap.size w w'
theorem wpAppZ {w : World} {ops : Array Oper} {rest : List Oper} {o : Oper} {a : Act} {Q : Exit → Act → World → Prop} (hgd : o.guard = none) (s x : Operand)
    (ho : o.op = .call { callee := .builtin .append, args := #[s, x], argTypes := #[22, 3] })
    (n : Nat) (hs : a.eval s = .slice none 0 0) (hx : a.eval x = .int .i64 (n : Int)) (h0 : 0 < n) (hn : n ≤ 1099511627)
    (h : ∀ c w', w'.ownsRow w.heap.size 3 1 (.slice (some ⟨w.heap.size, 0, none⟩) 0 c) 0 (([] : List Int).map (Value.int .i64)) → Below w.heap.size w w' → wpList Try.prog ops Q rest (a.put o.dst (.slice (some ⟨w.heap.size, 0, none⟩) n c)) w') : wpList Try.prog ops Q (o :: rest) a w := by
  obtain ⟨i0, hi0, hz0, hz1, hz2⟩ := info_parts info3
  refine wpList_plain hgd fun K hK => ?_
  have hr := Lib.run_append_nil_zeros (P := Try.prog) w 22 3 o.type 3 i0 (.int .i64 0) .i64 .i64 Try.underlying22 Try.underlying3 hi0 hz0 n h0 (by omega) (by omega) (by rw [hz2]; omega)
  have hge := grownCap_ge w n 0 3
  have hle := grownCap_le_maxLen w n 0 3 (by unfold maxLen; omega)
  unfold Oper.wp execOp
  simp only [ho, resolve, invoke, builtin, Sem.run_bind, Sem.run_pure, Result.andThen_ok, List.map_toArray, List.map_cons, List.map_nil, hs, hx, hr]
  refine hK _ _ (h _ _ ⟨rfl, .inr ⟨w.heap.size, _, _, rfl, Nat.le_refl _, heap_alloc_new w.drew _, Nat.zero_le _, hle, ?_, rfl⟩⟩ ((below_drewN (Below.refl _ w) 1).alloc (Nat.le_refl _) _))
  rw [Array.size_append, size_zeroCells, size_zeroCells]
  show n * 1 + (grownCap w n 0 3 - n) * 1 = grownCap w n 0 3 * 1
  omega
set_option maxRecDepth 100000 in
set_option maxHeartbeats 1600000 in
theorem growNil (n : Nat) (w : World) (h0 : 0 < n) (hn : n ≤ 1099511627) :
    Calls Try.prog 59 #[.slice none 0 0, .int .i64 (n : Int)] w (GrAns w) := by
  have hw1 : IntKind.i64.wrap (n : Int) = (n : Int) := IntWalk.i64_in _ (by omega)
  have hw2 : IntKind.i64.wrap ((n : Int) - 0) = (n : Int) := by rw [Int.sub_zero]; exact hw1
  have hpos : (0 : Int) < (n : Int) := by omega
  have hneg : ¬ ((n : Int) < 0) := by omega
  go_enter Try.func59, Try.ntmps59
  go_wp2_with (at_builtin; go_must (refine wpAppZ rfl _ _ rfl n rfl rfl h0 hn ?_); intro c w' hown hb)
  go_ret
  exact ⟨_, rfl, hown, hb⟩

/-- A row behind a row of this call's own; the second one may be empty. -/
theorem wpAppA {w : World} {ops : Array Oper} {rest : List Oper} {o : Oper} {a : Act} {Q : Exit → Act → World → Prop} (hgd : o.guard = none) (s x : Operand)
    (ho : o.op = .call { callee := .builtin .append, args := #[s, x], argTypes := #[22, 22] })
    (base : Nat) (v : Value) (n : Nat) (xs ys : List Int) (hs : a.eval s = v) (hown : w.ownsRow base 3 1 v n (xs.map (Value.int .i64)))
    (b off m c : Nat) (hx : a.eval x = .slice (some ⟨b, off, none⟩) m c) (hm : ys.length = m) (hy : ∀ j, j < m → w.cell? ⟨b, off + j, none⟩ = some (.int .i64 (ys.getD j 0)))
    (hn : n ≤ 1099511627776) (hm2 : m ≤ 1099511627776) (hbase : base ≤ w.heap.size)
    (h : ∀ v' w', w'.ownsRow base 3 1 v' (n + m) ((xs ++ ys).map (Value.int .i64)) → w.grownBy w' v.ownBlock → wpList Try.prog ops Q rest (a.put o.dst v') w') : wpList Try.prog ops Q (o :: rest) a w := by
  obtain ⟨i0, hi, hz0, hz1, hz2⟩ := info_parts info3
  refine wpList_append_own _ hgd s x 22 ho base 3 i0 (.int .i64 0) 1 8 Try.underlying22 hi hz0 hz1 hz2 rfl (by decide) v n _ hs hown ⟨b, off, none⟩ m c (ys.map (Value.int .i64)) hx (by simpa using hm) ?_ ?_ (by unfold maxLen; omega) (by omega) hbase ?_
  · intro j u hj
    rw [List.getElem?_map] at hj
    cases hq : ys[j]? with
    | none => rw [hq] at hj; cases hj
    | some z =>
      rw [hq] at hj
      have hjl : j < ys.length := (List.getElem?_eq_some_iff.1 hq).1
      have := hy j (by omega)
      rw [List.getD_eq_getElem?_getD, hq] at this
      simp only [Option.map_some, Option.some.injEq] at hj
      rw [← hj, Addr.add_lit]; exact this
  · intro u hu
    obtain ⟨y, -, rfl⟩ := List.mem_map.1 hu
    rfl
  · intro v' w' h1 h2 _
    exact h v' w' (by simpa using h1) h2
theorem below_fresh8 (w : World) (o : Obj) : Below w.heap.size w (w.alloc o) := (Below.refl _ w).alloc (Nat.le_refl _) o
/-- v is a slice of the ints xs somewhere, at a flat address where it has any. -/
def FlatI (w : World) (v : Value) (xs : List Int) : Prop := ∃ (b off cap : Nat), v = .slice (some ⟨b, off, none⟩) xs.length cap ∧ b < w.heap.size ∧ ∀ j, j < xs.length → w.cell? ⟨b, off + j, none⟩ = some (.int .i64 (xs.getD j 0))
theorem FlatI.keep {w w' : World} {v : Value} {xs : List Int} {B : Nat} (h : FlatI w v xs) (hb : Below B w w') (hB : w.heap.size ≤ B) : FlatI w' v xs := by
  obtain ⟨b, off, cap, e, h1, h2⟩ := h
  exact ⟨b, off, cap, e, Nat.lt_of_lt_of_le h1 hb.size, fun j hj => (hb.cell (p := ⟨b, off + j, none⟩) (Nat.lt_of_lt_of_le h1 hB)).trans (h2 j hj)⟩
set_option maxRecDepth 100000 in
set_option maxHeartbeats 3200000 in
theorem concat2 (g cap : Nat) (u v : Value) (xs ys : List Int) (w : World) (hg : g < w.heap.size) (h0 : w.cell? ⟨g, 0, none⟩ = some u) (h1 : w.cell? ⟨g, 1, none⟩ = some v) (hu : FlatI w u xs) (hv : FlatI w v ys) (hx : 0 < xs.length + ys.length) (hl : xs.length + ys.length ≤ 1099511627) :
    Calls Try.prog 49 #[.slice (some ⟨g, 0, none⟩) 2 cap] w (AnsI (xs ++ ys) w) := by
  obtain ⟨bu, ou, cu, rfl, hbu, hcu⟩ := id hu
  obtain ⟨bv, ov, cv, rfl, hbv, hcv⟩ := id hv
  have HG := Lib.hid (growNil (xs.length + ys.length) w hx hl)
  rw [show (((xs.length + ys.length : Nat)) : Int) = (xs.length : Int) + (ys.length : Int) by omega] at HG
  have hw0 : IntKind.i64.wrap ((0 : Int) + (xs.length : Int)) = (xs.length : Int) := by rw [Int.zero_add]; exact IntWalk.i64_in _ (by omega)
  have hw0' : IntKind.i64.wrap (xs.length : Int) = (xs.length : Int) := IntWalk.i64_in _ (by omega)
  have hw1 : IntKind.i64.wrap ((xs.length : Int) + (ys.length : Int)) = (xs.length : Int) + (ys.length : Int) := IntWalk.i64_in _ (by omega)
  have hn0 : ¬ ((xs.length : Int) < 0) := by omega
  have hn1 : ¬ ((xs.length : Int) + (ys.length : Int) < 0) := by omega
  have HU := Lib.hid hcu
  have HV := Lib.hid hcv
  clear hu hv hcu hcv
  go_enter Try.func49, Try.ntmps49
  go_wp2
  refine wp_loop_rounds 3 ?_
  rw [rounds_succ]
  go_wp2
  rw [rounds_succ]
  go_wp2
  rw [rounds_succ]
  go_wp2_with fail
  (with_reducible refine HG.out.mono ?_)
  rintro e w1 ⟨vr, rfl, hown, hb⟩
  have z1 := hb.size
  have HOWN := Lib.hid hown
  have HB := Lib.hid hb
  have k0 := (hb.cell (p := ⟨g, 0, none⟩) hg).trans h0
  have k1 := (hb.cell (p := ⟨g, 1, none⟩) hg).trans h1
  have hrB := World.ownsRow.lt hown
  clear hown hb h0 h1
  go_wp2
  refine wp_loop_rounds 3 ?_
  rw [rounds_succ]
  go_wp2_with (at_builtin; go_must (refine wpAppA rfl _ _ rfl w.heap.size vr 0 [] xs rfl HOWN.out bu ou xs.length cu rfl rfl (fun j hj => (HB.out.cell (p := ⟨bu, ou + j, none⟩) hbu).trans (HU.out j hj)) (by omega) (by omega) z1 ?_); intro v2 w2 hown2 hg2; have HOWN2 := Lib.hid hown2; have HG2 := Lib.hid hg2; clear hown2 hg2)
  have HB2 := Lib.hid (HB.out.grown HG2.out z1 (fun k hk => (hrB k hk).1))
  have z2 := HB2.out.size
  have k2 := (HG2.out.cell k1 (fun e => by have := (hrB _ e.symm).1; simp at this; omega))
  have hrB2 := World.ownsRow.lt HOWN2.out
  clear k0 k1
  rw [rounds_succ]
  go_wp2_with (at_builtin; go_must (refine wpAppA rfl _ _ rfl w.heap.size v2 (0 + xs.length) ([] ++ xs) ys rfl HOWN2.out bv ov ys.length cv rfl rfl (fun j hj => (HB2.out.cell (p := ⟨bv, ov + j, none⟩) hbv).trans (HV.out j hj)) (by omega) (by omega) z2 ?_); intro v3 w3 hown3 hg3; have HOWN3 := Lib.hid hown3; have HG3 := Lib.hid hg3; clear hown3 hg3)
  rw [rounds_succ]
  go_wp2
  go_ret
  exact ⟨_, rfl, OwnI.of_row (by simpa using HOWN3.out), HB2.out.grown HG3.out z2 (fun k hk => (hrB2 k hk).1)⟩

theorem cat_at (W : World) (b : Nat) (hb : b = W.heap.size) (u v : Value) (xs ys : List Int) (hu : FlatI W u xs) (hv : FlatI W v ys) (hx : 0 < xs.length + ys.length) (hl : xs.length + ys.length ≤ 1099511627) (t : TypeId) :
    Calls Try.prog 49 #[.slice (some ⟨b, 0, none⟩) 2 2] (W.alloc (.cells #[u, v] t)) (AnsI (xs ++ ys) (W.alloc (.cells #[u, v] t))) := by
  subst hb
  have hal := below_fresh8 W (.cells #[u, v] t)
  exact concat2 W.heap.size 2 u v xs ys _ (by simp) (by rw [World.cell?_alloc_at _ _ _ _ rfl]; rfl) (by rw [World.cell?_alloc_at _ _ _ _ rfl]; rfl) (hu.keep hal (Nat.le_refl _)) (hv.keep hal (Nat.le_refl _)) hx hl
theorem run_fromI (w : World) (g n len cap : Nat) (hn : n ≤ len) (hc : n < cap) : (Instr.slice 22 (.slice (some ⟨g, 0, none⟩) len cap) (some (.int .i64 (n : Int))) none none).run Try.prog w = .ok (.slice (some ⟨g, n, none⟩) (len - n) (cap - n)) w := by
  obtain ⟨i0, hi, -, -, -⟩ := info_parts info3
  have he : Try.prog.elem 22 = 3 := by kernel_rfl
  have hcc : Try.prog.cellsOf 3 = 1 := by kernel_rfl
  have hu : Try.prog.underlying 22 = some (.slice (Try.prog.elem 22)) := by rw [he]; exact Try.underlying22
  rw [run_slice_l w _ _ len cap hu .i64 (n : Int) (by omega) (by omega), he, run_sizeOf w hi, hcc]
  have h1 : ¬ cap = n := by omega
  simp [sliced, Result.andThen, Addr.add_lit, h1]
theorem tp_ca {w W w' : World} (hb : Below W.heap.size W w') (h : Below w.heap.size w W) : Below w.heap.size w w' := h.trans (hb.mono h.size)
set_option maxRecDepth 100000 in
set_option maxHeartbeats 3200000 in
theorem turnPartitionI (A : Option Addr) (xs : List Int) (cap lo hi : Nat) (w : World) (hv : OwnI w lo hi (.slice A xs.length cap) xs) (hhi : hi ≤ w.heap.size) (hcap : xs.length ≤ cap) (hwf : ∀ y ∈ xs, (Lit.int .i64 y).wf = true) (hl : xs.length ≤ 1099511) :
    Calls Try.prog 33 #[.slice A xs.length cap] w (AnsIB (turnP xs) (prtB xs) w) := by
  have HM := Lib.hid (isPartitionI A xs cap lo hi w hv hhi hwf)
  have HV := Lib.hid hv
  rcases hp : prtB xs with _ | _
  · have HP := Lib.hid (show turnP xs = [] from if_neg (by rw [hp]; simp))
    rw [hp] at HM
    clear hp hv
    go_enter Try.func33, Try.ntmps33
    go_wp2_with fail
    (with_reducible refine HM.out.mono ?_)
    rintro e w1 ⟨rfl, hb⟩
    go_wp2
    go_ret2
    exact ⟨_, rfl, by rw [HP.out]; exact ⟨none, 0, rfl, .inl rfl⟩, hb⟩
  by_cases h0 : xs.length = 0
  · have HP := Lib.hid (show turnP xs = [] by unfold turnP; rw [if_pos hp, if_pos h0])
    have hb0 : ((xs.length : Int) == 0) = true := by simp [h0]
    rw [hp] at HM
    clear hp hv h0
    go_enter Try.func33, Try.ntmps33
    go_wp2_with fail
    (with_reducible refine HM.out.mono ?_)
    rintro e w1 ⟨rfl, hb⟩
    go_wp2
    go_ret2
    exact ⟨_, rfl, by rw [HP.out]; exact ⟨none, 0, rfl, .inl rfl⟩, hb⟩
  · have h8 := (prt_yes hp).1
    have HP := Lib.hid (show turnP xs = rnO (turnL xs) xs.length by unfold turnP; rw [if_pos hp, if_neg h0])
    have hb0 : ((xs.length : Int) == 0) = false := beq_eq_false_iff_ne.2 (by omega)
    obtain ⟨n, hn⟩ : ∃ n, xs.length = n + 1 := ⟨xs.length - 1, by omega⟩
    have HN := Lib.hid hn
    obtain ⟨g, c, e', hg1, hg2, hcl, -⟩ := hv.cell (j := n) (by omega)
    simp only [Value.slice.injEq] at e'
    obtain ⟨rfl, -, rfl⟩ := e'
    have hsub : IntKind.i64.wrap ((xs.length : Int) - 1) = (n : Int) := by rw [IntWalk.i64_in _ (by omega)]; omega
    have hni : (n : Int) ≤ (xs.length : Int) := by omega
    have hnc : (n : Int) ≤ (cap : Int) := by omega
    have hn0 : (0 : Int) ≤ (n : Int) := by omega
    have hln : xs.length - n = 1 := by omega
    have HTL := Lib.hid (show turnL xs = [xs.getD n 0] ++ xs.take n by unfold turnL; rw [hn]; rfl)
    have htl : (xs.take n).length = n := by rw [List.length_take]; omega
    have HFU := Lib.hid (fun (W : World) (ho : OwnI W lo hi (.slice (some ⟨g, 0, none⟩) xs.length cap) xs) (hh : hi ≤ W.heap.size) => show FlatI W (.slice (some ⟨g, n, none⟩) 1 (cap - n)) [xs.getD n 0] by
      obtain ⟨g', c', e', -, h2, hc, -⟩ := ho.cell (j := n) (by omega)
      simp only [Value.slice.injEq, Option.some.injEq, Addr.mk.injEq] at e'
      obtain ⟨⟨rfl, -⟩, -, -⟩ := e'
      refine ⟨g, n, cap - n, rfl, by omega, fun j hj => ?_⟩
      obtain rfl : j = 0 := by simpa using hj
      exact hc)
    have HFV := Lib.hid (fun (W : World) (ho : OwnI W lo hi (.slice (some ⟨g, 0, none⟩) xs.length cap) xs) (hh : hi ≤ W.heap.size) => show FlatI W (.slice (some ⟨g, 0, none⟩) n cap) (xs.take n) by
      obtain ⟨g', c', e', -, h2, -, -⟩ := ho.cell (j := n) (by omega)
      simp only [Value.slice.injEq, Option.some.injEq, Addr.mk.injEq] at e'
      obtain ⟨⟨rfl, -⟩, -, -⟩ := e'
      refine ⟨g, 0, cap, by rw [htl], by omega, fun j hj => ?_⟩
      rw [htl] at hj
      obtain ⟨g', c', e', -, -, hc, -⟩ := ho.cell (j := j) (by omega)
      simp only [Value.slice.injEq, Option.some.injEq, Addr.mk.injEq] at e'
      obtain ⟨⟨rfl, -⟩, -, -⟩ := e'
      rw [Nat.zero_add, hc, List.getD_eq_getElem?_getD, List.getD_eq_getElem?_getD, List.getElem?_take, if_pos hj])
    have HRT := Lib.hid (turnL_len (xs := xs) (by omega))
    have hwl : ∀ y ∈ turnL xs, (Lit.int .i64 y).wf = true := by
      intro y hy
      rw [HTL.out] at hy
      rcases List.mem_append.1 hy with h | h
      · rw [List.mem_singleton.1 h, List.getD_eq_getElem?_getD, List.getElem?_eq_getElem (show n < xs.length by omega)]
        exact hwf _ (List.getElem_mem _)
      · exact hwf y (List.mem_of_mem_take h)
    have HRB := Lib.hid (fun (W : World) (A' : Option Addr) (cap' lo' hi' : Nat) (ho : OwnI W lo' hi' (.slice A' (turnL xs).length cap') (turnL xs)) (hh : hi' ≤ W.heap.size) => renumberBlocksI A' (turnL xs) cap' lo' hi' W ho hh hwl)
    have HRP := Lib.hid (show renP (turnL xs) = rnO (turnL xs) xs.length ∧ renOk (turnL xs) = true by
      unfold renP renOk
      rw [HRT.out, if_pos h8]
      exact ⟨rfl, decide_eq_true h8⟩)
    rw [hp] at HM
    clear hp hv h0 hn hcl hwl
    go_enter Try.func33, Try.ntmps33
    go_wp2_with fail
    (with_reducible refine HM.out.mono ?_)
    rintro e w1 ⟨rfl, hb⟩
    have z1 := hb.size
    have HB1 := Lib.hid hb
    have HO1 := Lib.hid (HV.out.keep hb hhi)
    clear hb
    have hrf := fun W => run_fromI W g n xs.length cap (by omega) (by omega)
    rw [hln] at hrf
    have hh1 : hi ≤ w1.heap.size := by omega
    have hsum : [xs.getD n 0].length + (xs.take n).length = n + 1 := by rw [htl, List.length_singleton]; omega
    have HC1 := Lib.hid (cat_at w1.drew w1.heap.size rfl (.slice (some ⟨g, n, none⟩) 1 (cap - n)) (.slice (some ⟨g, 0, none⟩) n cap) [xs.getD n 0] (xs.take n) (HFU.out _ HO1.out hh1) (HFV.out _ HO1.out hh1) (by rw [hsum]; omega) (by rw [hsum]; omega) 22)
    rw [← HTL.out] at HC1
    have HC2 := Lib.hid (show Calls Try.prog 49 #[.slice (some ⟨w1.heap.size, 0, none⟩) 2 2] ((w1.alloc (.cells #[.slice (some ⟨g, n, none⟩) 1 (cap - n), .slice (some ⟨g, 0, none⟩) n cap] 22)).drew) (AnsI (turnL xs) ((w1.alloc (.cells #[.slice (some ⟨g, n, none⟩) 1 (cap - n), .slice (some ⟨g, 0, none⟩) n cap] 22)).drew)) from HC1.out)
    clear hsum HFU HFV
    go_wp2
    go_region_held3 (fun w' => Below w1.heap.size w1 w')
      (first | (with_reducible exact Below.refl _ _) | (with_reducible exact below_drewN (Below.refl _ _) 1) | (with_reducible exact Below.alloc (below_drewN (Below.refl _ _) 1) (Nat.le_refl _) _) | (with_reducible exact tp_ca (by assumption) (by assumption)) | exact below_drewN (Below.refl _ _) 1 | exact below_drewN ((Below.refl _ w1).alloc (Nat.le_refl _) _) 1 | exact (below_drewN (Below.refl _ w1) 1).alloc (Nat.le_refl _) _)
      (first | (go_at_call 49; (first | (with_reducible refine HC1.out.mono ?_) | (with_reducible refine HC2.out.mono ?_)); rintro e w6 ⟨u6, rfl, ho6, hb6⟩; obtain ⟨A6, c6, rfl, -⟩ := id ho6; have HO6 := Lib.hid ho6; clear ho6) | (go_at_call 29; (with_reducible refine (HRB.out _ A6 c6 _ _ HO6.out (Nat.le_refl _)).mono ?_); rintro e w7 ⟨u7, rfl, ho7, hb7⟩; have HO7 := Lib.hid ho7; clear ho7))
    all_goals
      have hz6 : w.heap.size ≤ w6.heap.size := by
        have := hb6.size
        simp at this
        omega
      have HOX : OwnI w7 w.heap.size w7.heap.size u7 (turnP xs) := by
        have h := HO7.out
        rw [HRP.out.1, ← HP.out] at h
        exact h.wide hz6 (Nat.le_refl _)
      have HBX := Lib.hid (HB1.out.trans ((‹Below w1.heap.size w1 w7› : Below w1.heap.size w1 w7).mono z1))
    all_goals go_wp2
    all_goals go_ret2
    all_goals exact ⟨_, ret_vb8 rfl HRP.out.2, HOX, HBX.out⟩

end Go.Proofs.Ytniddpplmdbcmaa
