/- Two arrays of bytes compared. The contract of the program's NextPath. The contracts of the program's firstPath and PathsOf. The program's listPaths and PathsOf (since stage 14). -/
import Derived.Test.YtknojbcpjjhegaaRows
import Derived.WalkKit
import Derived.ProofKit
import Derived.Below
import Derived.Laws.StructEq
import Derived.Test.YtknojbcpjjhegaaImpl3N
import Derived.Laws.BytesArg
import Derived.Test.YtknojbcpjjhegaaSpec3F
import Derived.Deep.LoopGhost
namespace Go.Proofs.Ytknojbcpjjhegaa
section SArr16
open Go.ChangeShapes Go.WideShapes Go.ChangeAt Go.RowKit
theorem cell16 (cs : Array Value) (v : Value) (q : Nat) (hv : cs[q]? = some v) (w : World) : (part 5 cs q).run Try.prog w = .ok v w := by
  simp [part, Try.isAgg5, hv, Sem.run_bind, go_sem]
theorem eqInt (d : Nat) (a b : Int) (w : World) : (Op.equalIn (d + 1) 5 (.int .u8 a) (.int .u8 b)).run Try.prog w = .ok (a == b) w := run_equalIn_int w d 5 .u8 .u8 a b Try.underlying5
theorem eqL (d : Nat) (xs ys : Array Value) (w : World) (f g : Nat → Int) (L : List Nat) (hx : ∀ q ∈ L, xs[q]? = some (.int .u8 (f q))) (hy : ∀ q ∈ L, ys[q]? = some (.int .u8 (g q))) :
    (forIn (m := Sem) L ((none : Option Bool), ()) fun i __s => do
            let __do_lift ← part 5 xs i
            let __do_lift_1 ← part 5 ys i
            let __do_lift ← Op.equalIn (d + 1) 5 __do_lift __do_lift_1
            if __do_lift = false then pure (ForInStep.done (some false, ())) else pure (ForInStep.yield (none, ()))).run Try.prog w =
      .ok (if (L.all fun q => f q == g q) = true then (none, ()) else (some false, ())) w := by
  induction L with
  | nil => simp
  | cons q L ih =>
    have h1 := cell16 xs _ q (hx q (by simp)) w
    have h2 := cell16 ys _ q (hy q (by simp)) w
    have ih' := ih (fun p hp => hx p (by simp [hp])) (fun p hp => hy p (by simp [hp]))
    rw [List.forIn_cons]
    by_cases e : f q = g q
    · simp only [Sem.run_bind, h1, h2, Result.andThen_ok, eqInt, e, List.all_cons, beq_self_eq_true, Bool.true_and]
      simp only [Bool.true_eq_false, if_false, Sem.run_pure, Result.andThen_ok]
      exact ih'
    · have e' : (f q == g q) = false := by simp [e]
      simp only [Sem.run_bind, h1, h2, Result.andThen_ok, eqInt, e', List.all_cons, Bool.false_and]
      simp
theorem eq16 (d : Nat) (xs ys : Array Value) (w : World) (f g : Nat → Int) (hx : ∀ q, q < 16 → xs[q]? = some (.int .u8 (f q))) (hy : ∀ q, q < 16 → ys[q]? = some (.int .u8 (g q))) :
    (Op.equalIn (d + 2) 160 (.agg xs) (.agg ys)).run Try.prog w = .ok ((List.range' 0 16).all fun q => f q == g q) w := by
  have hz := Try.sizeOf5
  have hL := eqL d xs ys w f g (List.range' 0 16) (fun q hq => hx q (by simp [List.mem_range'] at hq; omega)) (fun q hq => hy q (by simp [List.mem_range'] at hq; omega))
  rw [Op.equalIn]
  simp only [Sem.run_bind, run_underlying Try.underlying160, Result.andThen_ok, hz]
  simp only [Std.Legacy.Range.forIn_eq_forIn_range', Std.Legacy.Range.size]
  simp only [Nat.mul_one, Bool.not_eq_true', Nat.sub_zero, Nat.reduceAdd, Nat.reduceSub, Nat.div_one]
  rw [hL]
  simp only [Result.andThen_ok]
  cases (List.range' 0 16).all fun q => f q == g q <;> rfl
theorem eqlArr (xs ys : Array Value) (w : World) (f g : Nat → Int) (hx : ∀ q, q < 16 → xs[q]? = some (.int .u8 (f q))) (hy : ∀ q, q < 16 → ys[q]? = some (.int .u8 (g q))) :
    (binOp .eql 160 (.agg xs) (.agg ys)).run Try.prog w = .ok (.bool ((List.range' 0 16).all fun q => f q == g q)) w := by
  rw [run_eql_struct, show (10000 : Nat) = 9998 + 2 from rfl, eq16 9998 xs ys w f g hx hy]
  rfl
end SArr16

section SImpl3Q
open Go.ChangeShapes Go.WideShapes Go.ChangeAt Go.RowKit
set_option linter.unusedVariables false

theorem nx_ne : ∀ (l : List UInt8) (u d : Nat) (x : List UInt8), nxL l u d = some x → x ≠ l := by
  intro l
  induction l with
  | nil => intro u d x h; rw [nxL] at h; cases h
  | cons c l ih =>
    intro u d x h
    by_cases e : c.toNat = 117
    · rw [nxL_up _ _ _ _ e] at h
      rcases hx : nxL l (u - 1) d with _ | y
      · rw [hx] at h
        by_cases hlt : u < d
        · simp only [hlt, if_true, Option.some.injEq] at h
          subst h
          intro hh
          simp only [List.cons.injEq] at hh
          rw [← hh.1] at e
          exact absurd e (by decide)
        · simp [hlt] at h
      · rw [hx] at h
        simp only [Option.some.injEq] at h
        subst h
        intro hh
        simp only [List.cons.injEq] at hh
        exact ih _ _ _ hx hh.2
    · rw [nxL_down _ _ _ _ e] at h
      rcases hx : nxL l u (d - 1) with _ | y
      · rw [hx] at h; cases h
      · rw [hx] at h
        simp only [Option.some.injEq] at h
        subst h
        intro hh
        simp only [List.cons.injEq] at hh
        exact ih _ _ _ hx hh.2
theorem nx_len : ∀ (l : List UInt8) (h u d : Nat) (x : List UInt8), ends h u d l → nxL l u d = some x → x.length = l.length := by
  intro l
  induction l with
  | nil => intro h u d x _ hx; rw [nxL] at hx; cases hx
  | cons c l ih =>
    intro h u d x he hx
    have hlen := he.2.2
    by_cases e : c.toNat = 117
    · obtain ⟨h1, h2⟩ := ends_up he e
      rw [nxL_up _ _ _ _ e] at hx
      rcases hy : nxL l (u - 1) d with _ | y
      · rw [hy] at hx
        by_cases hlt : u < d
        · simp only [hlt, if_true, Option.some.injEq] at hx
          subst hx
          rw [List.length_cons, frL_len]
          rw [List.length_cons] at hlen ⊢
          omega
        · simp [hlt] at hx
      · rw [hy] at hx
        simp only [Option.some.injEq] at hx
        subst hx
        rw [List.length_cons, List.length_cons, ih _ _ _ _ h2 hy]
    · obtain ⟨h1, h2, h3⟩ := ends_down he e
      rw [nxL_down _ _ _ _ e] at hx
      rcases hy : nxL l u (d - 1) with _ | y
      · rw [hy] at hx; cases hx
      · rw [hy] at hx
        simp only [Option.some.injEq] at hx
        subst hx
        rw [List.length_cons, List.length_cons, ih _ _ _ _ h3 hy]
theorem next_none {s : ByteArray} (hd : dyck s = true) (h : nxL (rest s 0) (cU (rest s 0)) (cD (rest s 0)) = none) : nextOk s = false ∧ nextP s = ⟨#[]⟩ ∧ nxS s = s.data.toList := by
  obtain ⟨c1, c2⟩ := c_start hd
  have h16 := dyck_size hd
  have hx : nxS s = s.data.toList := by unfold nxS; rw [h]; rfl
  rw [c1, c2] at h
  have hr := (nx_rank _ _ _ _ (ends_start hd) (by omega) (by omega)).1 h
  have hrk : rankP s = rkL (rest s 0) (s.size / 2) (s.size / 2) := if_pos hd
  have hno := unr_no (n := ((s.size / 2 : Nat) : Int)) (k := rankP s + 1) (fun hg => by
    have := hg.2.2.2
    rw [hrk] at this
    simp only [Int.toNat_natCast] at this
    omega)
  exact ⟨by unfold nextOk; rw [if_pos hd]; exact hno.1, by unfold nextP; rw [if_pos hd]; exact hno.2, hx⟩
theorem next_some {s : ByteArray} {x : List UInt8} (hd : dyck s = true) (h : nxL (rest s 0) (cU (rest s 0)) (cD (rest s 0)) = some x) : nextOk s = true ∧ nextP s = ⟨x.toArray⟩ ∧ nxS s = x ∧ x ≠ s.data.toList ∧ x.length = s.size := by
  obtain ⟨c1, c2⟩ := c_start hd
  have h16 := dyck_size hd
  have hx : nxS s = x := by unfold nxS; rw [h]; rfl
  have hne := nx_ne _ _ _ _ h
  rw [c1, c2] at h
  have hl := nx_len _ _ _ _ _ (ends_start hd) h
  obtain ⟨r1, r2⟩ := (nx_rank _ _ _ _ (ends_start hd) (by omega) (by omega)).2 x h
  have hrk : rankP s = rkL (rest s 0) (s.size / 2) (s.size / 2) := if_pos hd
  have h0 := (rankP_bd hd).1
  have hyes := unr_yes (n := ((s.size / 2 : Nat) : Int)) (k := rankP s + 1) ⟨by omega, by omega, by omega, by simp only [Int.toNat_natCast]; rw [hrk]; exact r1⟩
  refine ⟨by unfold nextOk; rw [if_pos hd]; exact hyes.1, ?_, hx, hne, by rw [hl, rest_zero]; simp⟩
  unfold nextP
  rw [if_pos hd, hyes.2]
  simp only [Int.toNat_natCast]
  rw [hrk, r2]
theorem first_row {s : ByteArray} (h16 : s.size ≤ 16) : ((cells16 []).toList.take 0 ++ Lib.byteCells s.data.toList ++ (cells16 []).toList.drop (0 + s.size)).toArray = cells16 s.data.toList := by
  have hS : s.data.toList.length = s.size := by simp
  have hlb := Lib.byteCells_length s.data.toList
  have hc := cells16_size []
  apply cells16_eq
  · simp [Lib.byteCells_length, hc]; omega
  · intro q hq
    rw [List.getElem?_toArray, List.take_zero, List.nil_append]
    by_cases h : q < s.size
    · rw [List.getElem?_append_left (by omega)]
      unfold Lib.byteCells lrow
      rw [List.getElem?_map, List.getD_eq_getElem?_getD, List.getElem?_eq_getElem (by omega)]
      rfl
    · rw [List.getElem?_append_right (by omega), List.getElem?_drop, hlb, hS, show 0 + s.size + (q - s.size) = q by omega, Array.getElem?_toList, cells16_get _ _ hq]
      congr 2
      unfold lrow
      rw [List.getD_eq_getElem?_getD, List.getD_eq_getElem?_getD, List.getElem?_eq_none (by simp), List.getElem?_eq_none (by omega)]
theorem all_same (l : List UInt8) : ((List.range' 0 16).all fun q => lrow l q == lrow l q) = true := by simp
theorem all_other {x l : List UInt8} (hne : x ≠ l) (h1 : x.length = l.length) (h2 : l.length ≤ 16) : ((List.range' 0 16).all fun q => lrow x q == lrow l q) = false := by
  rw [Bool.eq_false_iff]
  intro h
  apply hne
  rw [List.all_eq_true] at h
  apply List.ext_getElem h1
  intro i hi hi'
  have := h i (by simp [List.mem_range']; omega)
  simp only [beq_iff_eq, lrow] at this
  rw [List.getD_eq_getElem?_getD, List.getD_eq_getElem?_getD, List.getElem?_eq_getElem hi, List.getElem?_eq_getElem hi'] at this
  simp only [Option.getD_some] at this
  exact UInt8.toNat_inj.1 (by omega)
theorem out_str {x : List UInt8} : strOfNums ((List.range x.length).map (lrow x)) = ⟨x.toArray⟩ := by
  unfold strOfNums
  congr 2
  apply List.ext_getElem (by simp)
  intro i h1 h2
  simp [lrow, h2]
theorem TabL.conv {w : World} {g n : Nat} {x : List UInt8} (h : TabL w g x) (hl : x.length = n) (hn : n ≤ 16) (c : Nat) : (convert 22 9 (.slice (some ⟨g, 0, none⟩) n c)).run Try.prog w = .ok (.string ⟨x.toArray⟩) w := by
  rw [← out_str, hl]
  refine run_convert_bytes_arg w 22 5 Try.underlying22 Try.underlying5 g 0 n c _ (by simp) (fun i hi => ?_) 9 Try.underlying9
  rw [Nat.zero_add, (h.cell (by omega)).1]
  simp [List.getD, hi]

set_option maxRecDepth 100000 in
set_option maxHeartbeats 3200000 in
theorem nextPathI (s : ByteArray) (w : World) : Calls Try.prog 133 #[.string s] w fun e w' => e = .returned (.tuple #[.string (nextP s), .bool (nextOk s)]) ∧ Below w.heap.size w w' := by
  rcases hd : dyck s with _ | _
  · have HP := Lib.hid (show nextOk s = false ∧ nextP s = ⟨#[]⟩ by unfold nextOk nextP; rw [hd]; exact ⟨rfl, rfl⟩)
    have HD := Lib.hid hd
    clear hd
    go_enter Try.func133, Try.ntmps133
    go_wp2_with fail
    (with_reducible refine (isDyckI_no s _ HD.out).mono ?_)
    rintro e w' ⟨rfl, hb⟩
    go_wp2
    go_ret2
    exact ⟨ret_sb HP.out.2.symm HP.out.1.symm, hb⟩
  · have HD := Lib.hid hd
    have h16 := dyck_size hd
    have hz := zeroL
    have HFR := Lib.hid (first_row h16)
    have HC0 := Lib.hid (cells16_size [])
    have HC1 := Lib.hid (cells16_size s.data.toList)
    clear hd
    generalize hzz : cells16 [] = zz at hz HFR HC0
    have HZZ := Lib.hid hzz
    clear hzz
    go_enter Try.func133, Try.ntmps133
    go_wp2_with fail
    (with_reducible refine (isDyckI_yes s _ HD.out).mono ?_)
    rintro e w1 ⟨rfl, hb⟩
    have HB1 := Lib.hid hb
    have z1 := hb.size
    clear hb
    have hg0 : (w1.alloc (.cells zz 160)).heap[w1.heap.size]? = some (.cells zz 160 (0, 0)) := heap_alloc_new w1 _
    have hcopy : (Builtin.copy_ #[22, 9] 3 #[.slice (some ⟨w1.heap.size, 0, none⟩) 16 16, .string s]).run Try.prog (w1.alloc (.cells zz 160)) = .ok (goInt s.size) ((w1.alloc (.cells zz 160)).setRow w1.heap.size (cells16 s.data.toList)) := by
      have h := Lib.run_copy_row_string (P := Try.prog) (w1.alloc (.cells zz 160)) 22 9 3 5 w1.heap.size 0 16 16 s zz 160 Try.underlying22 (by kernel_rfl) hg0 h16 (by rw [HC0.out]; omega)
      rw [h, HFR.out]
    have hBW := Lib.hid (below_setRow (HB1.out.alloc z1 (.cells zz 160)) z1 (cells16 s.data.toList))
    have hGW := Lib.hid (setRow_heap _ w1.heap.size zz (cells16 s.data.toList) _ (0, 0) hg0)
    have hZW := Lib.hid (show ((w1.alloc (.cells zz 160)).setRow w1.heap.size (cells16 s.data.toList)).heap.size = w1.heap.size + 1 by simp)
    have hNL := Lib.hid (fun w => nextLetters s w HD.out)
    have HONE := Lib.hid (cells16_one (nxS s))
    have HX0 := Lib.hid (cells16_size (nxS s))
    have HCMP := Lib.hid (fun w : World => eqlArr (cells16 (nxS s)) (cells16 s.data.toList) w (lrow (nxS s)) (lrow s.data.toList) (fun q hq => cells16_get _ q hq) (fun q hq => cells16_get _ q hq))
    have HTL := Lib.hid (show ∀ (w : World) (g : Nat), w.heap[g]? = some (.cells (cells16 (nxS s)) 160 (0, 0)) → TabL w g (nxS s) from fun _ _ h => h)
    clear hg0
    generalize cells16 s.data.toList = cs at *
    generalize cells16 (nxS s) = xs at *
    generalize (w1.alloc (.cells zz 160)).setRow w1.heap.size cs = W2 at *
    go_wp2_with (refine wpList_load_row rfl _ _ rfl w1.heap.size rfl 160 cs (0, 0) _ hGW.out Try.underlying160 rfl (by rw [HC1.out]; exact sizeL) ?_)
    clear hcopy
    refine (hNL.out _).mono ?_
    rintro e w3 ⟨rfl, hb⟩
    have HB3 := Lib.hid (hBW.out.trans (hb.mono (by rw [hZW.out]; omega)))
    have HG3 := Lib.hid ((hb.block w1.heap.size (by rw [hZW.out]; omega)).trans hGW.out)
    have hlt3 : w1.heap.size < w3.heap.size := by have := hb.size; rw [hZW.out] at this; omega
    clear hb
    have HZ3 := Lib.hid (show (w3.alloc (.cells zz 160)).heap[w3.heap.size]? = some (.cells zz 160 (0, 0)) from heap_alloc_new w3 _)
    have HG4 := Lib.hid (show ((w3.alloc (.cells zz 160)).setRow w3.heap.size xs).heap[w1.heap.size]? = some (.cells cs 160 (0, 0)) by
      rw [setRow_other _ _ _ _ (by omega), Lib.alloc_old _ _ _ hlt3]; exact HG3.out)
    have HX4 := Lib.hid (setRow_heap _ w3.heap.size zz xs _ (0, 0) HZ3.out)
    have HB4 := Lib.hid (below_setRow (HB3.out.alloc (by omega) (.cells zz 160)) (show w.heap.size ≤ w3.heap.size by omega) xs)
    have hT4 := HTL.out _ _ HX4.out
    rcases hnx : nxL (rest s 0) (cU (rest s 0)) (cD (rest s 0)) with _ | x
    · obtain ⟨n1, n2, n3⟩ := next_none HD.out hnx
      have HN := Lib.hid (And.intro n1 n2)
      have hcmp := HCMP.out
      rw [n3, all_same] at hcmp
      clear n1 n2 n3 hnx hT4
      go_wp2_with (first
        | (refine wpList_store_row rfl _ _ _ rfl w3.heap.size xs rfl rfl 160 zz HZ3.out (by rw [HX0.out]; exact sizeL) (by rw [HC0.out, HX0.out]) HONE.out ?_)
        | (refine wpList_load_row rfl _ _ rfl w3.heap.size rfl 160 xs (0, 0) _ HX4.out Try.underlying160 rfl (by rw [HX0.out]; exact sizeL) ?_)
        | (refine wpList_load_row rfl _ _ rfl w1.heap.size rfl 160 cs (0, 0) _ HG4.out Try.underlying160 rfl (by rw [HC1.out]; exact sizeL) ?_))
      go_ret2
      exact ⟨ret_sb HN.out.2.symm HN.out.1.symm, HB4.out⟩
    · obtain ⟨n1, n2, n3, n4, n5⟩ := next_some HD.out hnx
      have HN := Lib.hid (And.intro n1 n2)
      have hcmp := HCMP.out
      rw [n3, all_other n4 (by rw [n5]; simp) (by simpa using h16)] at hcmp
      rw [n3] at hT4
      have hcv := hT4.conv n5 h16 16
      have hs16 : (s.size : Int) ≤ 16 := by omega
      clear n1 n2 n3 n4 n5 hnx hT4
      go_wp2_with (first
        | (refine wpList_store_row rfl _ _ _ rfl w3.heap.size xs rfl rfl 160 zz HZ3.out (by rw [HX0.out]; exact sizeL) (by rw [HC0.out, HX0.out]) HONE.out ?_)
        | (refine wpList_load_row rfl _ _ rfl w3.heap.size rfl 160 xs (0, 0) _ HX4.out Try.underlying160 rfl (by rw [HX0.out]; exact sizeL) ?_)
        | (refine wpList_load_row rfl _ _ rfl w1.heap.size rfl 160 cs (0, 0) _ HG4.out Try.underlying160 rfl (by rw [HC1.out]; exact sizeL) ?_))
      go_ret2
      exact ⟨ret_sb HN.out.2.symm HN.out.1.symm, HB4.out⟩
end SImpl3Q

section SImpl3R0
open Go.ChangeShapes Go.WideShapes Go.ChangeAt Go.RowKit
set_option linter.unusedVariables false

theorem ends_cons_up {h u d : Nat} {l : List UInt8} (he : ends (h + 1) u d l) : ends h (u + 1) d (117 :: l) := by
  obtain ⟨h1, h2, h3⟩ := he
  exact ⟨by rw [df_up _ _ _ rfl]; exact h1, by omega, by rw [List.length_cons]; omega⟩
theorem ends_cons_down {h u d : Nat} {l : List UInt8} (he : ends h u d l) : ends (h + 1) u (d + 1) (100 :: l) := by
  obtain ⟨h1, h2, h3⟩ := he
  exact ⟨by rw [df_down _ _ _ rfl]; exact h1, by omega, by rw [List.length_cons]; omega⟩
theorem frL_ends : ∀ (u d h : Nat), h + u = d → ends h u d (frL u d) := by
  intro u
  induction u with
  | zero =>
    intro d
    induction d with
    | zero =>
      intro h hh
      obtain rfl : h = 0 := by omega
      exact ⟨rfl, rfl, rfl⟩
    | succ d ih =>
      intro h hh
      obtain rfl : h = d + 1 := by omega
      rw [frL_none]
      exact ends_cons_down (ih d (by omega))
  | succ u ih =>
    intro d h hh
    rw [frL_up]
    exact ends_cons_up (ih d (h + 1) (by omega))
theorem nx_ends : ∀ (l : List UInt8) (h u d : Nat) (x : List UInt8), ends h u d l → nxL l u d = some x → ends h u d x := by
  intro l
  induction l with
  | nil => intro h u d x _ hx; rw [nxL] at hx; cases hx
  | cons c l ih =>
    intro h u d x he hx
    have hhu := he.2.1
    by_cases e : c.toNat = 117
    · obtain ⟨h1, h2⟩ := ends_up he e
      obtain ⟨u, rfl⟩ : ∃ k, u = k + 1 := ⟨u - 1, by omega⟩
      rw [nxL_up _ _ _ _ e] at hx
      rcases hy : nxL l (u + 1 - 1) d with _ | y
      · rw [hy] at hx
        by_cases hlt : u + 1 < d
        · simp only [hlt, if_true, Option.some.injEq] at hx
          subst hx
          obtain ⟨d, rfl⟩ : ∃ k, d = k + 1 := ⟨d - 1, by omega⟩
          obtain ⟨h, rfl⟩ : ∃ k, h = k + 1 := ⟨h - 1, by omega⟩
          exact ends_cons_down (frL_ends _ _ _ (by omega))
        · simp [hlt] at hx
      · rw [hy] at hx
        simp only [Option.some.injEq] at hx
        subst hx
        exact ends_cons_up (ih _ _ _ _ h2 hy)
    · obtain ⟨h1, h2, h3⟩ := ends_down he e
      obtain ⟨d, rfl⟩ : ∃ k, d = k + 1 := ⟨d - 1, by omega⟩
      obtain ⟨h, rfl⟩ : ∃ k, h = k + 1 := ⟨h - 1, by omega⟩
      rw [nxL_down _ _ _ _ e] at hx
      rcases hy : nxL l u (d + 1 - 1) with _ | y
      · rw [hy] at hx; cases hx
      · rw [hy] at hx
        simp only [Option.some.injEq] at hx
        subst hx
        exact ends_cons_down (ih _ _ _ _ h3 hy)

/-- From l on the next words are r, which begins with l. -/
inductive Runs (u d : Nat) : List UInt8 → List (List UInt8) → Prop
  | last (l : List UInt8) : nxL l u d = none → Runs u d l [l]
  | more (l x : List UInt8) (r : List (List UInt8)) : nxL l u d = some x → Runs u d x r → Runs u d l (l :: r)
theorem Runs.down {u d : Nat} {l : List UInt8} {r : List (List UInt8)} (h : Runs u d l r) : Runs u (d + 1) (100 :: l) (r.map (100 :: ·)) := by
  induction h with
  | last l hn => exact .last _ (by rw [nxL_down _ _ _ _ (by decide), Nat.add_sub_cancel, hn])
  | more l x r hs _ ih => exact .more _ (100 :: x) _ (by rw [nxL_down _ _ _ _ (by decide), Nat.add_sub_cancel, hs]) ih
theorem Runs.up {u d : Nat} {l : List UInt8} {r : List (List UInt8)} (h : Runs u d l r) (hn : ¬ u + 1 < d) : Runs (u + 1) d (117 :: l) (r.map (117 :: ·)) := by
  induction h with
  | last l h0 => exact .last _ (by rw [nxL_up _ _ _ _ rfl, Nat.add_sub_cancel, h0]; simp [hn])
  | more l x r hs _ ih => exact .more _ (117 :: x) _ (by rw [nxL_up _ _ _ _ rfl, Nat.add_sub_cancel, hs]) ih
theorem Runs.both {u d : Nat} {l : List UInt8} {r r2 : List (List UInt8)} (h : Runs u d l r) (hn : u + 1 < d) (h2 : Runs (u + 1) d (100 :: frL (u + 1) (d - 1)) r2) : Runs (u + 1) d (117 :: l) (r.map (117 :: ·) ++ r2) := by
  induction h with
  | last l h0 => exact .more _ _ _ (by rw [nxL_up _ _ _ _ rfl, Nat.add_sub_cancel, h0]; simp [hn]) h2
  | more l x r hs _ ih => exact .more _ (117 :: x) _ (by rw [nxL_up _ _ _ _ rfl, Nat.add_sub_cancel, hs]) ih
def listF : Nat → Nat → Nat → List (List UInt8)
  | 0, _, _ => [[]]
  | f + 1, u, d => (if 0 < u then (listF f (u - 1) d).map (117 :: ·) else []) ++ (if u < d then (listF f u (d - 1)).map (100 :: ·) else [])
theorem list_runs : ∀ (f u d : Nat), u + d = f → u ≤ d → Runs u d (frL u d) (listF f u d) := by
  intro f
  induction f with
  | zero =>
    intro u d h1 h2
    have hu : u = 0 := by omega
    have hd : d = 0 := by omega
    subst hu hd
    exact .last _ rfl
  | succ f ih =>
    intro u d h1 h2
    rw [listF]
    rcases u with _ | u
    · obtain ⟨d, rfl⟩ : ∃ k, d = k + 1 := ⟨d - 1, by omega⟩
      rw [if_neg (by omega), if_pos (by omega), List.nil_append, frL_none, Nat.add_sub_cancel]
      exact (ih 0 d (by omega) (by omega)).down
    · have i1 := ih u d (by omega) (by omega)
      rw [if_pos (by omega), frL_up, Nat.add_sub_cancel]
      by_cases hlt : u + 1 < d
      · rw [if_pos hlt]
        obtain ⟨d, rfl⟩ : ∃ k, d = k + 1 := ⟨d - 1, by omega⟩
        have i2 := (ih (u + 1) d (by omega) (by omega)).down
        exact i1.both hlt i2
      · rw [if_neg hlt, List.append_nil]
        exact i1.up hlt
theorem str_add (s : ByteArray) (c : UInt8) (l : List UInt8) : (s ++ ⟨#[c]⟩) ++ ⟨l.toArray⟩ = s ++ ⟨(c :: l).toArray⟩ := by
  rw [ByteArray.append_assoc]
  congr 1
theorem all_list : ∀ (f : Nat) (s : ByteArray) (u d : Nat), allF f s u d = (listF f u d).map fun l => s ++ ⟨l.toArray⟩ := by
  intro f
  induction f with
  | zero =>
    intro s u d
    rw [allF, listF]
    have : (⟨([] : List UInt8).toArray⟩ : ByteArray) = ByteArray.empty := rfl
    simp [this]
  | succ f ih =>
    intro s u d
    rw [allF, listF, List.map_append]
    congr 1
    · split
      · rw [ih, List.map_map]
        apply List.map_congr_left
        intro l _
        exact str_add s 117 l
      · rfl
    · split
      · rw [ih, List.map_map]
        apply List.map_congr_left
        intro l _
        exact str_add s 100 l
      · rfl
def strL (l : List UInt8) : ByteArray := ⟨l.toArray⟩
theorem paths_list (m : Nat) (hm : m ≤ 6) : pathsP m = (listF (m + m) m m).map strL := by
  unfold pathsP
  rw [if_pos (by omega)]
  simp only [Int.toNat_natCast]
  rw [all_list]
  apply List.map_congr_left
  intro l _
  show ByteArray.empty ++ _ = _
  rw [ByteArray.empty_append]; rfl
theorem str_dyck {l : List UInt8} {m : Nat} (he : ends 0 m m l) (hm : m ≤ 6) : dyck (strL l) = true ∧ (strL l).size = m + m ∧ rest (strL l) 0 = l := by
  have hs : (strL l).size = m + m := by unfold strL; rw [str_len]; exact he.2.2
  have hr : rest (strL l) 0 = l := rfl
  exact ⟨by rw [dyck_short (by omega)]; exact he.1, hs, hr⟩

theorem Runs.pos {u d : Nat} {l : List UInt8} {r : List (List UInt8)} (h : Runs u d l r) : ∃ t, r = l :: t := by
  cases h with
  | last _ _ => exact ⟨[], rfl⟩
  | more _ x r _ _ => exact ⟨r, rfl⟩
/-- What the two answers of NextPath are, at a path of the letters l. -/
theorem next_letters {l : List UInt8} {m : Nat} (he : ends 0 m m l) (hm : m ≤ 6) : (nxL l m m = none → nextOk (strL l) = false) ∧ (∀ x, nxL l m m = some x → nextOk (strL l) = true ∧ nextP (strL l) = strL x) := by
  obtain ⟨hd, hs, hr⟩ := str_dyck he hm
  obtain ⟨c1, c2⟩ := c_start hd
  rw [hs, show (m + m) / 2 = m by omega] at c1 c2
  refine ⟨fun h => ?_, fun x h => ?_⟩
  · have h' : nxL (rest (strL l) 0) (cU (rest (strL l) 0)) (cD (rest (strL l) 0)) = none := by rw [c1, c2, hr]; exact h
    exact (next_none hd h').1
  · have h' : nxL (rest (strL l) 0) (cU (rest (strL l) 0)) (cD (rest (strL l) 0)) = some x := by rw [c1, c2, hr]; exact h
    obtain ⟨n1, n2, -⟩ := next_some hd h'
    exact ⟨n1, n2⟩

set_option maxRecDepth 100000 in
theorem firstPath (m : Nat) (w : World) (hm : m ≤ 6) : Calls Try.prog 132 #[.int .i64 m] w fun e w' => e = .returned (.string (strL (frL m m))) ∧ Below w.heap.size w w' := by
  have HF := Lib.hid (show repS 117 m ++ repS 100 m = strL (frL m m) by
    unfold repS strL frL
    rw [ByteArray.mk_append_mk])
  have h1 : (repS 117 m).size ≤ 8 := by unfold repS; rw [Lib.size_eq]; simp [Lib.repeatL_length]; omega
  have h2 : (repS 100 m).size ≤ 8 := by unfold repS; rw [Lib.size_eq]; simp [Lib.repeatL_length]; omega
  go_enter Try.func132, Try.ntmps132
  go_wp2_with fail
  refine (repU m _ (by omega)).mono ?_
  rintro e w1 ⟨rfl, hb1⟩
  have z1 := hb1.size
  go_wp2_with fail
  refine (repD m _ (by omega)).mono ?_
  rintro e w2 ⟨rfl, hb2⟩
  generalize repS 117 m = R1 at *
  generalize repS 100 m = R2 at *
  have hsum : ¬ 9223372036854775807 < R1.size + R2.size := by omega
  go_wp2
  go_ret
  exact ⟨ret_str HF.out, hb1.trans (hb2.mono z1)⟩
end SImpl3R0

section SPaths3
open Go.ChangeShapes Go.WideShapes Go.ChangeAt Go.RowKit
set_option linter.unusedVariables false

set_option maxRecDepth 100000 in
set_option maxHeartbeats 1600000 in
theorem listPathsI (m : Nat) (hm : m ≤ 6) (w : World) : Calls Try.prog 120 #[.int .i64 m] w (AnsS (pathsP m) w) := by
  have HP := Lib.hid (paths_list m hm)
  have HR := Lib.hid (list_runs (m + m) m m rfl (Nat.le_refl _))
  have HE := Lib.hid (frL_ends m m 0 (by omega))
  have HLEN := Lib.hid (show (pathsP m).length ≤ 4096 by
    unfold pathsP
    rw [if_pos (by omega)]
    simp only [Int.toNat_natCast]
    exact allF_small _ _ _ _ (by omega))
  go_enter Try.func120, Try.ntmps120
  go_wp2_with fail
  refine (firstPath m _ hm).mono ?_
  rintro e w1 ⟨rfl, hb⟩
  have HB1 := Lib.hid hb
  clear hb
  go_wp2
  go_loopg [3, 4, 5] ((listF (m + m) m m).length) (fun g v x y wr => ∃ (acc : List ByteArray), wr.ownsRow w.heap.size 9 1 v acc.length (acc.map Value.string) ∧ Below w.heap.size w wr ∧ ((∃ (l : List UInt8) (r : List (List UInt8)), x = .string (strL l) ∧ y = .bool true ∧ ends 0 m m l ∧ Runs m m l r ∧ r.length = g ∧ acc ++ r.map strL = pathsP m) ∨ (∃ s, x = .string s ∧ y = .bool false ∧ acc = pathsP m)))
  case atStart => exact ⟨[], ⟨rfl, .inl ⟨rfl, rfl⟩⟩, HB1.out, .inl ⟨_, _, rfl, rfl, HE.out, HR.out, rfl, by rw [HP.out]; rfl⟩⟩
  case round =>
    obtain ⟨acc, hown, hb, hcase⟩ := hrel
    have HB := Lib.hid hb
    have hB := hb.size
    clear hb
    rcases hcase with ⟨l, r, rfl, rfl, hends, hruns, hlen, hacc⟩ | ⟨s, rfl, rfl, hacc⟩
    · have HA := Lib.hid hacc
      have HEN := Lib.hid hends
      have HRU := Lib.hid hruns
      have HL := Lib.hid hlen
      have hal : acc.length ≤ 4096 := by
        have h := HLEN.out
        rw [← hacc, List.length_append] at h
        omega
      clear hacc hends hruns hlen
      go_wp2_with (at_builtin; go_must (refine wpAppStr rfl _ _ rfl w.heap.size _ _ _ rfl (hown.alloc _) wr.heap.size _ _ rfl (cell_one _ _ _) (by omega) (base_up hB) ?_); intro v' w' hown' hg')
      have HB2 := Lib.hid ((HB.out.alloc hB _).grown hg' (base_up hB) (fun k hk => (hown.lt k hk).1))
      refine (nextPathI (strL l) _).mono ?_
      rintro e w3 ⟨rfl, hb3⟩
      have HO3 := Lib.hid (ownsRow_keepB hown' hb3 (Nat.le_refl _))
      have HB3 := Lib.hid (HB2.out.trans (hb3.mono HB2.out.size))
      have HNX := Lib.hid (next_letters HEN.out hm)
      obtain ⟨t, ht⟩ := HRU.out.pos
      clear hown hg' hown' hb3
      rcases hnx : nxL l m m with _ | x
      · have hok := HNX.out.1 hnx
        rw [hok]
        have HT := Lib.hid (show r = [l] by
          have := HRU.out
          cases this with
          | last _ _ => rfl
          | more _ x r h _ => rw [hnx] at h; cases h)
        clear hnx hok ht
        go_wp2
        go_roundg 0
        case measure => have := HL.out; rw [HT.out] at this; simp at this; omega
        case rel => exact ⟨acc ++ [strL l], by simpa using HO3.out, HB3.out, .inr ⟨_, rfl, rfl, by rw [← HA.out, HT.out]; rfl⟩⟩
      · obtain ⟨hok, hp⟩ := HNX.out.2 x hnx
        rw [hok, hp]
        have HT := Lib.hid (show ∃ r', r = l :: r' ∧ Runs m m x r' by
          have := HRU.out
          cases this with
          | last _ h => rw [hnx] at h; cases h
          | more _ y r' h h' =>
            rw [hnx] at h
            obtain rfl : x = y := Option.some.inj h
            exact ⟨r', rfl, h'⟩)
        have HE2 := Lib.hid (nx_ends _ _ _ _ _ HEN.out hnx)
        clear hnx hok hp ht
        obtain ⟨r', hr, hr'⟩ := HT.out
        have HR1 := Lib.hid hr
        have HR2 := Lib.hid hr'
        clear hr hr'
        go_wp2
        go_roundg r'.length
        case measure => have := HL.out; rw [HR1.out] at this; simp at this; omega
        case rel => exact ⟨acc ++ [strL l], by simpa using HO3.out, HB3.out, .inl ⟨_, _, rfl, rfl, HE2.out, HR2.out, rfl, by rw [← HA.out, HR1.out]; simp⟩⟩
    · go_wp2
      go_ret
      refine ⟨_, rfl, ?_, HB.out⟩
      rw [← hacc]
      exact OwnS.of_row hown


set_option maxRecDepth 100000 in
set_option maxHeartbeats 800000 in
theorem pathsOfI2 (n : Int) (w : World) : Calls Try.prog 92 #[.int .i64 n] w (AnsS (pathsP n) w) := by
  by_cases h0 : n < 0
  · have HP := Lib.hid (show pathsP n = [] from if_neg (by omega))
    go_enter Try.func92, Try.ntmps92
    go_wp2
    go_ret
    exact ⟨_, rfl, by rw [HP.out]; exact ⟨_, _, rfl, .inl rfl⟩, Below.refl _ _⟩
  have h0b : decide (n < 0) = false := by simpa using h0
  by_cases h1 : 6 < n
  · have HP := Lib.hid (show pathsP n = [] from if_neg (by omega))
    go_enter Try.func92, Try.ntmps92
    go_wp2
    go_ret
    exact ⟨_, rfl, by rw [HP.out]; exact ⟨_, _, rfl, .inl rfl⟩, Below.refl _ _⟩
  have h1b : decide (6 < n) = false := by simpa using h1
  obtain ⟨m, rfl⟩ : ∃ m : Nat, n = m := ⟨n.toNat, by omega⟩
  have hm : m ≤ 6 := by omega
  have hmb : decide (6 < m) = false := by simp; omega
  have HL := Lib.hid (listPathsI m hm w)
  clear h0 h1
  go_enter Try.func92, Try.ntmps92
  go_wp2_with fail
  (with_reducible refine HL.out.mono ?_)
  rintro e w1 ⟨v, rfl, ho, hb⟩
  obtain ⟨A, c, rfl, -⟩ := id ho
  go_wp2
  go_ret
  exact ⟨_, rfl, ho, hb⟩
end SPaths3

end Go.Proofs.Ytknojbcpjjhegaa
