/- The program's IsNoncrossing: chords of a partition, and pairs of them that cross. -/
import Derived.Test.YtpkfgjlbkiiciaaImpl8A
import Derived.Test.YtpkfgjlbkiiciaaSpec8B
namespace Go.Proofs.Ytpkfgjlbkiiciaa
open Go.ChangeShapes Go.WideShapes Go.ChangeAt Go.RowKit
set_option linter.unusedVariables false

def crossB (f1 t1 f2 t2 : Int) : Bool := decide (f1 < f2 ∧ f2 < t1 ∧ t1 < t2 ∨ f2 < f1 ∧ f1 < t2 ∧ t2 < t1)
set_option maxRecDepth 100000 in
set_option maxHeartbeats 3200000 in
theorem crossesC (f1 t1 f2 t2 : Int) (w : World) :
    Calls Try.prog 52 #[.agg #[.int .i64 f1, .int .i64 t1], .agg #[.int .i64 f2, .int .i64 t2]] w fun e w' => e = .returned (.bool (crossB f1 t1 f2 t2)) ∧ Below w.heap.size w w' := by
  by_cases p1 : f1 < f2
  · have d1 : decide (f1 < f2) = true := decide_eq_true p1
    have r1 : ¬ f2 < f1 := by omega
    have e1 : decide (f2 < f1) = false := decide_eq_false r1
    by_cases p2 : f2 < t1
    · have d2 : decide (f2 < t1) = true := decide_eq_true p2
      by_cases p3 : t1 < t2
      · have d3 : decide (t1 < t2) = true := decide_eq_true p3
        have HR := Lib.hid (show crossB f1 t1 f2 t2 = true from decide_eq_true (.inl ⟨p1, p2, p3⟩))
        go_enter Try.func52, Try.ntmps52
        go_wp2
        go_ret
        exact ⟨ret_bool HR.out.symm, ((Below.refl _ w).alloc (Nat.le_refl _) _).alloc (by simp) _⟩
      · have d3 : decide (t1 < t2) = false := decide_eq_false p3
        have HR := Lib.hid (show crossB f1 t1 f2 t2 = false from decide_eq_false (by omega))
        go_enter Try.func52, Try.ntmps52
        go_wp2
        go_ret
        exact ⟨ret_bool HR.out.symm, ((Below.refl _ w).alloc (Nat.le_refl _) _).alloc (by simp) _⟩
    · have d2 : decide (f2 < t1) = false := decide_eq_false p2
      have HR := Lib.hid (show crossB f1 t1 f2 t2 = false from decide_eq_false (by omega))
      go_enter Try.func52, Try.ntmps52
      go_wp2
      go_ret
      exact ⟨ret_bool HR.out.symm, ((Below.refl _ w).alloc (Nat.le_refl _) _).alloc (by simp) _⟩
  · have d1 : decide (f1 < f2) = false := decide_eq_false p1
    by_cases p2 : f2 < f1
    · have d2 : decide (f2 < f1) = true := decide_eq_true p2
      by_cases p3 : f1 < t2
      · have d3 : decide (f1 < t2) = true := decide_eq_true p3
        by_cases p4 : t2 < t1
        · have d4 : decide (t2 < t1) = true := decide_eq_true p4
          have HR := Lib.hid (show crossB f1 t1 f2 t2 = true from decide_eq_true (.inr ⟨p2, p3, p4⟩))
          go_enter Try.func52, Try.ntmps52
          go_wp2
          go_ret
          exact ⟨ret_bool HR.out.symm, ((Below.refl _ w).alloc (Nat.le_refl _) _).alloc (by simp) _⟩
        · have d4 : decide (t2 < t1) = false := decide_eq_false p4
          have HR := Lib.hid (show crossB f1 t1 f2 t2 = false from decide_eq_false (by omega))
          go_enter Try.func52, Try.ntmps52
          go_wp2
          go_ret
          exact ⟨ret_bool HR.out.symm, ((Below.refl _ w).alloc (Nat.le_refl _) _).alloc (by simp) _⟩
      · have d3 : decide (f1 < t2) = false := decide_eq_false p3
        have HR := Lib.hid (show crossB f1 t1 f2 t2 = false from decide_eq_false (by omega))
        go_enter Try.func52, Try.ntmps52
        go_wp2
        go_ret
        exact ⟨ret_bool HR.out.symm, ((Below.refl _ w).alloc (Nat.le_refl _) _).alloc (by simp) _⟩
    · have d2 : decide (f2 < f1) = false := decide_eq_false p2
      have HR := Lib.hid (show crossB f1 t1 f2 t2 = false from decide_eq_false (by omega))
      go_enter Try.func52, Try.ntmps52
      go_wp2
      go_ret
      exact ⟨ret_bool HR.out.symm, ((Below.refl _ w).alloc (Nat.le_refl _) _).alloc (by simp) _⟩

/-- The map holds the last place of each of the first i elements' blocks. -/
structure MapLa (D : DataW Unit) (xs : List Int) (i : Nat) : Prop where
  tidy : Maps.Tidy D
  has : ∀ x : Int, Maps.has D (.int .i64 x) = decide (0 ≤ laK x xs i)
  at_ : ∀ x : Int, 0 ≤ laK x xs i → D.atKey (.int .i64 x) (.lit (.int .i64 0)) = .lit (.int .i64 (laK x xs i))
theorem MapLa.nil (xs : List Int) : MapLa (.map []) xs 0 := ⟨Maps.tidy_empty, fun x => rfl, fun x h => by simp [laK] at h⟩
theorem MapLa.put {D : DataW Unit} {xs : List Int} {i : Nat} (h : MapLa D xs i) : MapLa (D.put (.int .i64 (xs.getD i 0)) (.lit (.int .i64 (i : Int)))) xs (i + 1) := by
  have hk : WideAt.IsKeyLit (.int .i64 (xs.getD i 0)) := by simp [WideAt.IsKeyLit]
  have hne : ∀ y : Int, y ≠ xs.getD i 0 → (Lit.int .i64 y) ≠ .int .i64 (xs.getD i 0) := fun y h e => h (by simpa using e)
  refine ⟨h.tidy.put hk _, fun y => ?_, fun y hy => ?_⟩
  · by_cases e : y = xs.getD i 0
    · rw [laK, if_pos e.symm, e, Maps.has_put_same h.tidy.isMap hk]
      exact (decide_eq_true (by omega)).symm
    · rw [laK, if_neg (fun h => e h.symm), Maps.has_put_other (hne y e)]; exact h.has y
  · by_cases e : y = xs.getD i 0
    · rw [laK, if_pos e.symm, e, Maps.atKey_put_same h.tidy.isMap hk]
    · rw [laK, if_neg (fun h => e h.symm)] at hy ⊢
      rw [Maps.atKey_put_other (hne y e)]; exact h.at_ y hy
/-- The chords of the first i elements. -/
def chdL (xs : List Int) : Nat → List (Int × Int)
  | 0 => []
  | i + 1 => if 0 ≤ laK (xs.getD i 0) xs i then chdL xs i ++ [(laK (xs.getD i 0) xs i, (i : Int))] else chdL xs i
theorem chdL_le (xs : List Int) (i : Nat) : (chdL xs i).length ≤ i := by
  induction i with
  | zero => exact Nat.le_refl _
  | succ i ih => rw [chdL]; split; (rw [List.length_append, List.length_singleton]; omega); omega
def flatC (l : List (Int × Int)) : List Value := l.flatMap fun p => [.int .i64 p.1, .int .i64 p.2]
theorem flatC_app (l m : List (Int × Int)) : flatC (l ++ m) = flatC l ++ flatC m := by simp [flatC]
theorem flatC_len (l : List (Int × Int)) : (flatC l).length = l.length * 2 := by
  induction l with
  | nil => rfl
  | cons p l ih => rw [show p :: l = [p] ++ l from rfl, flatC_app, List.length_append, ih, List.length_append]; simp [flatC]; omega
theorem flatC_at (l : List (Int × Int)) : ∀ i, i < l.length → (flatC l)[i * 2]? = some (.int .i64 (l.getD i (0, 0)).1) ∧ (flatC l)[i * 2 + 1]? = some (.int .i64 (l.getD i (0, 0)).2) := by
  induction l with
  | nil => intro i h; simp at h
  | cons p l ih =>
    intro i h
    have e : flatC (p :: l) = .int .i64 p.1 :: .int .i64 p.2 :: flatC l := rfl
    cases i with
    | zero => rw [e]; exact ⟨rfl, rfl⟩
    | succ i =>
      have := ih i (by simpa using h)
      rw [e, show (i + 1) * 2 = i * 2 + 1 + 1 by omega]
      simpa using this
theorem infoC : (Try.prog.info? 45).map (fun i => (i.zero, i.size, i.bytes)) = some (some (.agg #[.int .i64 0, .int .i64 0]), 2, 16) := by kernel_rfl
theorem cell_p0 (w : World) (x y : Value) (t : TypeId) : (w.alloc (.cells #[x, y] t)).cell? ⟨w.heap.size, 0, none⟩ = some x := by
  rw [World.cell?_alloc_at _ _ _ _ rfl]; rfl
theorem cell_p1 (w : World) (x y : Value) (t : TypeId) : (w.alloc (.cells #[x, y] t)).cell? ⟨w.heap.size, 1, none⟩ = some y := by
  rw [World.cell?_alloc_at _ _ _ _ rfl]; rfl
/-- A row of chords that the call owns. -/
def RowC (w : World) (base : Nat) (v : Value) (l : List (Int × Int)) : Prop := w.ownsRow base 45 2 v l.length (flatC l)
theorem wpAppC {w : World} {ops : Array Oper} {rest : List Oper} {o : Oper} {a : Act} {Q : Exit → Act → World → Prop} (hgd : o.guard = none) (s x : Operand)
    (ho : o.op = .call { callee := .builtin .append, args := #[s, x], argTypes := #[48, 48] })
    (base : Nat) (v : Value) (l : List (Int × Int)) (hs : a.eval s = v) (hown : RowC w base v l)
    (b c : Nat) (p q : Int) (hx : a.eval x = .slice (some ⟨b, 0, none⟩) 1 c) (hc0 : w.cell? ⟨b, 0, none⟩ = some (.int .i64 p)) (hc1 : w.cell? ⟨b, 1, none⟩ = some (.int .i64 q))
    (hn : l.length ≤ 1099511627) (hbase : base ≤ w.heap.size)
    (h : ∀ v' w', RowC w' base v' (l ++ [(p, q)]) → w.grownBy w' v.ownBlock → wpList Try.prog ops Q rest (a.put o.dst v') w') : wpList Try.prog ops Q (o :: rest) a w := by
  obtain ⟨i0, hi, hz0, hz1, hz2⟩ := info_parts infoC
  refine wpList_append_own _ hgd s x 48 ho base 45 i0 (.agg #[.int .i64 0, .int .i64 0]) 2 16 Try.underlying48 hi hz0 hz1 hz2 rfl (by decide) v l.length _ hs hown ⟨b, 0, none⟩ 1 c [.int .i64 p, .int .i64 q] hx rfl ?_ ?_ (by unfold maxLen; omega) (by omega) hbase ?_
  · intro j u hj
    match j, hj with
    | 0, hj => simp at hj; subst hj; simpa [Addr.add] using hc0
    | 1, hj => simp at hj; subst hj; simpa [Addr.add] using hc1
  · intro u hu; simp at hu; rcases hu with rfl | rfl <;> rfl
  · intro v' w' h1 h2 _
    exact h v' w' (by unfold RowC; rw [flatC_app]; simpa [flatC] using h1) h2

set_option maxRecDepth 100000 in
set_option maxHeartbeats 3200000 in
theorem chordsOf (A : Option Addr) (xs : List Int) (cap lo hi : Nat) (w : World) (hv : OwnI w lo hi (.slice A xs.length cap) xs) (hhi : hi ≤ w.heap.size) (hwf : ∀ y ∈ xs, (Lit.int .i64 y).wf = true) (hl : xs.length ≤ 1099511) :
    Calls Try.prog 51 #[.slice A xs.length cap] w fun e w' => ∃ v, e = .returned v ∧ RowC w' w.heap.size v (chdL xs xs.length) ∧ Below w.heap.size w w' := by
  have hmm := @run_makeMap Try.prog
  have HV := Lib.hid hv
  clear hv
  have HMP := Lib.hid (World.ownsMap_made (H := Unit) w Try.prog 3 RI)
  have HB0 := Lib.hid ((Below.refl w.heap.size w).alloc (Nat.le_refl _) (.map #[] 0))
  go_enter Try.func51, Try.ntmps51
  go_wp2
  go_loopw [3, 12] (fun u y wr => ∃ (i : Nat) (D : DataW Unit), i ≤ xs.length ∧ y = .int .i64 i ∧ wr.ownsMap Try.prog 3 RI w.heap.size i D ∧ MapLa D xs i ∧ RowC wr (w.heap.size + 1) u (chdL xs i) ∧ w.heap.size + 1 ≤ wr.heap.size ∧ Below w.heap.size w wr) (fun _ y _ => xs.length - (intOf y).toNat)
  case atStart => exact ⟨0, .map [], Nat.zero_le _, rfl, HMP.out, MapLa.nil xs, World.ownsRow_nil _ _ _ _, by simp, HB0.out⟩
  case round =>
    obtain ⟨i, D, hi1, rfl, hm, hok, hrow, hsz, hb⟩ := hrel
    have HM := Lib.hid hm
    have HOK := Lib.hid hok
    have HR := Lib.hid hrow
    have HB := Lib.hid hb
    have hB := hb.size
    clear hm hok hrow hb HMP HB0
    by_cases hlt : i < xs.length
    · obtain ⟨g, c, e', -, -, hc, -⟩ := (HV.out.keep HB.out hhi).cell hlt
      simp only [Value.slice.injEq] at e'
      obtain ⟨rfl, -, -⟩ := e'
      have hii : (i : Int) < (xs.length : Int) := by omega
      have hwy : (Lit.int .i64 (xs.getD i 0)).wf = true := by
        rw [List.getD_eq_getElem?_getD, List.getElem?_eq_getElem hlt]; exact hwf _ (List.getElem_mem _)
      have hcl := chdL_le xs i
      have HRN := Lib.hid (show chdL xs (i + 1) = if 0 ≤ laK (xs.getD i 0) xs i then chdL xs i ++ [(laK (xs.getD i 0) xs i, (i : Int))] else chdL xs i from rfl)
      have HOK2 := Lib.hid HOK.out.put
      generalize xs.getD i 0 = y at *
      generalize chdL xs i = l at *
      have hkey := Maps.keyOf_int_mk (P := Try.prog) (k := 3) Try.underlying3 hwy
      have hval := valI (a := (i : Int)) (wf_small (by omega))
      obtain ⟨v1, ps1, hrun1, hR1⟩ := HM.out.look_ok keyI Try.underlying53 (zeroI wr) (valI (by decide)) hkey
      obtain ⟨c1, rfl, hc1, -⟩ := plainElem_int_inv Try.underlying3 hR1
      rw [HOK.out.has y] at hrun1
      clear hR1
      by_cases ha : 0 ≤ laK y xs i
      · have hc2 : c1 = laK y xs i := by
          have h := HOK.out.at_ y ha
          have h1 := (Prod.mk.inj hc1).1
          rw [h] at h1
          exact (lit_inj h1).symm
        rw [decide_eq_true ha] at hrun1
        subst hc2
        have HRN2 := Lib.hid (HRN.out.trans (if_pos ha))
        generalize laK y xs i = a at *
        clear HRN hc1
        have HNE := Lib.hid (show some w.heap.size ≠ u3.ownBlock from fun e => by have := (World.ownsRow.lt HR.out _ e.symm).1; omega)
        have HLO := Lib.hid (show ∀ k, u3.ownBlock = some k → w.heap.size ≤ k from fun k e => by have := (World.ownsRow.lt HR.out _ e).1; omega)
        go_wp2_with (first | (at_builtin; refine wpAppC rfl _ _ rfl (w.heap.size + 1) _ l rfl (World.ownsRow.alloc HR.out _) wr.heap.size _ a (i : Int) rfl (cell_p0 _ _ _ _) (cell_p1 _ _ _ _) (by omega) (by simp; omega) ?_; intro v1 w1 hown1 hg1; go_must (have HM1 := Lib.hid (World.ownsMap.kept (World.ownsMap.alloc HM.out _) hg1 HNE.out); have hz1 : wr.heap.size + 1 ≤ w1.heap.size := (by have h := hg1.size; simpa using h); have HB1 := Lib.hid ((HB.out.alloc hB (.cells #[.int .i64 a, .int .i64 (i : Int)] 45)).grown hg1 (by simp; omega) (fun k hk => HLO.out k hk)); have HO1 := Lib.hid hown1; clear hown1 hg1)) | (at_mapUpdate; refine wpList_mapUpdate_own _ rfl _ _ _ 53 rfl 3 3 keyI Try.underlying53 RI w.heap.size i D rfl HM1.out (by unfold maxLen; omega) _ _ (.int .i64 y) rfl rfl hkey (.lit (.int .i64 (i : Int))) [] hval ?_; intro w3 hm3 hg3))
        have hB1 := HB1.out.size
        have hz3 := hg3.size
        go_roundw
        case rel => exact ⟨i + 1, _, by omega, by simp, hm3, HOK2.out, by rw [HRN2.out]; exact World.ownsRow.kept HO1.out hg3 (.inr fun e => by have := (World.ownsRow.lt HO1.out _ e).1; omega), by omega, HB1.out.grown hg3 hB1 (fun k hk => by (simp only [Option.some.injEq] at hk; omega))⟩
        case measure => simp [intOf]; omega
      · rw [decide_eq_false ha] at hrun1
        have HRN2 := Lib.hid (HRN.out.trans (if_neg ha))
        clear HRN ha
        go_wp2_with (at_mapUpdate; go_must (refine wpList_mapUpdate_own _ rfl _ _ _ 53 rfl 3 3 keyI Try.underlying53 RI w.heap.size i D rfl HM.out (by unfold maxLen; omega) _ _ (.int .i64 y) rfl rfl hkey (.lit (.int .i64 (i : Int))) [] hval ?_); intro w3 hm3 hg3)
        go_roundw
        case rel => exact ⟨i + 1, _, by omega, by simp, hm3, HOK2.out, by rw [HRN2.out]; exact World.ownsRow.kept HR.out hg3 (.inr fun e => by have := (World.ownsRow.lt HR.out _ e).1; omega), by have := hg3.size; omega, HB.out.grown hg3 hB (fun k hk => by (simp only [Option.some.injEq] at hk; omega))⟩
        case measure => simp [intOf]; omega
    · obtain rfl : i = xs.length := by omega
      go_wp2
      go_ret
      exact ⟨_, rfl, by
        obtain ⟨h1, h2⟩ := HR.out
        exact ⟨h1, h2.elim .inl fun ⟨g, cap, cur, e, hg, r⟩ => .inr ⟨g, cap, cur, e, by omega, r⟩⟩, HB.out⟩

end Go.Proofs.Ytpkfgjlbkiiciaa
