/- Merged by program out of: Spec2F Spec3F Spec4A Spec4B Spec9A Spec3A Spec9B Impl2A Impl2B PlainC Impl2C PlainH. -/
import Derived.BigRegion
import Derived.Lib.OthersKept
import Derived.Deep.RegionLaw
import Derived.IntWalk
import Derived.Test.YtgaggpdlpcldeaaKA
import Derived.Test.YtgaggpdlpcldeaaKB
section
namespace Go.Proofs.Ytgaggpdlpcldeaa
open Go.ChangeShapes Go.WideShapes Go.ChangeAt Go.RowKit
open Go.PlainAid (bt bt_nonneg bt_le get_bt)
set_option linter.unusedVariables false

/-- The parts of a path between its returns. -/
def primesF : Nat → ByteArray → List ByteArray
  | 0, _ => []
  | n + 1, s => if dyck s = true ∧ 0 < s.size then s.extract 0 ((cutP s).toNat + 1) :: primesF n (s.extract ((cutP s).toNat + 1) s.size) else []
theorem primesF_yes (n : Nat) (s : ByteArray) (h : dyck s = true ∧ 0 < s.size) : primesF (n + 1) s = s.extract 0 ((cutP s).toNat + 1) :: primesF n (s.extract ((cutP s).toNat + 1) s.size) := if_pos h
theorem primesF_no (n : Nat) (s : ByteArray) (h : ¬ (dyck s = true ∧ 0 < s.size)) : primesF n s = [] := by
  cases n with
  | zero => rfl
  | succ n => exact if_neg h
theorem primesF_len : ∀ (n : Nat) (s : ByteArray), (primesF n s).length ≤ s.size := by
  intro n
  induction n with
  | zero => intro s; exact Nat.zero_le _
  | succ n ih =>
    intro s
    by_cases h : dyck s = true ∧ 0 < s.size
    · rw [primesF_yes n s h, List.length_cons]
      have := ih (s.extract ((cutP s).toNat + 1) s.size)
      rw [ByteArray.size_extract] at this
      obtain ⟨h1, h2⟩ := h
      omega
    · rw [primesF_no _ s h]; exact Nat.zero_le _
def primesP (s : ByteArray) : List ByteArray := primesF (s.size + 1) s
theorem primesP_len (s : ByteArray) : (primesP s).length ≤ s.size := primesF_len _ s

theorem markS1 (v : Value) (lo hi : Nat) (xs : List ByteArray) (w : World) (hv : OwnS w lo hi v xs) (hhi : hi ≤ w.heap.size) (hlo : lo ≤ w.heap.size) (hl : xs.length ≤ 1099511627776) :
    Calls Try.prog 17 #[v, .int .i64 1] w fun e w' => e = .returned (.int .i64 (1 + xs.length)) ∧ OwnS w' lo hi v (marksS 1 xs.length) ∧ Below lo w w' := markS v lo hi xs 1 w hv hhi hlo hl (by omega) (by omega)
theorem heldS1 (v : Value) (lo hi : Nat) (n : Nat) (w : World) (hv : OwnS w lo hi v (marksS 1 n)) (hhi : hi ≤ w.heap.size) (hl : n ≤ 1099511627776) :
    Calls Try.prog 19 #[v, .int .i64 1] w fun e w' => e = .returned (.int .i64 (1 + n)) ∧ Below w.heap.size w w' := heldS v lo hi n 1 w hv hhi hl (by omega) (by omega)

end Go.Proofs.Ytgaggpdlpcldeaa
end

section
namespace Go.Proofs.Ytgaggpdlpcldeaa
open Go.ChangeShapes Go.WideShapes Go.ChangeAt Go.RowKit
set_option linter.unusedVariables false

/-- A row of strings appended to a row of strings that the call owns. -/
theorem wpAppStrs {w : World} {ops : Array Oper} {rest : List Oper} {o : Oper} {a : Act} {Q : Exit → Act → World → Prop} (hgd : o.guard = none) (s x : Operand)
    (ho : o.op = .call { callee := .builtin .append, args := #[s, x], argTypes := #[23, 23] })
    (base : Nat) (v : Value) (n : Nat) (xs ys : List ByteArray) (hs : a.eval s = v) (hown : w.ownsRow base 9 1 v n (xs.map Value.string))
    (b : Nat) (c : Nat) (hx : a.eval x = .slice (some ⟨b, 0, none⟩) ys.length c) (hcell : ∀ j, j < ys.length → w.cell? ⟨b, j, none⟩ = some (.string (ys.getD j E0)))
    (hn : n ≤ 1048576) (hm : ys.length ≤ 1048576) (hbase : base ≤ w.heap.size)
    (h : ∀ v' w', w'.ownsRow base 9 1 v' (n + ys.length) ((xs ++ ys).map Value.string) → w.grownBy w' v.ownBlock → wpList Try.prog ops Q rest (a.put o.dst v') w') : wpList Try.prog ops Q (o :: rest) a w := by
  obtain ⟨i0, hi, hz0, hz1, hz2⟩ := info_parts info9
  refine wpList_append_own _ hgd s x 23 ho base 9 i0 (.string ⟨#[]⟩) 1 16 Try.underlying23 hi hz0 hz1 hz2 rfl (by decide) v n _ hs hown ⟨b, 0, none⟩ ys.length c (ys.map Value.string) hx (by simp) ?_ ?_ (by unfold maxLen; omega) (by omega) hbase ?_
  · intro j u hj
    rw [List.getElem?_map] at hj
    have hlt : j < ys.length := by
      rcases Nat.lt_or_ge j ys.length with h | h
      · exact h
      · rw [List.getElem?_eq_none h] at hj; cases hj
    have := hcell j hlt
    rw [List.getElem?_eq_getElem hlt] at hj
    simp only [Option.map_some, Option.some.injEq] at hj
    subst hj
    rw [List.getD_eq_getElem?_getD, List.getElem?_eq_getElem hlt] at this
    rw [add_flat]
    simpa using this
  · intro u hu; simp at hu; obtain ⟨y, -, rfl⟩ := hu; rfl
  · intro v' w' h1 h2 _
    exact h v' w' (by simpa using h1) h2
theorem ownsRow_keepB {w w' : World} {base B n : Nat} {v : Value} {xs : List Value} (h : w.ownsRow base 9 1 v n xs) (hb : Below B w w') (hB : w.heap.size ≤ B) : w'.ownsRow base 9 1 v n xs := by
  refine ⟨h.1, ?_⟩
  rcases h.2 with e | ⟨o, cap, cur, e, h1, h2, h3⟩
  · exact .inl e
  · exact .inr ⟨o, cap, cur, e, h1, (hb.block o (by have := (Array.getElem?_eq_some_iff.1 h2).1; omega)).trans h2, h3⟩
theorem OwnS.one (W : World) (s : ByteArray) : OwnS (W.alloc (.cells #[.string s] 9)) W.heap.size (W.alloc (.cells #[.string s] 9)).heap.size (.slice (some ⟨W.heap.size, 0, none⟩) 1 1) [s] := by
  refine ⟨_, _, rfl, .inr ⟨W.heap.size, #[.string s], Nat.le_refl _, by simp, rfl, by rw [show (W.alloc (.cells #[.string s] 9)).heap = W.heap.push (.cells #[.string s] 9) from rfl]; simp, fun j hj => ?_⟩⟩
  simp at hj; subst hj; rfl

theorem OwnS.opened {w : World} {lo hi : Nat} {v : Value} {xs : List ByteArray} (h : OwnS w lo hi v xs) (hne : 1 ≤ xs.length) :
    ∃ g c, v = .slice (some ⟨g, 0, none⟩) xs.length c ∧ ∀ j, j < xs.length → w.cell? ⟨g, j, none⟩ = some (.string (xs.getD j E0)) := by
  obtain ⟨g, c, e, -⟩ := h.cell (j := 0) (by omega)
  refine ⟨g, c, e, fun j hj => ?_⟩
  obtain ⟨g', c', e', -, -, hc, -⟩ := h.cell hj
  rw [e] at e'
  simp only [Value.slice.injEq, Option.some.injEq, Addr.mk.injEq] at e'
  obtain ⟨⟨rfl, -⟩, -⟩ := e'
  exact hc

/-- All ways to go on from the word s, u before d. -/
def allF : Nat → ByteArray → Nat → Nat → List ByteArray
  | 0, s, _, _ => [s]
  | f + 1, s, u, d => (if 0 < u then allF f (s ++ ⟨#[117]⟩) (u - 1) d else []) ++ (if u < d then allF f (s ++ ⟨#[100]⟩) u (d - 1) else [])
theorem allF_ne : ∀ (f : Nat) (s : ByteArray) (u d : Nat), u + d = f → u ≤ d → 1 ≤ (allF f s u d).length := by
  intro f
  induction f with
  | zero => intro s u d _ _; exact Nat.le_refl _
  | succ f ih =>
    intro s u d h1 h2
    rw [allF, List.length_append]
    by_cases h : 0 < u
    · have := ih (s ++ ⟨#[117]⟩) (u - 1) d (by omega) (by omega)
      rw [if_pos h]; omega
    · have := ih (s ++ ⟨#[100]⟩) u (d - 1) (by omega) (by omega)
      rw [if_pos (show u < d by omega)]; omega
theorem allF_len : ∀ (f : Nat) (s : ByteArray) (u d : Nat), (allF f s u d).length ≤ 2 ^ f := by
  intro f
  induction f with
  | zero => intro s u d; exact Nat.le_refl _
  | succ f ih =>
    intro s u d
    rw [allF, List.length_append, Nat.pow_succ]
    have h1 : (if 0 < u then allF f (s ++ ⟨#[117]⟩) (u - 1) d else []).length ≤ 2 ^ f := by
      split
      · exact ih _ _ _
      · exact Nat.zero_le _
    have h2 : (if u < d then allF f (s ++ ⟨#[100]⟩) u (d - 1) else []).length ≤ 2 ^ f := by
      split
      · exact ih _ _ _
      · exact Nat.zero_le _
    omega
theorem allF_small (f : Nat) (s : ByteArray) (u d : Nat) (h : f ≤ 12) : (allF f s u d).length ≤ 4096 :=
  Nat.le_trans (allF_len f s u d) (Nat.le_trans (Nat.pow_le_pow_right (by decide) h) (by decide))

set_option maxRecDepth 100000 in
set_option maxHeartbeats 600000 in
theorem l3All : ∀ (f u d : Nat) (s : ByteArray) (w : World), u + d = f → u ≤ d → d ≤ 6 → s.size ≤ 100 - f → Calls Try.prog 31 #[.string s, .int .i64 u, .int .i64 d] w (AnsS (allF f s u d) w) := by
  intro f
  induction f with
  | zero =>
    intro u d s w h1 h2 h3 h4
    have hd0 : ((d : Int) == 0) = true := by simp; omega
    go_enter Try.func31, Try.ntmps31
    go_wp2
    go_ret
    exact ⟨_, rfl, OwnS.one _ _, (Below.refl _ _).alloc (Nat.le_refl _) _⟩
  | succ f ih =>
    intro u d s w h1 h2 h3 h4
    have IH := Lib.hid ih
    clear ih
    have hd0 : ((d : Int) == 0) = false := beq_eq_false_iff_ne.2 (by omega)
    have E1 := Lib.hid (show (s ++ ⟨#[117]⟩ : ByteArray).size = s.size + 1 by rw [ByteArray.size_append]; rfl)
    have E2 := Lib.hid (show (s ++ ⟨#[100]⟩ : ByteArray).size = s.size + 1 by rw [ByteArray.size_append]; rfl)
    have z1 : ¬ 9223372036854775807 < s.size + (⟨#[117]⟩ : ByteArray).size := by
      have : (⟨#[117]⟩ : ByteArray).size = 1 := rfl
      omega
    have z2 : ¬ 9223372036854775807 < s.size + (⟨#[100]⟩ : ByteArray).size := by
      have : (⟨#[100]⟩ : ByteArray).size = 1 := rfl
      omega
    by_cases hu : 0 < u
    · obtain ⟨p, HP, hp⟩ : ∃ p, Hid (u = p + 1) ∧ (u : Int) - 1 = (p : Int) := ⟨u - 1, Lib.hid (by omega), by omega⟩
      have hui : (0 : Int) < (u : Int) := by omega
      by_cases hd : u < d
      · obtain ⟨q, HQ, hq⟩ : ∃ q, Hid (d = q + 1) ∧ (d : Int) - 1 = (q : Int) := ⟨d - 1, Lib.hid (by omega), by omega⟩
        have hdi : (u : Int) < (d : Int) := by omega
        have HA := Lib.hid (show allF (f + 1) s u d = allF f (s ++ ⟨#[117]⟩) p d ++ allF f (s ++ ⟨#[100]⟩) u q by rw [allF, if_pos hu, if_pos hd, HP.out, HQ.out]; rfl)
        go_enter Try.func31, Try.ntmps31
        go_wp2_with fail
        have hcall := fun W => IH.out p d (s ++ ⟨#[117]⟩) W (by have := HP.out; omega) (by have := HP.out; omega) h3 (by have := E1.out; omega)
        (with_reducible refine (hcall _).mono ?_)
        clear hcall
        rintro e w1 ⟨v1, rfl, ho1, hb1⟩
        have hn1 := allF_ne f (s ++ ⟨#[117]⟩) p d (by have := HP.out; omega) (by have := HP.out; omega)
        have hm1 := allF_small f (s ++ ⟨#[117]⟩) p d (by omega)
        generalize allF f (s ++ ⟨#[117]⟩) p d = xs1 at *
        obtain ⟨g1, c1, rfl, HC1⟩ := ho1.opened hn1
        have hown1 := ownsRow_keepB (World.ownsRow_made w #[] 0 (Nat.le_refl _) (Nat.zero_le _) (by simp)) hb1 (Nat.le_refl _)
        have hb1' := ((Below.refl w.heap.size w).alloc (Nat.le_refl _) (.cells #[] 9)).trans (hb1.mono (by simp))
        have HHC := Lib.hid HC1
        have HB1 := Lib.hid hb1'
        have z3 := hb1'.size
        clear ho1 hb1 hb1' HC1
        go_wp2_with (at_builtin; go_must (refine wpAppStrs rfl _ _ rfl w.heap.size _ 0 [] xs1 rfl hown1 g1 c1 rfl HHC.out (by omega) (by omega) z3 ?_); intro v2 w2 hown2 hg2)
        have HB2 := Lib.hid (HB1.out.grown hg2 z3 (fun k hk => (hown1.lt k hk).1))
        have z4 := HB2.out.size
        have hcall := fun W => IH.out u q (s ++ ⟨#[100]⟩) W (by have := HQ.out; omega) (by have := HQ.out; omega) (by have := HQ.out; omega) (by have := E2.out; omega)
        (with_reducible refine (hcall _).mono ?_)
        clear hcall
        rintro e w3 ⟨v3, rfl, ho3, hb3⟩
        have hn3 := allF_ne f (s ++ ⟨#[100]⟩) u q (by have := HQ.out; omega) (by have := HQ.out; omega)
        have hm3 := allF_small f (s ++ ⟨#[100]⟩) u q (by omega)
        generalize allF f (s ++ ⟨#[100]⟩) u q = xs3 at *
        obtain ⟨g3, c3, rfl, HC3⟩ := ho3.opened hn3
        have hown3 := ownsRow_keepB hown2 hb3 (Nat.le_refl _)
        have HHC3 := Lib.hid HC3
        have HB3 := Lib.hid (HB2.out.trans (hb3.mono z4))
        have z5 := HB3.out.size
        clear ho3 hb3 HC3
        go_wp2_with (at_builtin; go_must (refine wpAppStrs rfl _ _ rfl w.heap.size _ (0 + xs1.length) ([] ++ xs1) xs3 rfl hown3 g3 c3 rfl HHC3.out (by omega) (by omega) z5 ?_); intro v4 w4 hown4 hg4)
        go_ret
        refine ⟨v4, rfl, ?_, HB3.out.grown hg4 z5 (fun k hk => (hown3.lt k hk).1)⟩
        rw [HA.out]
        exact OwnS.of_row hown4
      · have hdi : ¬ (u : Int) < (d : Int) := by omega
        have HA := Lib.hid (show allF (f + 1) s u d = [] ++ allF f (s ++ ⟨#[117]⟩) p d by rw [allF, if_pos hu, if_neg hd, HP.out, List.append_nil]; rfl)
        go_enter Try.func31, Try.ntmps31
        go_wp2_with fail
        have hcall := fun W => IH.out p d (s ++ ⟨#[117]⟩) W (by have := HP.out; omega) (by have := HP.out; omega) h3 (by have := E1.out; omega)
        (with_reducible refine (hcall _).mono ?_)
        clear hcall
        rintro e w1 ⟨v1, rfl, ho1, hb1⟩
        have hn1 := allF_ne f (s ++ ⟨#[117]⟩) p d (by have := HP.out; omega) (by have := HP.out; omega)
        have hm1 := allF_small f (s ++ ⟨#[117]⟩) p d (by omega)
        generalize allF f (s ++ ⟨#[117]⟩) p d = xs1 at *
        obtain ⟨g1, c1, rfl, HC1⟩ := ho1.opened hn1
        have hown1 := ownsRow_keepB (World.ownsRow_made w #[] 0 (Nat.le_refl _) (Nat.zero_le _) (by simp)) hb1 (Nat.le_refl _)
        have hb1' := ((Below.refl w.heap.size w).alloc (Nat.le_refl _) (.cells #[] 9)).trans (hb1.mono (by simp))
        have HHC := Lib.hid HC1
        have HB1 := Lib.hid hb1'
        have z3 := hb1'.size
        clear ho1 hb1 hb1' HC1
        go_wp2_with (at_builtin; go_must (refine wpAppStrs rfl _ _ rfl w.heap.size _ 0 [] xs1 rfl hown1 g1 c1 rfl HHC.out (by omega) (by omega) z3 ?_); intro v2 w2 hown2 hg2)
        have HB2 := Lib.hid (HB1.out.grown hg2 z3 (fun k hk => (hown1.lt k hk).1))
        have z4 := HB2.out.size
        go_ret
        refine ⟨v2, rfl, ?_, HB2.out⟩
        rw [HA.out]
        exact OwnS.of_row hown2
    · have hui : ¬ (0 : Int) < (u : Int) := by omega
      have hd : u < d := by omega
      have hdi : (u : Int) < (d : Int) := by omega
      obtain ⟨q, HQ, hq⟩ : ∃ q, Hid (d = q + 1) ∧ (d : Int) - 1 = (q : Int) := ⟨d - 1, Lib.hid (by omega), by omega⟩
      have HA := Lib.hid (show allF (f + 1) s u d = [] ++ allF f (s ++ ⟨#[100]⟩) u q by rw [allF, if_neg hu, if_pos hd, HQ.out]; rfl)
      go_enter Try.func31, Try.ntmps31
      go_wp2_with fail
      have hcall := fun W => IH.out u q (s ++ ⟨#[100]⟩) W (by have := HQ.out; omega) (by have := HQ.out; omega) (by have := HQ.out; omega) (by have := E2.out; omega)
      (with_reducible refine (hcall _).mono ?_)
      clear hcall
      rintro e w3 ⟨v3, rfl, ho3, hb3⟩
      have hn3 := allF_ne f (s ++ ⟨#[100]⟩) u q (by have := HQ.out; omega) (by have := HQ.out; omega)
      have hm3 := allF_small f (s ++ ⟨#[100]⟩) u q (by omega)
      generalize allF f (s ++ ⟨#[100]⟩) u q = xs3 at *
      obtain ⟨g3, c3, rfl, HC3⟩ := ho3.opened hn3
      have hown1 := ownsRow_keepB (World.ownsRow_made w #[] 0 (Nat.le_refl _) (Nat.zero_le _) (by simp)) hb3 (Nat.le_refl _)
      have hb1' := ((Below.refl w.heap.size w).alloc (Nat.le_refl _) (.cells #[] 9)).trans (hb3.mono (by simp))
      have HHC := Lib.hid HC3
      have HB1 := Lib.hid hb1'
      have z3 := hb1'.size
      clear ho3 hb3 hb1' HC3
      go_wp2_with (at_builtin; go_must (refine wpAppStrs rfl _ _ rfl w.heap.size _ 0 [] xs3 rfl hown1 g3 c3 rfl HHC.out (by omega) (by omega) z3 ?_); intro v2 w2 hown2 hg2)
      go_ret
      refine ⟨v2, rfl, ?_, HB1.out.grown hg2 z3 (fun k hk => (hown1.lt k hk).1)⟩
      rw [HA.out]
      exact OwnS.of_row hown2

/-- What PathsOf answers. -/
def pathsP (n : Int) : List ByteArray := if 0 ≤ n ∧ n ≤ 6 then allF (n.toNat + n.toNat) ⟨#[]⟩ n.toNat n.toNat else []
set_option maxRecDepth 100000 in
set_option maxHeartbeats 800000 in
theorem pathsOf (n : Int) (w : World) : Calls Try.prog 24 #[.int .i64 n] w (AnsS (pathsP n) w) := by
  by_cases h0 : n < 0
  · have HP := Lib.hid (show pathsP n = [] from if_neg (by omega))
    go_enter Try.func24, Try.ntmps24
    go_wp2_with fail
    (with_reducible refine (l1In_no1 n 0 6 _ h0).mono ?_)
    rintro e w' ⟨rfl, rfl⟩
    go_wp2
    go_ret
    exact ⟨_, rfl, by rw [HP.out]; exact ⟨_, _, rfl, .inl rfl⟩, (Below.refl _ _).alloc (Nat.le_refl _) _⟩
  by_cases h1 : 6 < n
  · have HP := Lib.hid (show pathsP n = [] from if_neg (by omega))
    have h0' : 0 ≤ n := by omega
    go_enter Try.func24, Try.ntmps24
    go_wp2_with fail
    (with_reducible refine (l1In_no2 n 0 6 _ h0' h1).mono ?_)
    rintro e w' ⟨rfl, rfl⟩
    go_wp2
    go_ret
    exact ⟨_, rfl, by rw [HP.out]; exact ⟨_, _, rfl, .inl rfl⟩, (Below.refl _ _).alloc (Nat.le_refl _) _⟩
  obtain ⟨m, rfl⟩ : ∃ m : Nat, n = m := ⟨n.toNat, by omega⟩
  have h0' : (0 : Int) ≤ (m : Int) := by omega
  have h1' : (m : Int) ≤ 6 := by omega
  have HP := Lib.hid (show pathsP m = allF (m + m) ⟨#[]⟩ m m from if_pos ⟨h0', h1'⟩)
  go_enter Try.func24, Try.ntmps24
  go_wp2_with fail
  (with_reducible refine (l1In_yes _ 0 6 _ h0' h1').mono ?_)
  rintro e w' ⟨rfl, rfl⟩
  go_wp2_with fail
  refine (l3All (m + m) m m ⟨#[]⟩ _ rfl (Nat.le_refl _) (by omega) (by have : (⟨#[]⟩ : ByteArray).size = 0 := rfl; omega)).mono ?_
  rintro e w1 ⟨v1, rfl, ho, hb⟩
  go_wp2
  go_ret
  exact ⟨_, rfl, by rw [HP.out]; exact ho, hb⟩

end Go.Proofs.Ytgaggpdlpcldeaa
end

section
namespace Go.Proofs.Ytgaggpdlpcldeaa
open Go.ChangeShapes Go.WideShapes Go.ChangeAt Go.RowKit
open Go.PlainAid (bt bt_nonneg bt_le get_bt)
set_option linter.unusedVariables false

/-- The parentheses of the first k letters. -/
def brL (s : ByteArray) : Nat → List UInt8
  | 0 => []
  | k + 1 => brL s k ++ [if bt s k = 117 then 40 else 41]
theorem brL_len (s : ByteArray) (k : Nat) : (brL s k).length = k := by
  induction k with
  | zero => rfl
  | succ k ih => rw [brL, List.length_append, ih]; rfl
def bracketsP (s : ByteArray) : ByteArray := if dyck s = true then ⟨(brL s s.size).toArray⟩ else ⟨#[]⟩

/-- The letters of the first k parentheses. -/
def pbL (s : ByteArray) : Nat → List UInt8
  | 0 => []
  | k + 1 => pbL s k ++ [if bt s k = 40 then 117 else 100]
theorem pbL_len (s : ByteArray) (k : Nat) : (pbL s k).length = k := by
  induction k with
  | zero => rfl
  | succ k ih => rw [pbL, List.length_append, ih]; rfl
def pobW (s : ByteArray) : ByteArray := ⟨(pbL s s.size).toArray⟩
theorem pobW_size (s : ByteArray) : (pobW s).size = s.size := by unfold pobW; rw [str_len, pbL_len]
def pobGood (s : ByteArray) : Prop := s.size ≤ 16 ∧ (∀ j, j < s.size → bt s j = 40 ∨ bt s j = 41) ∧ dyck (pobW s) = true
open Classical in
noncomputable def pobOk (s : ByteArray) : Bool := decide (pobGood s)
noncomputable def pobP (s : ByteArray) : ByteArray := if pobOk s = true then pobW s else ⟨#[]⟩
open Classical in
theorem pob_no {s : ByteArray} (h : ¬ pobGood s) : pobOk s = false ∧ pobP s = ⟨#[]⟩ := by
  have : pobOk s = false := by unfold pobOk; exact decide_eq_false h
  exact ⟨this, by unfold pobP; rw [this]; rfl⟩
open Classical in
theorem pob_yes {s : ByteArray} (h : pobGood s) : pobOk s = true ∧ pobP s = pobW s := by
  have : pobOk s = true := by unfold pobOk; exact decide_eq_true h
  exact ⟨this, by unfold pobP; rw [this]; rfl⟩

/-- What NestedPairs answers. -/
noncomputable def nestedP (s : ByteArray) : Int := if pobOk s = true then areaP (pobW s) else -1
/-- What ShiftBrackets answers. -/
def shW (s : ByteArray) (k : Nat) : ByteArray := ((s.extract 1 k ++ ⟨#[40]⟩) ++ s.extract (k + 1) s.size) ++ ⟨#[41]⟩
noncomputable def shiftP (s : ByteArray) : ByteArray := if pobOk s = true ∧ 0 < s.size then shW s (cutP (pobW s)).toNat else ⟨#[]⟩
end Go.Proofs.Ytgaggpdlpcldeaa
end

section
namespace Go.Proofs.Ytgaggpdlpcldeaa
open Go.ChangeShapes Go.WideShapes Go.ChangeAt Go.RowKit
open Go.PlainAid (bt bt_nonneg bt_le get_bt)
set_option linter.unusedVariables false

/-- The greatest of n and the numbers. -/
def mxL : Int → List Int → Int
  | n, [] => n
  | n, x :: l => mxL (max n x) l
theorem mxL_nil (n : Int) : mxL n [] = n := rfl
theorem mxL_cons (n x : Int) (l : List Int) : mxL n (x :: l) = mxL (max n x) l := rfl
noncomputable def depthP (s : ByteArray) : Int := if pobOk s = true then mxL 0 (heightsP (pobW s)) else -1

/-- Back from the letters below k, at height h: the place where the height comes to 0; -1 if it never does. -/
def bkL (s : ByteArray) : Nat → Int → Int
  | 0, _ => -1
  | k + 1, h => if (if bt s k = 100 then h + 1 else h - 1) = 0 then k else bkL s k (if bt s k = 100 then h + 1 else h - 1)
theorem bkL_zero (s : ByteArray) (h : Int) : bkL s 0 h = -1 := rfl
theorem bkL_hit (s : ByteArray) (k : Nat) (h : Int) (e : (if bt s k = 100 then h + 1 else h - 1) = 0) : bkL s (k + 1) h = k := by rw [bkL, if_pos e]
theorem bkL_miss (s : ByteArray) (k : Nat) (h : Int) (e : ¬ (if bt s k = 100 then h + 1 else h - 1) = 0) : bkL s (k + 1) h = bkL s k (if bt s k = 100 then h + 1 else h - 1) := by rw [bkL, if_neg e]
/-- Where the walk goes on: forth from u, and back from there if it found nothing; back from d. -/
def fwL (s : ByteArray) (i : Nat) : Int → List UInt8 → Nat → Int
  | h, [], _ => bkL s (i + 1) h
  | h, c :: l, k => if (if c.toNat = 117 then h + 1 else h - 1) = 0 then k else fwL s i (if c.toNat = 117 then h + 1 else h - 1) l (k + 1)
theorem fwL_nil (s : ByteArray) (i : Nat) (h : Int) (k : Nat) : fwL s i h [] k = bkL s (i + 1) h := rfl
theorem fwL_hit (s : ByteArray) (i : Nat) (h : Int) (c : UInt8) (l : List UInt8) (k : Nat) (e : (if c.toNat = 117 then h + 1 else h - 1) = 0) : fwL s i h (c :: l) k = k := by rw [fwL, if_pos e]
theorem fwL_miss (s : ByteArray) (i : Nat) (h : Int) (c : UInt8) (l : List UInt8) (k : Nat) (e : ¬ (if c.toNat = 117 then h + 1 else h - 1) = 0) : fwL s i h (c :: l) k = fwL s i (if c.toNat = 117 then h + 1 else h - 1) l (k + 1) := by rw [fwL, if_neg e]
def partL (s : ByteArray) (i : Nat) : Int := if bt s i = 117 then fwL s i 0 (rest s i) i else bkL s (i + 1) 0

set_option maxRecDepth 100000 in
set_option maxHeartbeats 3200000 in
theorem l4Partner (s : ByteArray) (i : Nat) (w : World) (hs : s.size ≤ 1099511627776) (hi : i < s.size) : Calls Try.prog 33 #[.string s, .int .i64 i] w fun e w' => e = .returned (.int .i64 (partL s i)) ∧ w = w' := by
  have hbt := get_bt s
  have hii : (i : Int) < (s.size : Int) := by omega
  by_cases e0 : bt s i = 117
  · have b0 : (bt s i == 117) = true := by simp [e0]
    have HP := Lib.hid (show partL s i = fwL s i 0 (rest s i) i from if_pos e0)
    clear e0
    go_enter Try.func33, Try.ntmps33
    go_wp2
    go_loop [5, 6] (fun x y => ∃ (k : Nat) (h : Int), k ≤ s.size ∧ -(k : Int) ≤ h ∧ h ≤ k ∧ y = .int .i64 k ∧ x = .int .i64 h ∧ partL s i = fwL s i h (rest s k) k) (fun _ y => s.size - (intOf y).toNat)
    case atStart => exact ⟨i, 0, by omega, by omega, by omega, rfl, rfl, HP.out⟩
    case round =>
      obtain ⟨k, h, hk, h1, h2, rfl, rfl, hc⟩ := hrel
      have HC := Lib.hid hc
      clear hc
      by_cases hlt : k < s.size
      · have hki : (k : Int) < (s.size : Int) := by omega
        have HR := Lib.hid (rest_cons s k hlt)
        have HBB := Lib.hid (bt_at s k hlt)
        by_cases e1 : bt s k = 117
        · have b1 : (bt s k == 117) = true := by simp [e1]
          have HE := Lib.hid (show s[k].toNat = 117 by have := HBB.out; omega)
          clear e1
          by_cases hz : h + 1 = 0
          · have b2 : (h + 1 == 0) = true := by simp [hz]
            have HZ := Lib.hid hz
            clear hz
            go_wp2
            go_ret
            exact ⟨ret_int (by rw [HC.out, HR.out, fwL_hit _ _ _ _ _ _ (by rw [if_pos HE.out]; exact HZ.out)]), rfl⟩
          · have b2 : (h + 1 == 0) = false := by simp [hz]
            have HZ := Lib.hid hz
            clear hz
            go_wp2
            exact ⟨⟨k + 1, h + 1, by omega, by omega, by omega, by simp, rfl, by rw [HC.out, HR.out, fwL_miss _ _ _ _ _ _ (by rw [if_pos HE.out]; exact HZ.out), if_pos HE.out]⟩, by simp [intOf]; omega⟩
        · have b1 : (bt s k == 117) = false := by simp [e1]
          have HE := Lib.hid (show s[k].toNat ≠ 117 by have := HBB.out; omega)
          clear e1
          by_cases hz : h - 1 = 0
          · have b2 : (h - 1 == 0) = true := by simp [hz]
            have HZ := Lib.hid hz
            clear hz
            go_wp2
            go_ret
            exact ⟨ret_int (by rw [HC.out, HR.out, fwL_hit _ _ _ _ _ _ (by rw [if_neg HE.out]; exact HZ.out)]), rfl⟩
          · have b2 : (h - 1 == 0) = false := by simp [hz]
            have HZ := Lib.hid hz
            clear hz
            go_wp2
            exact ⟨⟨k + 1, h - 1, by omega, by omega, by omega, by simp, rfl, by rw [HC.out, HR.out, fwL_miss _ _ _ _ _ _ (by rw [if_neg HE.out]; exact HZ.out), if_neg HE.out]⟩, by simp [intOf]; omega⟩
      · have HE := Lib.hid (rest_end s k (by omega))
        have hki : ¬ (k : Int) < (s.size : Int) := by omega
        go_wp2
        go_loop [5, 7] (fun x y => ∃ (q : Nat) (g : Int), q ≤ s.size ∧ -(2 * s.size + 1 : Int) + q ≤ g ∧ g ≤ 2 * s.size + 1 - q ∧ y = .int .i64 ((q : Int) - 1) ∧ x = .int .i64 g ∧ partL s i = bkL s q g) (fun _ y => (intOf y + 1).toNat)
        case atStart => exact ⟨i + 1, h, by omega, by omega, by omega, by congr 1; omega, rfl, by rw [HC.out, HE.out, fwL_nil]⟩
        case round =>
          obtain ⟨q, g, hq, g1, g2, rfl, rfl, hc⟩ := hrel
          have HC := Lib.hid hc
          clear hc
          rcases q with _ | q
          · go_wp2
            go_ret
            exact ⟨ret_int (by rw [HC.out, bkL_zero]), rfl⟩
          · have hq1 : ((q + 1 : Nat) : Int) - 1 = (q : Int) := by omega
            rw [hq1]
            have hqi : (q : Int) < (s.size : Int) := by omega
            by_cases e1 : bt s q = 100
            · have b1 : (bt s q == 100) = true := by simp [e1]
              have HE := Lib.hid e1
              clear e1
              by_cases hz : g + 1 = 0
              · have b2 : (g + 1 == 0) = true := by simp [hz]
                have HZ := Lib.hid hz
                clear hz
                go_wp2
                go_ret
                exact ⟨ret_int (by rw [HC.out, bkL_hit _ _ _ (by rw [if_pos HE.out]; exact HZ.out)]), rfl⟩
              · have b2 : (g + 1 == 0) = false := by simp [hz]
                have HZ := Lib.hid hz
                clear hz
                go_wp2
                exact ⟨⟨q, g + 1, by omega, by omega, by omega, rfl, rfl, by rw [HC.out, bkL_miss _ _ _ (by rw [if_pos HE.out]; exact HZ.out), if_pos HE.out]⟩, by simp [intOf]⟩
            · have b1 : (bt s q == 100) = false := by simp [e1]
              have HE := Lib.hid e1
              clear e1
              by_cases hz : g - 1 = 0
              · have b2 : (g - 1 == 0) = true := by simp [hz]
                have HZ := Lib.hid hz
                clear hz
                go_wp2
                go_ret
                exact ⟨ret_int (by rw [HC.out, bkL_hit _ _ _ (by rw [if_neg HE.out]; exact HZ.out)]), rfl⟩
              · have b2 : (g - 1 == 0) = false := by simp [hz]
                have HZ := Lib.hid hz
                clear hz
                go_wp2
                exact ⟨⟨q, g - 1, by omega, by omega, by omega, rfl, rfl, by rw [HC.out, bkL_miss _ _ _ (by rw [if_neg HE.out]; exact HZ.out), if_neg HE.out]⟩, by simp [intOf]⟩
  · have b0 : (bt s i == 117) = false := by simp [e0]
    have HP := Lib.hid (show partL s i = bkL s (i + 1) 0 from if_neg e0)
    clear e0
    go_enter Try.func33, Try.ntmps33
    go_wp2
    go_loop [5, 7] (fun x y => ∃ (q : Nat) (g : Int), q ≤ s.size ∧ -(2 * s.size + 1 : Int) + q ≤ g ∧ g ≤ 2 * s.size + 1 - q ∧ y = .int .i64 ((q : Int) - 1) ∧ x = .int .i64 g ∧ partL s i = bkL s q g) (fun _ y => (intOf y + 1).toNat)
    case atStart => exact ⟨i + 1, 0, by omega, by omega, by omega, by congr 1; omega, rfl, HP.out⟩
    case round =>
      obtain ⟨q, g, hq, g1, g2, rfl, rfl, hc⟩ := hrel
      have HC := Lib.hid hc
      clear hc
      rcases q with _ | q
      · go_wp2
        go_ret
        exact ⟨ret_int (by rw [HC.out, bkL_zero]), rfl⟩
      · have hq1 : ((q + 1 : Nat) : Int) - 1 = (q : Int) := by omega
        rw [hq1]
        have hqi : (q : Int) < (s.size : Int) := by omega
        by_cases e1 : bt s q = 100
        · have b1 : (bt s q == 100) = true := by simp [e1]
          have HE := Lib.hid e1
          clear e1
          by_cases hz : g + 1 = 0
          · have b2 : (g + 1 == 0) = true := by simp [hz]
            have HZ := Lib.hid hz
            clear hz
            go_wp2
            go_ret
            exact ⟨ret_int (by rw [HC.out, bkL_hit _ _ _ (by rw [if_pos HE.out]; exact HZ.out)]), rfl⟩
          · have b2 : (g + 1 == 0) = false := by simp [hz]
            have HZ := Lib.hid hz
            clear hz
            go_wp2
            exact ⟨⟨q, g + 1, by omega, by omega, by omega, rfl, rfl, by rw [HC.out, bkL_miss _ _ _ (by rw [if_pos HE.out]; exact HZ.out), if_pos HE.out]⟩, by simp [intOf]⟩
        · have b1 : (bt s q == 100) = false := by simp [e1]
          have HE := Lib.hid e1
          clear e1
          by_cases hz : g - 1 = 0
          · have b2 : (g - 1 == 0) = true := by simp [hz]
            have HZ := Lib.hid hz
            clear hz
            go_wp2
            go_ret
            exact ⟨ret_int (by rw [HC.out, bkL_hit _ _ _ (by rw [if_neg HE.out]; exact HZ.out)]), rfl⟩
          · have b2 : (g - 1 == 0) = false := by simp [hz]
            have HZ := Lib.hid hz
            clear hz
            go_wp2
            exact ⟨⟨q, g - 1, by omega, by omega, by omega, rfl, rfl, by rw [HC.out, bkL_miss _ _ _ (by rw [if_neg HE.out]; exact HZ.out), if_neg HE.out]⟩, by simp [intOf]⟩

/-- What PartnerOf answers. -/
noncomputable def partnerP (s : ByteArray) (i : Int) : Int := if pobOk s = true ∧ 0 ≤ i ∧ i ≤ (s.size : Int) - 1 then partL (pobW s) i.toNat else -1
end Go.Proofs.Ytgaggpdlpcldeaa
end

section
namespace Go.Proofs.Ytgaggpdlpcldeaa
open Go.ChangeShapes Go.WideShapes Go.ChangeAt Go.RowKit
open Go.PlainAid (bt bt_nonneg bt_le get_bt)
set_option linter.unusedVariables false

/-- A function that answers the ints xs in memory of its own, and whether. -/
def AnsIB (xs : List Int) (b : Bool) (w : World) (e : Ending) (w' : World) : Prop := ∃ v, e = .returned (.tuple #[v, .bool b]) ∧ OwnI w' w.heap.size w'.heap.size v xs ∧ Below w.heap.size w w'
/-- The partners of all letters of a path. -/
def mtL (s : ByteArray) (k : Nat) : List Int := (List.range k).map fun q => partL s q
theorem mtL_len (s : ByteArray) (k : Nat) : (mtL s k).length = k := by simp [mtL]
theorem mtL_succ (s : ByteArray) (k : Nat) : mtL s (k + 1) = mtL s k ++ [partL s k] := by simp [mtL, List.range_succ]
def matchingP (s : ByteArray) : List Int := if dyck s = true then mtL s s.size else []

set_option maxRecDepth 100000 in
set_option maxHeartbeats 1600000 in
theorem matchingOf (s : ByteArray) (w : World) (hs : s.size ≤ 1099511627776) : Calls Try.prog 25 #[.string s] w (AnsIB (matchingP s) (dyck s) w) := by
  rcases hd : dyck s with _ | _
  · have HP := Lib.hid (show matchingP s = [] from if_neg (by simp [hd]))
    have HD := Lib.hid hd
    clear hd
    go_enter Try.func25, Try.ntmps25
    go_wp2
    refine wp_loop_rounds 1 ?_
    rw [rounds_succ]
    by_cases h0 : s.size = 0
    · have h0' : ¬ (0 : Int) < (s.size : Int) := by omega
      have HZ := Lib.hid h0
      clear h0
      go_wp2_with fail
      (with_reducible refine (isDyck_no s _ hs HD.out).mono ?_)
      rintro e w' ⟨rfl, rfl⟩
      go_wp2
      go_ret2
      exact ⟨_, rfl, by rw [HP.out]; exact ⟨_, _, rfl, .inl rfl⟩, (Below.refl _ _).alloc (Nat.le_refl _) _⟩
    · have h0' : (0 : Int) < (s.size : Int) := by omega
      have HZ := Lib.hid h0
      clear h0
      go_wp2_with fail
      (with_reducible refine (isDyck_no s _ hs HD.out).mono ?_)
      rintro e w' ⟨rfl, rfl⟩
      go_wp2_with fail
      (with_reducible refine (isDyck_no s _ hs HD.out).mono ?_)
      rintro e w' ⟨rfl, rfl⟩
      go_wp2
      go_ret2
      exact ⟨_, rfl, by rw [HP.out]; exact ⟨_, _, rfl, .inl rfl⟩, (Below.refl _ _).alloc (Nat.le_refl _) _⟩
  · have HP := Lib.hid (show matchingP s = mtL s s.size from if_pos hd)
    have HD := Lib.hid hd
    have h16 := dyck_size hd
    clear hd
    go_enter Try.func25, Try.ntmps25
    go_wp2
    go_loopw [4, 5] (fun v y wr => ∃ i : Nat, i ≤ s.size ∧ y = .int .i64 i ∧ wr.ownsRow w.heap.size 3 1 v (mtL s i).length ((mtL s i).map (Value.int .i64)) ∧ Below w.heap.size w wr)
      (fun _ y _ => s.size - (intOf y).toNat)
    case atStart => exact ⟨0, Nat.zero_le _, rfl, World.ownsRow_made w #[] 0 (Nat.le_refl _) (Nat.zero_le _) (by simp), (Below.refl _ _).alloc (Nat.le_refl _) _⟩
    case round =>
      obtain ⟨i, hi, rfl, hown, hb⟩ := hrel
      have hl2 : (mtL s i).length ≤ 1000 := by rw [mtL_len]; omega
      have HS := Lib.hid (mtL_succ s i)
      have hB := hb.size
      by_cases hlt : i < s.size
      · have hii : (i : Int) < (s.size : Int) := by omega
        generalize mtL s i = acc at *
        go_wp2_with fail
        (with_reducible refine (isDyck_yes s _ hs HD.out).mono ?_)
        rintro e w' ⟨rfl, rfl⟩
        go_wp2_with fail
        (with_reducible refine (l4Partner s i _ hs hlt).mono ?_)
        rintro e w' ⟨rfl, rfl⟩
        generalize partL s i = z at *
        go_wp2_with (at_builtin; go_must (refine wpAppInt rfl _ _ rfl w.heap.size u4 _ _ rfl (hown.alloc _) wr.heap.size _ _ rfl (cell_one _ _ _) (by omega) (base_up hB) ?_); intro v' w' hown' hg')
        go_roundw
        case rel => exact ⟨i + 1, by omega, by simp, by rw [HS.out, List.length_append]; simpa using hown', (hb.alloc hB _).grown hg' (base_up hB) (fun k hk => (hown.lt k hk).1)⟩
        case measure => simp [intOf]; omega
      · obtain rfl : i = s.size := by omega
        have HOW := Lib.hid (OwnI.of_row hown)
        clear hown hl2
        generalize mtL s s.size = acc at *
        go_wp2_with fail
        (with_reducible refine (isDyck_yes s _ hs HD.out).mono ?_)
        rintro e w' ⟨rfl, rfl⟩
        go_wp2
        go_ret2
        exact ⟨_, rfl, by rw [HP.out]; exact HOW.out, hb⟩

/-- The point j has another one as partner, whose partner it is. -/
def mtOk (xs : List Int) (j : Nat) : Prop := 0 ≤ xs.getD j 0 ∧ xs.getD j 0 ≤ (xs.length : Int) - 1 ∧ xs.getD j 0 ≠ (j : Int) ∧ xs.getD (xs.getD j 0).toNat 0 = (j : Int)
instance (xs : List Int) (j : Nat) : Decidable (mtOk xs j) := by unfold mtOk; infer_instance
def matchP (xs : List Int) : Bool := decide (xs.length ≤ 16 ∧ ∀ j, j < xs.length → mtOk xs j)
theorem match_no {xs : List Int} {j : Nat} (hj : j < xs.length) (h : ¬ mtOk xs j) : matchP xs = false := decide_eq_false fun hh => h (hh.2 j hj)
theorem match_yes {xs : List Int} (h : matchP xs = true) : xs.length ≤ 16 ∧ ∀ j, j < xs.length → mtOk xs j := of_decide_eq_true h

set_option maxRecDepth 100000 in
set_option maxHeartbeats 1600000 in
theorem isMatching (v : Value) (xs : List Int) (lo hi : Nat) (w : World) (hv : OwnI w lo hi v xs) (hl : xs.length ≤ 1099511627776) :
    Calls Try.prog 38 #[v] w fun e w' => e = .returned (.bool (matchP xs)) ∧ w = w' := by
  obtain ⟨A1, c1, rfl, k1⟩ := id hv
  clear k1
  have HV := Lib.hid hv
  clear hv
  go_enter Try.func38, Try.ntmps38
  go_wp2
  go_loop [3] (fun x => ∃ j : Nat, j ≤ xs.length ∧ x = .int .i64 j ∧ ∀ q, q < j → mtOk xs q) (fun x => xs.length - (intOf x).toNat)
  case atStart => exact ⟨0, Nat.zero_le _, rfl, fun q h => by omega⟩
  case round =>
    obtain ⟨j, hj, rfl, hok⟩ := hrel
    have HOK := Lib.hid hok
    clear hok
    by_cases hlt : j < xs.length
    · obtain ⟨g1, p1, e1, -, -, hc1, -⟩ := HV.out.cell hlt
      simp only [Value.slice.injEq] at e1
      obtain ⟨rfl, -, rfl⟩ := e1
      have hji : (j : Int) < (xs.length : Int) := by omega
      have HNO := Lib.hid (fun h : ¬ mtOk xs j => match_no hlt h)
      have HMT := Lib.hid (show mtOk xs j ↔ _ from Iff.rfl)
      generalize hy : xs.getD j 0 = y at hc1
      have HY := Lib.hid hy
      clear hy
      by_cases y0 : y < 0
      · go_wp2_with fail
        (with_reducible refine (l1In_no1 _ _ _ _ y0).mono ?_)
        rintro e w' ⟨rfl, rfl⟩
        go_wp2
        go_ret
        exact ⟨ret_bool (HNO.out fun h => by have := h.1; rw [HY.out] at this; omega).symm, rfl⟩
      · by_cases y1 : (xs.length : Int) - 1 < y
        · go_wp2_with fail
          (with_reducible refine (l1In_no2 _ _ _ _ (by omega) y1).mono ?_)
          rintro e w' ⟨rfl, rfl⟩
          go_wp2
          go_ret
          exact ⟨ret_bool (HNO.out fun h => by have := h.2.1; rw [HY.out] at this; omega).symm, rfl⟩
        · obtain ⟨k, rfl⟩ : ∃ k : Nat, y = k := ⟨y.toNat, by omega⟩
          have hk : k < xs.length := by omega
          have hki : (k : Int) < (xs.length : Int) := by omega
          obtain ⟨g2, p2, e2, -, -, hc2, -⟩ := HV.out.cell hk
          obtain rfl : g1 = g2 := by simpa using (Value.slice.inj e2).1
          have HZ := Lib.hid (show xs.getD (xs.getD j 0).toNat 0 = xs.getD k 0 by rw [HY.out]; rfl)
          generalize xs.getD k 0 = z at hc2 HZ
          by_cases ek : k = j
          · subst ek
            clear hc2
            go_wp2_with fail
            (with_reducible refine (l1In_yes _ _ _ _ (by omega) (by omega)).mono ?_)
            rintro e w' ⟨rfl, rfl⟩
            go_wp2
            go_ret
            exact ⟨ret_bool (HNO.out fun h => h.2.2.1 HY.out).symm, rfl⟩
          · have ek2 : ((k : Int) == (j : Int)) = false := beq_eq_false_iff_ne.2 (by omega)
            by_cases ez : z = (j : Int)
            · subst ez
              go_wp2_with fail
              (with_reducible refine (l1In_yes _ _ _ _ (by omega) (by omega)).mono ?_)
              rintro e w' ⟨rfl, rfl⟩
              go_wp2
              refine ⟨⟨j + 1, by omega, by simp, fun q hq => ?_⟩, by simp [intOf]; omega⟩
              by_cases e : q < j
              · exact HOK.out q e
              · obtain rfl : q = j := by omega
                exact ⟨by rw [HY.out]; omega, by rw [HY.out]; omega, by rw [HY.out]; omega, HZ.out⟩
            · have ez2 : (z != (j : Int)) = true := by simp [ez]
              have HEZ := Lib.hid ez
              clear ez
              go_wp2_with fail
              (with_reducible refine (l1In_yes _ _ _ _ (by omega) (by omega)).mono ?_)
              rintro e w' ⟨rfl, rfl⟩
              go_wp2
              go_ret
              exact ⟨ret_bool (HNO.out fun h => HEZ.out (HZ.out.symm.trans h.2.2.2)).symm, rfl⟩
    · obtain rfl : j = xs.length := by omega
      go_wp2
      go_ret
      refine ⟨ret_bool ?_, rfl⟩
      unfold matchP
      rw [decide_eq_decide]
      exact ⟨fun h => ⟨by omega, HOK.out⟩, fun h => by have := h.1; omega⟩

/-- Pairs of arcs that cross. -/
def crR (xs : List Int) (a b : Nat) : Nat := if (b : Int) < xs.getD a 0 ∧ xs.getD a 0 < xs.getD b 0 then 1 else 0
def crIn (xs : List Int) (a : Nat) : Nat → Nat
  | 0 => 0
  | k + 1 => crIn xs a k + crR xs a (a + 1 + k)
def crOut (xs : List Int) : Nat → Nat
  | 0 => 0
  | a + 1 => crOut xs a + crIn xs a (xs.length - (a + 1))
theorem crIn_le (xs : List Int) (a : Nat) : ∀ k, crIn xs a k ≤ k := by
  intro k
  induction k with
  | zero => exact Nat.le_refl _
  | succ k ih => rw [crIn]; have : crR xs a (a + 1 + k) ≤ 1 := by unfold crR; split <;> omega
                 omega
theorem crOut_le (xs : List Int) : ∀ a, crOut xs a ≤ a * xs.length := by
  intro a
  induction a with
  | zero => exact Nat.zero_le _
  | succ a ih => rw [crOut, Nat.succ_mul]; have := crIn_le xs a (xs.length - (a + 1)); omega
def crossP (xs : List Int) : Int := if matchP xs = true then (crOut xs xs.length : Int) else -1

set_option maxRecDepth 100000 in
set_option maxHeartbeats 3200000 in
theorem crossingsOf (v : Value) (xs : List Int) (lo hi : Nat) (w : World) (hv : OwnI w lo hi v xs) (hl : xs.length ≤ 1099511627776) :
    Calls Try.prog 30 #[v] w fun e w' => e = .returned (.int .i64 (crossP xs)) ∧ Below w.heap.size w w' := by
  obtain ⟨A1, c1, rfl, k1⟩ := id hv
  clear k1
  have HV := Lib.hid hv
  clear hv
  rcases hm : matchP xs with _ | _
  · have HP := Lib.hid (show crossP xs = -1 from if_neg (by simp [hm]))
    have HM := Lib.hid (fun w (h : OwnI w lo hi (.slice A1 xs.length c1) xs) => isMatching _ xs lo hi w h hl)
    rw [hm] at HM
    clear hm
    go_enter Try.func30, Try.ntmps30
    go_wp2_with fail
    (with_reducible refine (HM.out _ HV.out).mono ?_)
    rintro e w' ⟨rfl, rfl⟩
    go_wp2
    go_ret
    exact ⟨ret_int HP.out.symm, Below.refl _ _⟩
  · have HP := Lib.hid (show crossP xs = (crOut xs xs.length : Int) from if_pos hm)
    have HM := Lib.hid (fun w (h : OwnI w lo hi (.slice A1 xs.length c1) xs) => isMatching _ xs lo hi w h hl)
    rw [hm] at HM
    have h16 := (match_yes hm).1
    have HLE := Lib.hid (fun a (ha : a ≤ 16) => show crOut xs a ≤ 256 from Nat.le_trans (crOut_le xs a) (Nat.mul_le_mul ha h16))
    clear hm
    go_enter Try.func30, Try.ntmps30
    go_wp2_with fail
    (with_reducible refine (HM.out _ HV.out).mono ?_)
    rintro e w' ⟨rfl, rfl⟩
    go_wp2
    go_loopw [3, 4] (fun x y wr => ∃ (a q : Nat), a ≤ xs.length ∧ y = .int .i64 a ∧ x = .int .i64 (crOut xs a : Nat) ∧ wr = w.drewN q) (fun _ y _ => xs.length - (intOf y).toNat)
    case atStart => exact ⟨0, 0, Nat.zero_le _, rfl, rfl, rfl⟩
    case round =>
      obtain ⟨a, q, ha, rfl, rfl, rfl⟩ := hrel
      have hle := HLE.out a (by omega)
      by_cases hlt : a < xs.length
      · obtain ⟨g1, p1, e1, -, -, hc1, -⟩ := HV.out.cell hlt
        simp only [Value.slice.injEq] at e1
        obtain ⟨rfl, -, rfl⟩ := e1
        have hai : (a : Int) < (xs.length : Int) := by omega
        have HSUC := Lib.hid (show crOut xs (a + 1) = crOut xs a + crIn xs a (xs.length - (a + 1)) from rfl)
        generalize crOut xs a = na at *
        have HR := Lib.hid (fun b => show crR xs a b = if (b : Int) < xs.getD a 0 ∧ xs.getD a 0 < xs.getD b 0 then 1 else 0 from rfl)
        generalize hx : xs.getD a 0 = x at hc1 HR
        clear hx
        go_wp2
        go_loopw [3, 5] (fun x y wr => ∃ (k q : Nat), a + 1 + k ≤ xs.length ∧ y = .int .i64 ((a + 1 + k : Nat) : Int) ∧ x = .int .i64 ((na + crIn xs a k : Nat) : Int) ∧ wr = w.drewN q) (fun _ y _ => xs.length - (intOf y).toNat)
        case atStart => exact ⟨0, q, by omega, by simp, rfl, rfl⟩
        case round =>
          obtain ⟨k, q, hk, rfl, rfl, rfl⟩ := hrel
          have hin := crIn_le xs a k
          have HIN := Lib.hid (show crIn xs a (k + 1) = crIn xs a k + crR xs a (a + 1 + k) from rfl)
          have HRB := Lib.hid (HR.out (a + 1 + k))
          generalize hnb : crIn xs a k = nb at *
          have HNB := Lib.hid hnb
          clear hnb
          by_cases hkl : a + 1 + k < xs.length
          · obtain ⟨g2, p2, e2, -, -, hc2, -⟩ := HV.out.cell hkl
            obtain rfl : g1 = g2 := by simpa using (Value.slice.inj e2).1
            generalize xs.getD (a + 1 + k) 0 = y at hc2 HRB
            have hk16 : k ≤ 16 := by omega
            have HK := Lib.hid hk
            generalize hb : a + 1 + k = b at *
            have HBB := Lib.hid hb
            clear hb
            have hbi : (b : Int) < (xs.length : Int) := by omega
            by_cases c1 : (b : Int) < x
            · by_cases c2 : x < y
              · have HE := Lib.hid (HRB.out.trans (if_pos ⟨c1, c2⟩))
                go_wp2
                go_quiet (fail)
                go_wp2
                refine ⟨⟨k + 1, q + nq, by have := HBB.out; omega, by have := HBB.out; congr 1; omega, by rw [HIN.out, HE.out]; congr 1, rfl⟩, by simp [intOf]; omega⟩
              · have HE := Lib.hid (HRB.out.trans (if_neg fun h => c2 h.2))
                go_wp2
                go_quiet (fail)
                go_wp2
                refine ⟨⟨k + 1, q + nq, by have := HBB.out; omega, by have := HBB.out; congr 1; omega, by rw [HIN.out, HE.out]; rfl, rfl⟩, by simp [intOf]; omega⟩
            · have HE := Lib.hid (HRB.out.trans (if_neg fun h => c1 h.1))
              have c1d : decide ((b : Int) < x) = false := decide_eq_false c1
              go_wp2
              go_quiet (fail)
              go_wp2
              refine ⟨⟨k + 1, q + nq, by have := HBB.out; omega, by have := HBB.out; congr 1; omega, by rw [HIN.out, HE.out]; rfl, rfl⟩, by simp [intOf]; omega⟩
          · have hkn : ¬ ((a + 1 + k : Nat) : Int) < (xs.length : Int) := by omega
            have HKE := Lib.hid (show xs.length - (a + 1) = k by omega)
            generalize ((a + 1 + k : Nat) : Int) = bb at *
            go_wp2
            refine ⟨⟨a + 1, q, by omega, by simp, by rw [HSUC.out, HKE.out, HNB.out], rfl⟩, by simp [intOf]; omega⟩
      · obtain rfl : a = xs.length := by omega
        go_wp2
        go_ret
        exact ⟨ret_int HP.out.symm, below_drewN (Below.refl _ _) _⟩

theorem noncrossing (v : Value) (xs : List Int) (lo hi : Nat) (w : World) (hv : OwnI w lo hi v xs) (hl : xs.length ≤ 1099511627776) :
    Calls Try.prog 22 #[v] w fun e w' => e = .returned (.bool (crossP xs == 0)) ∧ Below w.heap.size w w' := by
  have H := Lib.hid (crossingsOf v xs lo hi w hv hl)
  obtain ⟨A1, c1, rfl, -⟩ := hv
  obtain ⟨z, hz⟩ : ∃ z, z = crossP xs := ⟨_, rfl⟩
  rw [← hz] at H ⊢
  clear hz
  go_enter Try.func22, Try.ntmps22
  go_wp2_with fail
  (with_reducible refine H.out.mono ?_)
  rintro e w' ⟨rfl, hb⟩
  go_wp2
  go_ret
  exact ⟨rfl, hb⟩

end Go.Proofs.Ytgaggpdlpcldeaa
end

section
namespace Go.Proofs.Ytgaggpdlpcldeaa
open Go.ChangeShapes Go.WideShapes Go.ChangeAt Go.RowKit
set_option linter.unusedVariables false

/-- Sums of f from a on, up to k. -/
def sm (f : Nat → Int) (a : Nat) : Nat → Int
  | 0 => if a = 0 then f 0 else 0
  | k + 1 => sm f a k + if a ≤ k + 1 then f (k + 1) else 0
theorem sm_low (f : Nat → Int) (a : Nat) : ∀ k, k < a → sm f a k = 0 := by
  intro k
  induction k with
  | zero => intro h; rw [sm, if_neg (by omega)]
  | succ k ih => intro h; rw [sm, if_neg (by omega), ih (by omega)]; rfl
theorem sm_bd (f : Nat → Int) (a : Nat) (B : Int) (hB : 0 ≤ B) (n : Nat) : ∀ k, k ≤ n → (∀ m, m ≤ n → 0 ≤ f m ∧ f m ≤ B) → 0 ≤ sm f a k ∧ sm f a k ≤ (k + 1) * B := by
  intro k
  induction k with
  | zero =>
    intro hk h
    have := h 0 (by omega)
    rw [sm]; split <;> simp <;> omega
  | succ k ih =>
    intro hk h
    have h1 := ih (by omega) h
    have h2 := h (k + 1) hk
    have e : ((k + 1 : Nat) : Int) + 1 = ((k : Int) + 1) + 1 := by omega
    rw [sm, e, Int.add_mul, Int.one_mul]
    split <;> omega
/-- The words of i letters u and k letters d, by their last letters. -/
def wy : Nat → Nat → Int
  | 0 => fun _ => 1
  | i + 1 => sm (wy i) (i + 1)
theorem wy_zero (k : Nat) : wy 0 k = 1 := rfl
theorem wy_low (i k : Nat) (h : k < i) : wy i k = 0 := by
  cases i with
  | zero => omega
  | succ i => exact sm_low _ _ _ h
theorem wy_diag (i : Nat) : wy (i + 1) (i + 1) = wy i (i + 1) := by
  show sm (wy i) (i + 1) (i + 1) = _
  rw [sm, if_pos (Nat.le_refl _), sm_low _ _ _ (by omega)]; omega
theorem wy_step (i k : Nat) (h : i + 1 < k + 1) : wy (i + 1) (k + 1) = wy i (k + 1) + wy (i + 1) k := by
  show sm (wy i) (i + 1) (k + 1) = _
  rw [sm, if_pos (by omega)]
  show sm (wy i) (i + 1) k + _ = _ + sm (wy i) (i + 1) k
  omega
theorem wy_bd : ∀ (i : Nat) (k : Nat), k ≤ 15 → 0 ≤ wy i k ∧ wy i k ≤ 16 ^ i := by
  intro i
  induction i with
  | zero => intro k hk; rw [wy_zero]; decide
  | succ i ih =>
    intro k hk
    have hp : (0 : Int) ≤ 16 ^ i := Int.le_of_lt (Int.pow_pos (by decide))
    have h := sm_bd (wy i) (i + 1) (16 ^ i) hp 15 k hk ih
    refine ⟨h.1, Int.le_trans h.2 ?_⟩
    rw [Int.pow_succ, Int.mul_comm _ 16]
    exact Int.mul_le_mul_of_nonneg_right (by omega) hp
theorem wy_fit (i k : Nat) (hi : i ≤ 15) (hk : k ≤ 15) : 0 ≤ wy i k ∧ wy i k ≤ 1152921504606846976 := by
  have h := wy_bd i k hk
  refine ⟨h.1, Int.le_trans h.2 ?_⟩
  have : (16 : Int) ^ i ≤ 16 ^ 15 := by
    have h1 : (16 : Nat) ^ i ≤ 16 ^ 15 := Nat.pow_le_pow_right (by decide) hi
    exact_mod_cast h1
  exact Int.le_trans this (by decide)

/-- Block g holds a row of ints that reads f at the places up to d. -/
def RowI (w : World) (g d : Nat) (f : Nat → Int) : Prop := ∃ C, w.heap[g]? = some (.cells C 3 (0, 0)) ∧ ∀ k, k ≤ d → C[k]? = some (.int .i64 (f k))
theorem RowI.lt {w : World} {g d : Nat} {f : Nat → Int} (h : RowI w g d f) : g < w.heap.size := by
  obtain ⟨C, h1, -⟩ := h
  exact (Array.getElem?_eq_some_iff.1 h1).1
theorem RowI.cell {w : World} {g d : Nat} {f : Nat → Int} (h : RowI w g d f) {k : Nat} (hk : k ≤ d) : w.cell? ⟨g, k, none⟩ = some (.int .i64 (f k)) ∧ w.frozen? ⟨g, k, none⟩ = false := by
  obtain ⟨C, h1, h2⟩ := h
  refine ⟨?_, by simp [World.frozen?, h1]⟩
  rw [cell_of_row w g k C 3 (0, 0) h1]
  exact h2 k hk
theorem RowI.keep {w w' : World} {g d : Nat} {f : Nat → Int} (h : RowI w g d f) (e : w'.heap[g]? = w.heap[g]?) : RowI w' g d f := by
  obtain ⟨C, h1, h2⟩ := h
  exact ⟨C, e.trans h1, h2⟩
theorem RowI.other {w : World} {g d g' k : Nat} {f : Nat → Int} (h : RowI w g d f) (hne : g' ≠ g) (y : Value) : RowI (w.setCell ⟨g', k, none⟩ y) g d f :=
  h.keep (by simp [World.setCell, Array.getElem?_modify, hne])
theorem RowI.set {w : World} {g d k : Nat} {f f' : Nat → Int} {y : Int} (h : RowI w g d f) (hk : k ≤ d) (hy : f' k = y) (ho : ∀ q, q ≤ d → q ≠ k → f' q = f q) : RowI (w.setCell ⟨g, k, none⟩ (.int .i64 y)) g d f' := by
  obtain ⟨C, h1, h2⟩ := h
  refine ⟨C.setIfInBounds k (.int .i64 y), by simp [World.setCell, Array.getElem?_modify, h1], fun q hq => ?_⟩
  by_cases e : q = k
  · subst e
    have hC : q < C.size := (Array.getElem?_eq_some_iff.1 (h2 q hk)).1
    rw [Array.getElem?_setIfInBounds_self_of_lt hC, hy]
  · rw [Array.getElem?_setIfInBounds_ne (by omega), h2 q hq, ho q hq e]
theorem RowI.same {w : World} {g d : Nat} {f f' : Nat → Int} (h : RowI w g d f) (ho : ∀ q, q ≤ d → f' q = f q) : RowI w g d f' := by
  obtain ⟨C, h1, h2⟩ := h
  exact ⟨C, h1, fun q hq => by rw [h2 q hq, ho q hq]⟩
theorem RowI.made {w : World} {base g d : Nat} (h : w.ownsRow base 3 1 (.slice (some ⟨g, 0, none⟩) (d + 1) (d + 1)) (d + 1) (madeCells (Value.int .i64 0).cells ((d + 1) * 1)).toList) : RowI w g d fun _ => 0 := by
  rcases h.2 with ⟨e, -⟩ | ⟨g', cap, cur, e, hb, hh, hnc, hcm, hcur, htake⟩
  · cases e
  · simp only [Value.slice.injEq, Option.some.injEq, Addr.mk.injEq] at e
    obtain ⟨⟨rfl, -⟩, -, rfl⟩ := e
    refine ⟨cur, hh, fun k hk => ?_⟩
    have e1 : cur.toList[k]? = (cur.toList.take ((d + 1) * 1))[k]? := by rw [List.getElem?_take, if_pos (by omega)]
    rw [← Array.getElem?_toList, e1, htake]
    rw [List.getElem?_eq_getElem (by simp [size_madeCells]; omega)]
    simp [madeCells, Value.cells, Nat.mod_one]

theorem infoR : (Try.prog.info? 22).map (fun i => (i.zero, i.size, i.bytes)) = some (some (.slice none 0 0), 1, 24) := by kernel_rfl
def rowV (d g : Nat) : Value := .slice (some ⟨g, 0, none⟩) (d + 1) (d + 1)
/-- v is the table: its rows are the blocks gs. -/
def OutR (w : World) (base d : Nat) (v : Value) (gs : List Nat) : Prop := w.ownsRow base 22 1 v gs.length (gs.map (rowV d))
theorem OutR.cell {w : World} {base d : Nat} {v : Value} {gs : List Nat} (h : OutR w base d v gs) {j : Nat} (hj : j < gs.length) :
    ∃ o cap, v = .slice (some ⟨o, 0, none⟩) gs.length cap ∧ base ≤ o ∧ w.cell? ⟨o, j, none⟩ = some (rowV d (gs.getD j 0)) ∧ ∃ cur, w.heap[o]? = some (.cells cur 22 (0, 0)) := by
  rcases h.2 with ⟨-, e⟩ | ⟨o, cap, cur, e, hb, hh, hnc, hcm, hcur, htake⟩
  · omega
  · refine ⟨o, cap, e, hb, ?_, cur, hh⟩
    rw [cell_of_row w o j cur 22 (0, 0) hh]
    have e1 : cur.toList[j]? = (cur.toList.take (gs.length * 1))[j]? := by rw [List.getElem?_take, if_pos (by omega)]
    rw [← Array.getElem?_toList, e1, htake, List.getElem?_map]
    simp [List.getD, hj]
theorem OutR.own {w : World} {base d : Nat} {v : Value} {gs : List Nat} (h : OutR w base d v gs) {o : Nat} (ho : v.ownBlock = some o) : ∃ cur, w.heap[o]? = some (.cells cur 22 (0, 0)) := by
  rcases h.2 with ⟨e, -⟩ | ⟨o', cap, cur, e, hb, hh, -⟩
  · subst e; cases ho
  · subst e
    simp only [Value.ownBlock, Option.some.injEq] at ho
    subst ho
    exact ⟨cur, hh⟩
theorem OutR.keep {w w' : World} {base d : Nat} {v : Value} {gs : List Nat} (h : OutR w base d v gs) (hb : ∀ o, v.ownBlock = some o → w'.heap[o]? = w.heap[o]?) : OutR w' base d v gs := by
  refine ⟨h.1, ?_⟩
  rcases h.2 with e | ⟨o, cap, cur, e, h1, h2, h3⟩
  · exact .inl e
  · exact .inr ⟨o, cap, cur, e, h1, (hb o (by rw [e]; rfl)).trans h2, h3⟩
theorem OutR.ne {w : World} {base d g n : Nat} {v : Value} {gs : List Nat} {f : Nat → Int} (h : OutR w base d v gs) (hr : RowI w g n f) : v.ownBlock ≠ some g := by
  intro e
  obtain ⟨cur, h1⟩ := h.own e
  obtain ⟨C, h2, -⟩ := hr
  rw [h1] at h2
  simp at h2
theorem OutR.set {w : World} {base d g n k : Nat} {v : Value} {gs : List Nat} {f : Nat → Int} (h : OutR w base d v gs) (hr : RowI w g n f) (y : Value) : OutR (w.setCell ⟨g, k, none⟩ y) base d v gs :=
  h.keep fun o ho => by
    have : g ≠ o := fun e => h.ne hr (by rw [e]; exact ho)
    simp [World.setCell, Array.getElem?_modify, this]

/-- One row appended to a table that the call owns. -/
theorem wpAppRow {w : World} {ops : Array Oper} {rest : List Oper} {o : Oper} {a : Act} {Q : Exit → Act → World → Prop} (hgd : o.guard = none) (s x : Operand)
    (ho : o.op = .call { callee := .builtin .append, args := #[s, x], argTypes := #[24, 24] })
    (base d : Nat) (v : Value) (gs : List Nat) (hs : a.eval s = v) (hown : OutR w base d v gs)
    (b : Nat) (c : Nat) (g : Nat) (hx : a.eval x = .slice (some ⟨b, 0, none⟩) 1 c) (hcell : w.cell? ⟨b, 0, none⟩ = some (rowV d g))
    (hn : gs.length ≤ 1099511627776) (hbase : base ≤ w.heap.size)
    (h : ∀ v' w', OutR w' base d v' (gs ++ [g]) → w.grownBy w' v.ownBlock → wpList Try.prog ops Q rest (a.put o.dst v') w') : wpList Try.prog ops Q (o :: rest) a w := by
  obtain ⟨i0, hi, hz0, hz1, hz2⟩ := info_parts infoR
  refine wpList_append_own _ hgd s x 24 ho base 22 i0 (.slice none 0 0) 1 24 Try.underlying24 hi hz0 hz1 hz2 rfl (by decide) v gs.length _ hs hown ⟨b, 0, none⟩ 1 c [rowV d g] hx rfl ?_ ?_ (by unfold maxLen; omega) (by omega) hbase ?_
  · intro j u hj
    match j, hj with
    | 0, hj => simp at hj; subst hj; simpa [Addr.add] using hcell
  · intro u hu; simp at hu; subst hu; rfl
  · intro v' w' h1 h2 _
    exact h v' w' (by unfold OutR; simpa using h1) h2

end Go.Proofs.Ytgaggpdlpcldeaa
end

section
namespace Go.Proofs.Ytgaggpdlpcldeaa
open Go.ChangeShapes Go.WideShapes Go.ChangeAt Go.RowKit
open Go.PlainAid (bt bt_nonneg bt_le get_bt)
set_option linter.unusedVariables false

/-- Where a point goes, and where it came from. -/
def tgt (n K i : Nat) : Nat := if K ≤ i then i - K else i + n - K
def src (n K q : Nat) : Nat := if q + K < n then q + K else q + K - n
theorem src_tgt {n K i : Nat} (hi : i < n) (hK : K < n) : src n K (tgt n K i) = i := by unfold src tgt; split <;> split <;> omega
theorem tgt_of {n K i q : Nat} (hq : q < n) (hK : K < n) (h : src n K q = i) : q = tgt n K i := by unfold src at h; unfold tgt; split at h <;> split <;> omega
theorem tgt_lt {n K i : Nat} (hi : i < n) (hK : K < n) : tgt n K i < n := by unfold tgt; split <;> omega
def tuV (n K : Nat) (y : Int) : Int := if (K : Int) ≤ y then y - K else y - K + n
theorem tuV_mod {n K : Nat} {y : Int} (h0 : 0 ≤ y) (h1 : y < n) (hK : K < n) : (y - (K : Int) + (n : Int)) % (n : Int) = tuV n K y := by
  unfold tuV
  split
  · rw [show y - (K : Int) + n = (y - K) + n * 1 by omega, Int.add_mul_emod_self_left, Int.emod_eq_of_lt (by omega) (by omega)]
  · rw [Int.emod_eq_of_lt (by omega) (by omega)]
theorem tuV_tgt {n K i : Nat} (hi : i < n) (hK : K < n) : tuV n K (i : Int) = (tgt n K i : Int) := by unfold tuV tgt; split <;> split <;> omega
/-- The matching carried on by K. -/
def turnL (xs : List Int) (K : Nat) : List Int := (List.range xs.length).map fun q => tuV xs.length K (xs.getD (src xs.length K q) 0)
theorem turnL_len (xs : List Int) (K : Nat) : (turnL xs K).length = xs.length := by simp [turnL]
theorem turnL_at (xs : List Int) (K q : Nat) (h : q < xs.length) : (turnL xs K).getD q 0 = tuV xs.length K (xs.getD (src xs.length K q) 0) := by simp [turnL, List.getD, h]
/-- The row when the first i points have been carried. -/
def tuF (xs : List Int) (K i : Nat) : Nat → Int := fun q => if src xs.length K q < i then tuV xs.length K (xs.getD (src xs.length K q) 0) else 0
def turnOk (xs : List Int) (k : Int) : Bool := matchP xs && decide (0 ≤ k ∧ k ≤ max 0 ((xs.length : Int) - 1))
def turnP (xs : List Int) (k : Int) : List Int := if turnOk xs k = true then turnL xs k.toNat else []
theorem OwnI.of_row' {w : World} {lo hi g d c : Nat} {f : Nat → Int} {xs : List Int} (h : RowI w g d f) (hl : xs.length = d + 1) (hx : ∀ j, j ≤ d → xs.getD j 0 = f j) (h1 : lo ≤ g) (h2 : g < hi) : OwnI w lo hi (.slice (some ⟨g, 0, none⟩) (d + 1) c) xs := by
  obtain ⟨C, h3, h4⟩ := h
  refine ⟨_, c, by rw [hl], .inr ⟨g, C, h1, h2, rfl, h3, fun j hj => ?_⟩⟩
  rw [h4 j (by omega), hx j (by omega)]
theorem ret_ib {A A' : Value} {x y : Bool} (h : A = A') (h' : x = y) : Ending.returned (.tuple #[A, .bool x]) = .returned (.tuple #[A', .bool y]) := by rw [h, h']

/-- u for each point whose partner comes later. -/
def pmL (xs : List Int) : Nat → List UInt8
  | 0 => []
  | j + 1 => pmL xs j ++ [if (j : Int) < xs.getD j 0 then 117 else 100]
theorem pmL_len (xs : List Int) (j : Nat) : (pmL xs j).length = j := by
  induction j with
  | zero => rfl
  | succ j ih => rw [pmL, List.length_append, ih]; rfl
def pomP (xs : List Int) : ByteArray := if (crossP xs == 0) = true then ⟨(pmL xs xs.length).toArray⟩ else ⟨#[]⟩
theorem cross_short {xs : List Int} (h : (crossP xs == 0) = true) : xs.length ≤ 16 := by
  unfold crossP at h
  rcases hm : matchP xs with _ | _
  · rw [hm] at h; simp at h
  · exact (match_yes hm).1

end Go.Proofs.Ytgaggpdlpcldeaa
end

section
namespace Go.Proofs.Ytgaggpdlpcldeaa
open Go.ChangeShapes Go.WideShapes Go.ChangeAt Go.RowKit
set_option linter.unusedVariables false

theorem stepOf_up (w : World) : Calls Try.prog 46 #[.int .i32 117] w fun e w' => e = .returned (.int .i64 1) ∧ w = w' := by
  go_enter Try.func46, Try.ntmps46
  go_wp2
  go_ret
  exact ⟨rfl, rfl⟩
theorem stepOf_down (w : World) : Calls Try.prog 46 #[.int .i32 100] w fun e w' => e = .returned (.int .i64 (-1)) ∧ w = w' := by
  go_enter Try.func46, Try.ntmps46
  go_wp2
  go_ret
  exact ⟨rfl, rfl⟩
theorem stepOf_other (c : Int) (h1 : (c == 117) = false) (h2 : (c == 100) = false) (w : World) : Calls Try.prog 46 #[.int .i32 c] w fun e w' => e = .returned (.int .i64 0) ∧ w = w' := by
  go_enter Try.func46, Try.ntmps46
  go_wp2
  go_ret
  exact ⟨rfl, rfl⟩

/-- The next letter of a range over a string, where it is an ASCII letter. -/
theorem next_letter {P : Program} (wr : World) (k : Nat) (s : ByteArray) (i : Nat) (c : Nat) (hk : wr.heap[k]? = some (.stringIter s i)) (h : i < s.size) (hc : s[i].toNat = c) (h7 : c < 128) (ty : TypeId) :
    (Instr.next (.pointer (some ⟨k, 0, none⟩)) true ty).run P wr = .ok (.tuple #[.bool true, .int .i64 i, .int .i32 c]) (wr.iterAt k s (i + 1)) := by
  rw [Lib.run_next_ascii_at wr k s i ty hk h (by omega), hc]
/-- A rune that is no letter of a path, at a byte that is none. -/
theorem next_other {P : Program} (wr : World) (k : Nat) (s : ByteArray) (i : Nat) (hk : wr.heap[k]? = some (.stringIter s i)) (h : i < s.size) (h1 : s[i].toNat ≠ 117) (h2 : s[i].toNat ≠ 100) :
    ∃ (c : Int) (j : Nat), (c == 117) = false ∧ (c == 100) = false ∧ ∀ ty, (Instr.next (.pointer (some ⟨k, 0, none⟩)) true ty).run P wr = .ok (.tuple #[.bool true, .int .i64 i, .int .i32 c]) (wr.iterAt k s j) := by
  by_cases ha : s[i].toNat < 128
  · exact ⟨(s[i].toNat : Int), i + 1, by simp; omega, by simp; omega, fun ty => Lib.run_next_ascii_at wr k s i ty hk h ha⟩
  · have hd := (decode_high s i h (by omega)).1
    exact ⟨((Utf8.decode s i).1 : Int), i + (Utf8.decode s i).2, by simp; omega, by simp; omega, fun ty => Lib.run_next_any_at wr k s i ty hk h⟩

set_option maxRecDepth 100000 in
set_option maxHeartbeats 1600000 in
theorem isDyckI (s : ByteArray) (w : World) : Calls Try.prog 40 #[.string s] w fun e w' => e = .returned (.bool (dyck s)) ∧ Below w.heap.size w w' := by
  by_cases h16 : 16 < s.size
  · have HL := Lib.hid (dyck_long h16)
    have h16' : (16 : Int) < (s.size : Int) := by omega
    go_enter Try.func40, Try.ntmps40
    go_wp2
    go_ret
    exact ⟨ret_bool HL.out.symm, Below.refl _ _⟩
  · have h16' : s.size ≤ 16 := by omega
    have HL := Lib.hid (dyck_short h16')
    go_enter Try.func40, Try.ntmps40
    go_wp2
    go_loopw [3] (fun x wr => ∃ (i h : Nat), i ≤ s.size ∧ h ≤ i ∧ x = .int .i64 h ∧ wr.heap[w.heap.size]? = some (.stringIter s i) ∧ Below w.heap.size w wr ∧ dyckFrom 0 s.data.toList = dyckFrom h (rest s i)) (fun _ wr => s.size - wr.iterPos w.heap.size)
    case atStart => exact ⟨0, 0, Nat.zero_le _, Nat.le_refl _, rfl, World.iter_heap w s 0, (Below.refl _ _).alloc (Nat.le_refl _) _, rfl⟩
    case round =>
      obtain ⟨i, h, hi, hh, rfl, hit, hb, hd⟩ := hrel
      have HD := Lib.hid hd
      have HIT := Lib.hid hit
      have HB := Lib.hid hb
      clear hd hb
      by_cases hlt : i < s.size
      · have HR := Lib.hid (rest_cons s i hlt)
        by_cases e1 : s[i].toNat = 117
        · have hnx := next_letter (P := Try.prog) wr _ s i 117 hit hlt e1 (by omega)
          have HE := Lib.hid e1
          clear hit e1
          go_wp2_with (go_at_call 46; refine (stepOf_up _).mono ?_; rintro e w' ⟨rfl, rfl⟩)
          go_roundw
          case rel => exact ⟨i + 1, h + 1, by omega, by omega, by simp, Lib.iterAt_heap _ _ _ _ _ HIT.out, Lib.below_iterAt HB.out (Nat.le_refl _) _ _, by rw [HD.out, HR.out, df_up _ _ _ HE.out]⟩
          case measure => simp only [World.iterPos, Lib.iterAt_heap _ _ _ _ _ HIT.out, HIT.out]; omega
        · by_cases e2 : s[i].toNat = 100
          · have hnx := next_letter (P := Try.prog) wr _ s i 100 hit hlt e2 (by omega)
            have HE := Lib.hid e2
            clear hit e1 e2
            rcases h with _ | h
            · go_wp2_with (go_at_call 46; refine (stepOf_down _).mono ?_; rintro e w' ⟨rfl, rfl⟩)
              go_ret
              refine ⟨ret_bool ?_, Lib.below_iterAt HB.out (Nat.le_refl _) _ _⟩
              rw [HL.out, HD.out, HR.out, df_below _ _ HE.out]
            · go_wp2_with (go_at_call 46; refine (stepOf_down _).mono ?_; rintro e w' ⟨rfl, rfl⟩)
              go_roundw
              case rel => exact ⟨i + 1, h, by omega, by omega, by simp; omega, Lib.iterAt_heap _ _ _ _ _ HIT.out, Lib.below_iterAt HB.out (Nat.le_refl _) _ _, by rw [HD.out, HR.out, df_down _ _ _ HE.out]⟩
              case measure => simp only [World.iterPos, Lib.iterAt_heap _ _ _ _ _ HIT.out, HIT.out]; omega
          · obtain ⟨c, j, c1, c2, hnx⟩ := next_other (P := Try.prog) wr _ s i hit hlt e1 e2
            have HE := Lib.hid (And.intro e1 e2)
            clear hit e1 e2
            go_wp2_with (go_at_call 46; refine (stepOf_other _ c1 c2 _).mono ?_; rintro e w' ⟨rfl, rfl⟩)
            go_ret
            refine ⟨ret_bool ?_, Lib.below_iterAt HB.out (Nat.le_refl _) _ _⟩
            rw [HL.out, HD.out, HR.out, df_other _ _ _ HE.out.1 HE.out.2]
      · have hnx := fun ty => Lib.run_next_end_at (P := Try.prog) wr _ s i ty hit hlt
        have HE := Lib.hid (rest_end s i (by omega))
        clear hit
        go_wp2
        go_ret
        refine ⟨ret_bool ?_, HB.out⟩
        rw [HL.out, HD.out, HE.out, df_nil]
        rw [Bool.eq_iff_iff, beq_iff_eq, beq_iff_eq]
        omega

theorem isDyckI_yes (s : ByteArray) (w : World) (h : dyck s = true) : Calls Try.prog 40 #[.string s] w fun e w' => e = .returned (.bool true) ∧ Below w.heap.size w w' := by
  have := isDyckI s w; rwa [h] at this
theorem isDyckI_no (s : ByteArray) (w : World) (h : dyck s = false) : Calls Try.prog 40 #[.string s] w fun e w' => e = .returned (.bool false) ∧ Below w.heap.size w w' := by
  have := isDyckI s w; rwa [h] at this

end Go.Proofs.Ytgaggpdlpcldeaa
end

section
namespace Go.Proofs.Ytgaggpdlpcldeaa
open Go.ChangeShapes Go.WideShapes Go.ChangeAt Go.RowKit
set_option linter.unusedVariables false

theorem df_mem {h : Nat} {l : List UInt8} (hd : dyckFrom h l = true) : ∀ c ∈ l, c.toNat = 117 ∨ c.toNat = 100 := by
  induction l generalizing h with
  | nil => simp
  | cons c l ih =>
    intro x hx
    rcases df_letter hd with ⟨e, h1⟩ | ⟨e, -, h1⟩
    · rcases List.mem_cons.1 hx with rfl | hx
      · exact .inl e
      · exact ih h1 x hx
    · rcases List.mem_cons.1 hx with rfl | hx
      · exact .inr e
      · exact ih h1 x hx
theorem at_mem (s : ByteArray) (i : Nat) (h : i < s.size) : s[i] ∈ s.data.toList := by
  have : s.data[i]'h ∈ s.data := Array.getElem_mem h
  exact Array.mem_toList_iff.2 this
theorem at_list (s : ByteArray) (i : Nat) (h : i < s.size) (h' : i < s.data.toList.length) : s.data.toList[i] = s[i] := by
  rw [Array.getElem_toList]; rfl
theorem dyck_letter {s : ByteArray} (hd : dyck s = true) (i : Nat) (h : i < s.size) : s[i].toNat = 117 ∨ s[i].toNat = 100 := by
  rw [dyck_short (dyck_size hd)] at hd
  exact df_mem hd _ (at_mem s i h)

theorem hsL_head (h : Int) (l : List UInt8) : (hsL h l).getD 0 0 = h := by cases l <;> rfl
theorem hsL_step (h : Int) (l : List UInt8) (i : Nat) (hi : i < l.length) : (hsL h l).getD (i + 1) 0 = (hsL h l).getD i 0 + if l[i].toNat = 117 then 1 else -1 := by
  induction l generalizing h i with
  | nil => simp at hi
  | cons c l ih =>
    rw [hsL]
    cases i with
    | zero =>
      rw [List.getD_cons_succ, hsL_head, List.getD_cons_zero]
      show (if c.toNat = 117 then h + 1 else h - 1) = h + if c.toNat = 117 then 1 else -1
      split <;> omega
    | succ i =>
      rw [List.getD_cons_succ, List.getD_cons_succ]
      exact ih _ i (by simpa using hi)
/-- The height in front of letter i. -/
def hAt (s : ByteArray) (i : Nat) : Int := (hsL 0 s.data.toList).getD i 0
theorem hAt_zero (s : ByteArray) : hAt s 0 = 0 := hsL_head _ _
theorem hAt_up (s : ByteArray) (i : Nat) (h : i < s.size) (e : s[i].toNat = 117) : hAt s (i + 1) = hAt s i + 1 := by
  unfold hAt
  rw [hsL_step _ _ i (by simpa using h), at_list s i h, if_pos e]
theorem hAt_down (s : ByteArray) (i : Nat) (h : i < s.size) (e : s[i].toNat ≠ 117) : hAt s (i + 1) = hAt s i + -1 := by
  unfold hAt
  rw [hsL_step _ _ i (by simpa using h), at_list s i h, if_neg e]
theorem hAt_bd (s : ByteArray) (i : Nat) (h : i ≤ s.size) : -(i : Int) ≤ hAt s i ∧ hAt s i ≤ i := by
  induction i with
  | zero => rw [hAt_zero]; simp
  | succ i ih =>
    have := ih (by omega)
    by_cases e : s[i].toNat = 117
    · rw [hAt_up s i (by omega) e]; omega
    · rw [hAt_down s i (by omega) e]; omega
/-- The heights when the first i letters have been read. -/
def hFill (s : ByteArray) (i : Nat) : Nat → Int := fun q => if q ≤ i then hAt s q else 0
theorem hFill_at (s : ByteArray) (i q : Nat) (h : q ≤ i) : hFill s i q = hAt s q := if_pos h
theorem hFill_zero (s : ByteArray) (q : Nat) : hFill s 0 q = 0 := by
  unfold hFill
  split
  · rename_i h
    obtain rfl : q = 0 := by omega
    exact hAt_zero s
  · rfl
theorem hFill_next (s : ByteArray) (i q : Nat) (h : q ≠ i + 1) : hFill s (i + 1) q = hFill s i q := by
  unfold hFill
  by_cases e : q ≤ i
  · rw [if_pos e, if_pos (by omega)]
  · rw [if_neg e, if_neg (by omega)]

theorem iter_setCell {w : World} {k g q : Nat} {s : ByteArray} {i : Nat} {y : Value} (h : w.heap[k]? = some (.stringIter s i)) (hne : g ≠ k) : (w.setCell ⟨g, q, none⟩ y).heap[k]? = some (.stringIter s i) := by
  rw [← h]
  simp [World.setCell, Array.getElem?_modify, hne]
theorem RowI.ne_iter {w : World} {k g d : Nat} {f : Nat → Int} {s : ByteArray} {i : Nat} (h : RowI w g d f) (hk : w.heap[k]? = some (.stringIter s i)) : g ≠ k := by
  obtain ⟨C, h1, -⟩ := h
  intro e
  rw [e, hk] at h1
  simp at h1
theorem RowI.iterAt {w : World} {k g d : Nat} {f : Nat → Int} {s : ByteArray} {i j : Nat} (h : RowI w g d f) (hk : w.heap[k]? = some (.stringIter s i)) : RowI (w.iterAt k s j) g d f :=
  h.keep (Lib.iterAt_other _ _ _ _ _ (h.ne_iter hk))
theorem OwnI.of_rowI {w : World} {lo hi g d c : Nat} {f : Nat → Int} {xs : List Int} (h : RowI w g d f) (hl : xs.length = d + 1) (hx : ∀ j, j ≤ d → xs.getD j 0 = f j) (h1 : lo ≤ g) (h2 : g < hi) : OwnI w lo hi (.slice (some ⟨g, 0, none⟩) (d + 1) c) xs := by
  obtain ⟨C, h3, h4⟩ := h
  refine ⟨_, c, by rw [hl], .inr ⟨g, C, h1, h2, rfl, h3, fun j hj => ?_⟩⟩
  rw [h4 j (by omega), hx j (by omega)]
/-- The state of a range over s, its iterator in block k, at place i. -/
def AtS (w : World) (k : Nat) (s : ByteArray) (i : Nat) : Prop := w.heap[k]? = some (.stringIter s i)

end Go.Proofs.Ytgaggpdlpcldeaa
end

section
namespace Go.Proofs.Ytgaggpdlpcldeaa
open Go.RowKit
set_option linter.unusedVariables false

theorem rest_extract (s : ByteArray) (b : Nat) : (s.extract b s.size).data.toList = rest s b := by
  unfold rest
  rw [ByteArray.data_extract, Array.toList_extract]
  unfold List.extract
  rw [List.take_of_length_le (by simp)]
theorem size_part (s : ByteArray) (b : Nat) (h : b ≤ s.size) : (s.extract b s.size).size = s.size - b := by rw [ByteArray.size_extract]; omega
theorem extract_front (s : ByteArray) (b e : Nat) (h : b + e ≤ s.size) : (s.extract b s.size).extract 0 e = s.extract b (b + e) := by
  apply ByteArray.ext
  rw [ByteArray.data_extract, ByteArray.data_extract, ByteArray.data_extract, Array.extract_extract]
  have : s.data.size = s.size := rfl
  congr 1; omega
theorem extract_back (s : ByteArray) (b e : Nat) (h : b + e ≤ s.size) : (s.extract b s.size).extract e (s.extract b s.size).size = s.extract (b + e) s.size := by
  apply ByteArray.ext
  rw [ByteArray.data_extract, ByteArray.data_extract, ByteArray.data_extract, Array.extract_extract]
  have : s.data.size = s.size := rfl
  rw [ByteArray.size_extract]
  congr 1; omega
theorem extract_whole (s : ByteArray) : s.extract 0 s.size = s := by
  apply ByteArray.ext
  rw [ByteArray.data_extract]
  have : s.data.size = s.size := rfl
  rw [← this, Array.extract_size]

/-- Where the walk along s stands: at place i, at height h, the current part begun at b, the parts acc behind it. -/
structure PrAt (s : ByteArray) (i h b : Nat) (acc : List ByteArray) : Prop where
  le : b ≤ i
  top : i ≤ s.size
  zero : h = 0 → b = i
  path : dyckFrom h (rest s i) = true
  begun : dyckFrom 0 (rest s b) = true
  cut : cutL 0 (rest s b) 0 = cutL h (rest s i) (i - b)
  len : acc.length ≤ b
  high : h ≤ i
  more : ∃ m, s.size - b < m ∧ acc ++ primesF m (s.extract b s.size) = primesP s
  count : acc.length + zeros (hsL h (rest s i)) + (if h = 0 then 0 else 1) = zeros (hsL 0 s.data.toList)
theorem PrAt.start {s : ByteArray} (hd : dyck s = true) : PrAt s 0 0 0 [] where
  le := Nat.le_refl _
  top := Nat.zero_le _
  zero := fun _ => rfl
  path := by rw [dyck_short (dyck_size hd)] at hd; exact hd
  begun := by rw [dyck_short (dyck_size hd)] at hd; exact hd
  cut := rfl
  len := Nat.le_refl _
  high := Nat.le_refl _
  more := ⟨s.size + 1, by omega, by rw [extract_whole]; rfl⟩
  count := by rw [rest_zero]; simp
theorem PrAt.up {s : ByteArray} {i h b : Nat} {acc : List ByteArray} (p : PrAt s i h b acc) (hi : i < s.size) (e : s[i].toNat = 117) : PrAt s (i + 1) (h + 1) b acc where
  le := by have := p.le; omega
  top := hi
  zero := by omega
  path := by
    have := p.path
    rwa [rest_cons s i hi, df_up _ _ _ e] at this
  begun := p.begun
  cut := by
    rw [p.cut, rest_cons s i hi, cutL_miss _ _ _ _ (by rw [if_pos e]; omega), if_pos e]
    have := p.le
    congr 1; omega
  len := p.len
  high := by have := p.high; omega
  more := p.more
  count := by
    have := p.count
    rw [rest_cons s i hi, hsL_up _ _ _ e, zeros] at this
    rw [← this, if_neg (by omega)]
    have e1 : ((h + 1 : Nat) : Int) = (h : Int) + 1 := by omega
    rw [e1]
    by_cases h0 : h = 0
    · rw [if_pos (by omega), if_pos h0]; omega
    · rw [if_neg (by omega), if_neg h0]; omega
theorem PrAt.below {s : ByteArray} {i h b : Nat} {acc : List ByteArray} (p : PrAt s i h b acc) (hi : i < s.size) (e : s[i].toNat = 100) : 1 ≤ h := by
  have := p.path
  rw [rest_cons s i hi] at this
  rcases df_letter this with ⟨e', -⟩ | ⟨-, h1, -⟩
  · omega
  · exact h1
theorem PrAt.down {s : ByteArray} {i h b : Nat} {acc : List ByteArray} (p : PrAt s i (h + 2) b acc) (hi : i < s.size) (e : s[i].toNat = 100) : PrAt s (i + 1) (h + 1) b acc where
  le := by have := p.le; omega
  top := hi
  zero := by omega
  path := by
    have := p.path
    rwa [rest_cons s i hi, df_down _ _ _ e] at this
  begun := p.begun
  cut := by
    rw [p.cut, rest_cons s i hi, cutL_miss _ _ _ _ (by rw [if_neg (by omega)]; omega), if_neg (by omega)]
    have := p.le
    rw [show ((h + 2 : Nat) : Int) - 1 = ((h + 1 : Nat) : Int) by omega]
    congr 1; omega
  len := p.len
  high := by have := p.high; omega
  more := p.more
  count := by
    have := p.count
    rw [rest_cons s i hi, hsL_down _ _ _ (by omega), zeros, if_neg (by omega), if_neg (by omega)] at this
    rw [← this, if_neg (by omega)]
    have e1 : ((h + 2 : Nat) : Int) - 1 = ((h + 1 : Nat) : Int) := by omega
    rw [e1]; omega
theorem PrAt.hit {s : ByteArray} {i b : Nat} {acc : List ByteArray} (hs : s.size ≤ 16) (p : PrAt s i 1 b acc) (hi : i < s.size) (e : s[i].toNat = 100) : PrAt s (i + 1) 0 (i + 1) (acc ++ [s.extract b (i + 1)]) where
  le := Nat.le_refl _
  top := hi
  zero := fun _ => rfl
  path := by
    have := p.path
    rwa [rest_cons s i hi, df_down _ _ _ e] at this
  begun := by
    have := p.path
    rwa [rest_cons s i hi, df_down _ _ _ e] at this
  cut := by simp
  len := by
    have := p.len; have := p.le
    rw [List.length_append, List.length_singleton]; omega
  high := by omega
  more := by
    obtain ⟨m, hm, he⟩ := p.more
    have hle := p.le
    obtain ⟨m, rfl⟩ : ∃ k, m = k + 1 := ⟨m - 1, by omega⟩
    have hdk : dyck (s.extract b s.size) = true := by
      rw [dyck_short (by rw [size_part _ _ (by omega)]; omega), rest_extract]; exact p.begun
    have hcut : cutP (s.extract b s.size) = ((i - b : Nat) : Int) := by
      unfold cutP
      rw [rest_extract, p.cut, rest_cons s i hi]
      exact cutL_hit _ _ _ _ (by rw [if_neg (by omega)]; rfl)
    refine ⟨m, by omega, ?_⟩
    rw [← he, primesF_yes m _ ⟨hdk, by rw [size_part _ _ (by omega)]; omega⟩, hcut]
    rw [show ((i - b : Nat) : Int).toNat + 1 = i + 1 - b by omega]
    rw [extract_front _ _ _ (by omega), extract_back _ _ _ (by omega), show b + (i + 1 - b) = i + 1 by omega]
    simp
  count := by
    have := p.count
    rw [rest_cons s i hi, hsL_down _ _ _ (by omega), zeros, if_neg (by omega), if_neg (by omega)] at this
    rw [← this, List.length_append, List.length_singleton]
    have e1 : ((1 : Nat) : Int) - 1 = ((0 : Nat) : Int) := rfl
    rw [e1]; simp; omega
theorem PrAt.stop {s : ByteArray} {h b : Nat} {acc : List ByteArray} (p : PrAt s s.size h b acc) : acc = primesP s ∧ (acc.length : Int) + 1 = zeros (hsL 0 s.data.toList) := by
  have h1 := p.path
  rw [rest_end s _ (Nat.le_refl _), df_nil] at h1
  have h0 : h = 0 := by simpa using h1
  have hb := p.zero h0
  obtain ⟨m, hm, he⟩ := p.more
  rw [primesF_no _ _ (by rw [size_part _ _ (by omega)]; omega), List.append_nil] at he
  refine ⟨he, ?_⟩
  have := p.count
  rw [rest_end s _ (Nat.le_refl _), hsL_nil, zeros, zeros, h0] at this
  simp at this
  omega
theorem primesP_no {s : ByteArray} (h : dyck s = false) : primesP s = [] := primesF_no _ _ (by simp [h])

end Go.Proofs.Ytgaggpdlpcldeaa
end

section
namespace Go.Proofs.Ytgaggpdlpcldeaa
open Go.ChangeShapes Go.WideShapes Go.ChangeAt Go.RowKit
set_option linter.unusedVariables false

theorem own_ne_iter {w : World} {base n e k i : Nat} {v : Value} {xs : List Value} {s : ByteArray} (h : w.ownsRow base e 1 v n xs) (hk : AtS w k s i) : v.ownBlock ≠ some k := by
  intro he
  rcases h.2 with ⟨rfl, -⟩ | ⟨g, cap, cur, rfl, hb, hh, -⟩
  · cases he
  · simp only [Value.ownBlock, Option.some.injEq] at he
    subst he
    unfold AtS at hk
    rw [hh] at hk
    simp at hk
theorem own_iterAt {w : World} {base n e k i j : Nat} {v : Value} {xs : List Value} {s : ByteArray} (h : w.ownsRow base e 1 v n xs) (hk : AtS w k s i) : (w.iterAt k s j).ownsRow base e 1 v n xs := by
  have hne := own_ne_iter h hk
  refine ⟨h.1, ?_⟩
  rcases h.2 with he | ⟨g, cap, cur, rfl, hb, hh, hr⟩
  · exact .inl he
  · refine .inr ⟨g, cap, cur, rfl, hb, ?_, hr⟩
    rw [Lib.iterAt_other _ _ _ _ _ (fun e1 => hne (by rw [← e1]; rfl))]
    exact hh
theorem AtS.lt {w : World} {k i : Nat} {s : ByteArray} (h : AtS w k s i) : k < w.heap.size := (Array.getElem?_eq_some_iff.1 h).1
theorem AtS.alloc {w : World} {k i : Nat} {s : ByteArray} (h : AtS w k s i) (o : Obj) : AtS (w.alloc o) k s i := by
  have := h.lt
  unfold AtS
  rw [show (w.alloc o).heap = w.heap.push o from rfl, Array.getElem?_push, if_neg (by omega)]
  exact h
theorem AtS.grown {w w' : World} {k i : Nat} {s : ByteArray} {row : Option Nat} (h : AtS w k s i) (hg : w.grownBy w' row) (hne : row ≠ some k) : AtS w' k s i :=
  (hg.block k h.lt (fun e => hne e.symm)).trans h
theorem AtS.pos {w : World} {k i : Nat} {s : ByteArray} (h : AtS w k s i) : w.iterPos k = i := by
  unfold AtS at h
  simp only [World.iterPos, h]
theorem AtS.move {w : World} {k i j : Nat} {s : ByteArray} (h : AtS w k s i) : AtS (w.iterAt k s j) k s j := Lib.iterAt_heap _ _ _ _ _ h

theorem PrAt.reach {s : ByteArray} (hd : dyck s = true) : ∀ i, i ≤ s.size → ∃ h b acc, PrAt s i h b acc := by
  intro i
  induction i with
  | zero => intro _; exact ⟨_, _, _, PrAt.start hd⟩
  | succ i ih =>
    intro hi
    obtain ⟨h, b, acc, p⟩ := ih (by omega)
    rcases dyck_letter hd i hi with e | e
    · exact ⟨_, _, _, p.up hi e⟩
    · have h1 := p.below hi e
      by_cases h11 : h = 1
      · subst h11
        exact ⟨_, _, _, p.hit (dyck_size hd) hi e⟩
      · obtain ⟨h, rfl⟩ : ∃ k, h = k + 2 := ⟨h - 2, by omega⟩
        exact ⟨_, _, _, p.down hi e⟩
theorem returnsP_yes {s : ByteArray} (hd : dyck s = true) : returnsP s = ((primesP s).length : Int) := by
  obtain ⟨h, b, acc, p⟩ := PrAt.reach hd s.size (Nat.le_refl _)
  obtain ⟨h1, h2⟩ := p.stop
  unfold returnsP
  rw [heightsP_yes hd, ← h2, h1]; omega

end Go.Proofs.Ytgaggpdlpcldeaa
end

section
namespace Go.Proofs.Ytgaggpdlpcldeaa
open Go.ChangeShapes Go.WideShapes Go.ChangeAt Go.RowKit
set_option linter.unusedVariables false

theorem df_low : ∀ (l : List UInt8) (h : Nat), dyckFrom h l = true → h ≤ l.length := by
  intro l
  induction l with
  | nil => intro h hd; rw [df_nil] at hd; simp at hd; omega
  | cons c l ih =>
    intro h hd
    rw [List.length_cons]
    rcases df_letter hd with ⟨-, h1⟩ | ⟨-, h0, h1⟩
    · have := ih _ h1; omega
    · have := ih _ h1; omega
theorem hAt_path {s : ByteArray} (hd : dyck s = true) : ∀ j, j ≤ s.size → ∃ h : Nat, hAt s j = (h : Int) ∧ h ≤ j ∧ dyckFrom h (rest s j) = true := by
  intro j
  induction j with
  | zero =>
    intro _
    rw [dyck_short (dyck_size hd)] at hd
    exact ⟨0, hAt_zero s, Nat.le_refl _, hd⟩
  | succ j ih =>
    intro hj
    obtain ⟨h, h1, h2, h3⟩ := ih (by omega)
    rw [rest_cons s j hj] at h3
    rcases df_letter h3 with ⟨e, h4⟩ | ⟨e, h0, h4⟩
    · exact ⟨h + 1, by rw [hAt_up s j hj e, h1]; omega, by omega, h4⟩
    · exact ⟨h - 1, by rw [hAt_down s j hj (by omega), h1]; omega, by omega, h4⟩
theorem hAt_fit {s : ByteArray} (hd : dyck s = true) (j : Nat) (hj : j ≤ s.size) : 0 ≤ hAt s j ∧ hAt s j ≤ 8 := by
  obtain ⟨h, h1, h2, h3⟩ := hAt_path hd j hj
  have h4 := df_low _ _ h3
  have h5 := dyck_size hd
  have h6 : (rest s j).length = s.size - j := by unfold rest; simp
  rw [h1]; omega


end Go.Proofs.Ytgaggpdlpcldeaa
end
