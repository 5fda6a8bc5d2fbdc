/- The contracts of the model's l3All and PathsOf. -/
import Derived.Test.YtpggglcjocnjlaaGreatSpec2F
import Derived.Test.YtpggglcjocnjlaaGreatSpec2G
namespace Go.Proofs.YtpggglcjocnjlaaGreat
open Go.ChangeShapes Go.WideShapes Go.ChangeAt Go.RowKit
set_option linter.unusedVariables false

/-- A row of strings appended to a row of strings that the call owns. -/
theorem wpAppStrs {w : World} {ops : Array Oper} {rest : List Oper} {o : Oper} {a : Act} {Q : Exit → Act → World → Prop} (hgd : o.guard = none) (s x : Operand)
    (ho : o.op = .call { callee := .builtin .append, args := #[s, x], argTypes := #[33, 33] })
    (base : Nat) (v : Value) (n : Nat) (xs ys : List ByteArray) (hs : a.eval s = v) (hown : w.ownsRow base 9 1 v n (xs.map Value.string))
    (b : Nat) (c : Nat) (hx : a.eval x = .slice (some ⟨b, 0, none⟩) ys.length c) (hcell : ∀ j, j < ys.length → w.cell? ⟨b, j, none⟩ = some (.string (ys.getD j E0)))
    (hn : n ≤ 1048576) (hm : ys.length ≤ 1048576) (hbase : base ≤ w.heap.size)
    (h : ∀ v' w', w'.ownsRow base 9 1 v' (n + ys.length) ((xs ++ ys).map Value.string) → w.grownBy w' v.ownBlock → wpList Tryz.prog ops Q rest (a.put o.dst v') w') : wpList Tryz.prog ops Q (o :: rest) a w := by
  obtain ⟨i0, hi, hz0, hz1, hz2⟩ := info_parts info9
  refine wpList_append_own _ hgd s x 33 ho base 9 i0 (.string ⟨#[]⟩) 1 16 Tryz.underlying33 hi hz0 hz1 hz2 rfl (by decide) v n _ hs hown ⟨b, 0, none⟩ ys.length c (ys.map Value.string) hx (by simp) ?_ ?_ (by unfold maxLen; omega) (by omega) hbase ?_
  · intro j u hj
    rw [List.getElem?_map] at hj
    have hlt : j < ys.length := by
      rcases Nat.lt_or_ge j ys.length with h | h
      · exact h
      · rw [List.getElem?_eq_none h] at hj; cases hj
    have := hcell j hlt
    rw [List.getElem?_eq_getElem hlt] at hj
    simp only [Option.map_some, Option.some.injEq] at hj
    subst hj
    rw [List.getD_eq_getElem?_getD, List.getElem?_eq_getElem hlt] at this
    rw [add_flat]
    simpa using this
  · intro u hu; simp at hu; obtain ⟨y, -, rfl⟩ := hu; rfl
  · intro v' w' h1 h2 _
    exact h v' w' (by simpa using h1) h2
theorem ownsRow_keepB {w w' : World} {base B n : Nat} {v : Value} {xs : List Value} (h : w.ownsRow base 9 1 v n xs) (hb : Below B w w') (hB : w.heap.size ≤ B) : w'.ownsRow base 9 1 v n xs := by
  refine ⟨h.1, ?_⟩
  rcases h.2 with e | ⟨o, cap, cur, e, h1, h2, h3⟩
  · exact .inl e
  · exact .inr ⟨o, cap, cur, e, h1, (hb.block o (by have := (Array.getElem?_eq_some_iff.1 h2).1; omega)).trans h2, h3⟩
theorem OwnS.one (W : World) (s : ByteArray) : OwnS (W.alloc (.cells #[.string s] 9)) W.heap.size (W.alloc (.cells #[.string s] 9)).heap.size (.slice (some ⟨W.heap.size, 0, none⟩) 1 1) [s] := by
  refine ⟨_, _, rfl, .inr ⟨W.heap.size, #[.string s], Nat.le_refl _, by simp, rfl, by rw [show (W.alloc (.cells #[.string s] 9)).heap = W.heap.push (.cells #[.string s] 9) from rfl]; simp, fun j hj => ?_⟩⟩
  simp at hj; subst hj; rfl

theorem OwnS.opened {w : World} {lo hi : Nat} {v : Value} {xs : List ByteArray} (h : OwnS w lo hi v xs) (hne : 1 ≤ xs.length) :
    ∃ g c, v = .slice (some ⟨g, 0, none⟩) xs.length c ∧ ∀ j, j < xs.length → w.cell? ⟨g, j, none⟩ = some (.string (xs.getD j E0)) := by
  obtain ⟨g, c, e, -⟩ := h.cell (j := 0) (by omega)
  refine ⟨g, c, e, fun j hj => ?_⟩
  obtain ⟨g', c', e', -, -, hc, -⟩ := h.cell hj
  rw [e] at e'
  simp only [Value.slice.injEq, Option.some.injEq, Addr.mk.injEq] at e'
  obtain ⟨⟨rfl, -⟩, -⟩ := e'
  exact hc

/-- All ways to go on from the word s, u before d. -/
def allF : Nat → ByteArray → Nat → Nat → List ByteArray
  | 0, s, _, _ => [s]
  | f + 1, s, u, d => (if 0 < u then allF f (s ++ ⟨#[117]⟩) (u - 1) d else []) ++ (if u < d then allF f (s ++ ⟨#[100]⟩) u (d - 1) else [])
theorem allF_ne : ∀ (f : Nat) (s : ByteArray) (u d : Nat), u + d = f → u ≤ d → 1 ≤ (allF f s u d).length := by
  intro f
  induction f with
  | zero => intro s u d _ _; exact Nat.le_refl _
  | succ f ih =>
    intro s u d h1 h2
    rw [allF, List.length_append]
    by_cases h : 0 < u
    · have := ih (s ++ ⟨#[117]⟩) (u - 1) d (by omega) (by omega)
      rw [if_pos h]; omega
    · have := ih (s ++ ⟨#[100]⟩) u (d - 1) (by omega) (by omega)
      rw [if_pos (show u < d by omega)]; omega
theorem allF_len : ∀ (f : Nat) (s : ByteArray) (u d : Nat), (allF f s u d).length ≤ 2 ^ f := by
  intro f
  induction f with
  | zero => intro s u d; exact Nat.le_refl _
  | succ f ih =>
    intro s u d
    rw [allF, List.length_append, Nat.pow_succ]
    have h1 : (if 0 < u then allF f (s ++ ⟨#[117]⟩) (u - 1) d else []).length ≤ 2 ^ f := by
      split
      · exact ih _ _ _
      · exact Nat.zero_le _
    have h2 : (if u < d then allF f (s ++ ⟨#[100]⟩) u (d - 1) else []).length ≤ 2 ^ f := by
      split
      · exact ih _ _ _
      · exact Nat.zero_le _
    omega
theorem allF_small (f : Nat) (s : ByteArray) (u d : Nat) (h : f ≤ 12) : (allF f s u d).length ≤ 4096 :=
  Nat.le_trans (allF_len f s u d) (Nat.le_trans (Nat.pow_le_pow_right (by decide) h) (by decide))

set_option maxRecDepth 100000 in
set_option maxHeartbeats 600000 in
theorem l3All : ∀ (f u d : Nat) (s : ByteArray) (w : World), u + d = f → u ≤ d → d ≤ 6 → s.size ≤ 100 - f → Calls Tryz.prog 41 #[.string s, .int .i64 u, .int .i64 d] w (AnsS (allF f s u d) w) := by
  intro f
  induction f with
  | zero =>
    intro u d s w h1 h2 h3 h4
    have hd0 : ((d : Int) == 0) = true := by simp; omega
    go_enter Tryz.func41, Tryz.ntmps41
    go_wp2
    go_ret
    exact ⟨_, rfl, OwnS.one _ _, (Below.refl _ _).alloc (Nat.le_refl _) _⟩
  | succ f ih =>
    intro u d s w h1 h2 h3 h4
    have IH := Lib.hid ih
    clear ih
    have hd0 : ((d : Int) == 0) = false := beq_eq_false_iff_ne.2 (by omega)
    have E1 := Lib.hid (show (s ++ ⟨#[117]⟩ : ByteArray).size = s.size + 1 by rw [ByteArray.size_append]; rfl)
    have E2 := Lib.hid (show (s ++ ⟨#[100]⟩ : ByteArray).size = s.size + 1 by rw [ByteArray.size_append]; rfl)
    have z1 : ¬ 9223372036854775807 < s.size + (⟨#[117]⟩ : ByteArray).size := by
      have : (⟨#[117]⟩ : ByteArray).size = 1 := rfl
      omega
    have z2 : ¬ 9223372036854775807 < s.size + (⟨#[100]⟩ : ByteArray).size := by
      have : (⟨#[100]⟩ : ByteArray).size = 1 := rfl
      omega
    by_cases hu : 0 < u
    · obtain ⟨p, HP, hp⟩ : ∃ p, Hid (u = p + 1) ∧ (u : Int) - 1 = (p : Int) := ⟨u - 1, Lib.hid (by omega), by omega⟩
      have hui : (0 : Int) < (u : Int) := by omega
      by_cases hd : u < d
      · obtain ⟨q, HQ, hq⟩ : ∃ q, Hid (d = q + 1) ∧ (d : Int) - 1 = (q : Int) := ⟨d - 1, Lib.hid (by omega), by omega⟩
        have hdi : (u : Int) < (d : Int) := by omega
        have HA := Lib.hid (show allF (f + 1) s u d = allF f (s ++ ⟨#[117]⟩) p d ++ allF f (s ++ ⟨#[100]⟩) u q by rw [allF, if_pos hu, if_pos hd, HP.out, HQ.out]; rfl)
        go_enter Tryz.func41, Tryz.ntmps41
        go_wp2_with fail
        have hcall := fun W => IH.out p d (s ++ ⟨#[117]⟩) W (by have := HP.out; omega) (by have := HP.out; omega) h3 (by have := E1.out; omega)
        (with_reducible refine (hcall _).mono ?_)
        clear hcall
        rintro e w1 ⟨v1, rfl, ho1, hb1⟩
        have hn1 := allF_ne f (s ++ ⟨#[117]⟩) p d (by have := HP.out; omega) (by have := HP.out; omega)
        have hm1 := allF_small f (s ++ ⟨#[117]⟩) p d (by omega)
        generalize allF f (s ++ ⟨#[117]⟩) p d = xs1 at *
        obtain ⟨g1, c1, rfl, HC1⟩ := ho1.opened hn1
        have hown1 := ownsRow_keepB (World.ownsRow_made w #[] 0 (Nat.le_refl _) (Nat.zero_le _) (by simp)) hb1 (Nat.le_refl _)
        have hb1' := ((Below.refl w.heap.size w).alloc (Nat.le_refl _) (.cells #[] 9)).trans (hb1.mono (by simp))
        have HHC := Lib.hid HC1
        have HB1 := Lib.hid hb1'
        have z3 := hb1'.size
        clear ho1 hb1 hb1' HC1
        go_wp2_with (at_builtin; go_must (refine wpAppStrs rfl _ _ rfl w.heap.size _ 0 [] xs1 rfl hown1 g1 c1 rfl HHC.out (by omega) (by omega) z3 ?_); intro v2 w2 hown2 hg2)
        have HB2 := Lib.hid (HB1.out.grown hg2 z3 (fun k hk => (hown1.lt k hk).1))
        have z4 := HB2.out.size
        have hcall := fun W => IH.out u q (s ++ ⟨#[100]⟩) W (by have := HQ.out; omega) (by have := HQ.out; omega) (by have := HQ.out; omega) (by have := E2.out; omega)
        (with_reducible refine (hcall _).mono ?_)
        clear hcall
        rintro e w3 ⟨v3, rfl, ho3, hb3⟩
        have hn3 := allF_ne f (s ++ ⟨#[100]⟩) u q (by have := HQ.out; omega) (by have := HQ.out; omega)
        have hm3 := allF_small f (s ++ ⟨#[100]⟩) u q (by omega)
        generalize allF f (s ++ ⟨#[100]⟩) u q = xs3 at *
        obtain ⟨g3, c3, rfl, HC3⟩ := ho3.opened hn3
        have hown3 := ownsRow_keepB hown2 hb3 (Nat.le_refl _)
        have HHC3 := Lib.hid HC3
        have HB3 := Lib.hid (HB2.out.trans (hb3.mono z4))
        have z5 := HB3.out.size
        clear ho3 hb3 HC3
        go_wp2_with (at_builtin; go_must (refine wpAppStrs rfl _ _ rfl w.heap.size _ (0 + xs1.length) ([] ++ xs1) xs3 rfl hown3 g3 c3 rfl HHC3.out (by omega) (by omega) z5 ?_); intro v4 w4 hown4 hg4)
        go_ret
        refine ⟨v4, rfl, ?_, HB3.out.grown hg4 z5 (fun k hk => (hown3.lt k hk).1)⟩
        rw [HA.out]
        exact OwnS.of_row hown4
      · have hdi : ¬ (u : Int) < (d : Int) := by omega
        have HA := Lib.hid (show allF (f + 1) s u d = [] ++ allF f (s ++ ⟨#[117]⟩) p d by rw [allF, if_pos hu, if_neg hd, HP.out, List.append_nil]; rfl)
        go_enter Tryz.func41, Tryz.ntmps41
        go_wp2_with fail
        have hcall := fun W => IH.out p d (s ++ ⟨#[117]⟩) W (by have := HP.out; omega) (by have := HP.out; omega) h3 (by have := E1.out; omega)
        (with_reducible refine (hcall _).mono ?_)
        clear hcall
        rintro e w1 ⟨v1, rfl, ho1, hb1⟩
        have hn1 := allF_ne f (s ++ ⟨#[117]⟩) p d (by have := HP.out; omega) (by have := HP.out; omega)
        have hm1 := allF_small f (s ++ ⟨#[117]⟩) p d (by omega)
        generalize allF f (s ++ ⟨#[117]⟩) p d = xs1 at *
        obtain ⟨g1, c1, rfl, HC1⟩ := ho1.opened hn1
        have hown1 := ownsRow_keepB (World.ownsRow_made w #[] 0 (Nat.le_refl _) (Nat.zero_le _) (by simp)) hb1 (Nat.le_refl _)
        have hb1' := ((Below.refl w.heap.size w).alloc (Nat.le_refl _) (.cells #[] 9)).trans (hb1.mono (by simp))
        have HHC := Lib.hid HC1
        have HB1 := Lib.hid hb1'
        have z3 := hb1'.size
        clear ho1 hb1 hb1' HC1
        go_wp2_with (at_builtin; go_must (refine wpAppStrs rfl _ _ rfl w.heap.size _ 0 [] xs1 rfl hown1 g1 c1 rfl HHC.out (by omega) (by omega) z3 ?_); intro v2 w2 hown2 hg2)
        have HB2 := Lib.hid (HB1.out.grown hg2 z3 (fun k hk => (hown1.lt k hk).1))
        have z4 := HB2.out.size
        go_ret
        refine ⟨v2, rfl, ?_, HB2.out⟩
        rw [HA.out]
        exact OwnS.of_row hown2
    · have hui : ¬ (0 : Int) < (u : Int) := by omega
      have hd : u < d := by omega
      have hdi : (u : Int) < (d : Int) := by omega
      obtain ⟨q, HQ, hq⟩ : ∃ q, Hid (d = q + 1) ∧ (d : Int) - 1 = (q : Int) := ⟨d - 1, Lib.hid (by omega), by omega⟩
      have HA := Lib.hid (show allF (f + 1) s u d = [] ++ allF f (s ++ ⟨#[100]⟩) u q by rw [allF, if_neg hu, if_pos hd, HQ.out]; rfl)
      go_enter Tryz.func41, Tryz.ntmps41
      go_wp2_with fail
      have hcall := fun W => IH.out u q (s ++ ⟨#[100]⟩) W (by have := HQ.out; omega) (by have := HQ.out; omega) (by have := HQ.out; omega) (by have := E2.out; omega)
      (with_reducible refine (hcall _).mono ?_)
      clear hcall
      rintro e w3 ⟨v3, rfl, ho3, hb3⟩
      have hn3 := allF_ne f (s ++ ⟨#[100]⟩) u q (by have := HQ.out; omega) (by have := HQ.out; omega)
      have hm3 := allF_small f (s ++ ⟨#[100]⟩) u q (by omega)
      generalize allF f (s ++ ⟨#[100]⟩) u q = xs3 at *
      obtain ⟨g3, c3, rfl, HC3⟩ := ho3.opened hn3
      have hown1 := ownsRow_keepB (World.ownsRow_made w #[] 0 (Nat.le_refl _) (Nat.zero_le _) (by simp)) hb3 (Nat.le_refl _)
      have hb1' := ((Below.refl w.heap.size w).alloc (Nat.le_refl _) (.cells #[] 9)).trans (hb3.mono (by simp))
      have HHC := Lib.hid HC3
      have HB1 := Lib.hid hb1'
      have z3 := hb1'.size
      clear ho3 hb3 hb1' HC3
      go_wp2_with (at_builtin; go_must (refine wpAppStrs rfl _ _ rfl w.heap.size _ 0 [] xs3 rfl hown1 g3 c3 rfl HHC.out (by omega) (by omega) z3 ?_); intro v2 w2 hown2 hg2)
      go_ret
      refine ⟨v2, rfl, ?_, HB1.out.grown hg2 z3 (fun k hk => (hown1.lt k hk).1)⟩
      rw [HA.out]
      exact OwnS.of_row hown2

/-- What PathsOf answers. -/
def pathsP (n : Int) : List ByteArray := if 0 ≤ n ∧ n ≤ 6 then allF (n.toNat + n.toNat) ⟨#[]⟩ n.toNat n.toNat else []
set_option maxRecDepth 100000 in
set_option maxHeartbeats 800000 in
theorem pathsOf (n : Int) (w : World) : Calls Tryz.prog 21 #[.int .i64 n] w (AnsS (pathsP n) w) := by
  by_cases h0 : n < 0
  · have HP := Lib.hid (show pathsP n = [] from if_neg (by omega))
    go_enter Tryz.func21, Tryz.ntmps21
    go_wp2_with fail
    (with_reducible refine (l1In_no1 n 0 6 _ h0).mono ?_)
    rintro e w' ⟨rfl, rfl⟩
    go_wp2
    go_ret
    exact ⟨_, rfl, by rw [HP.out]; exact ⟨_, _, rfl, .inl rfl⟩, (Below.refl _ _).alloc (Nat.le_refl _) _⟩
  by_cases h1 : 6 < n
  · have HP := Lib.hid (show pathsP n = [] from if_neg (by omega))
    have h0' : 0 ≤ n := by omega
    go_enter Tryz.func21, Tryz.ntmps21
    go_wp2_with fail
    (with_reducible refine (l1In_no2 n 0 6 _ h0' h1).mono ?_)
    rintro e w' ⟨rfl, rfl⟩
    go_wp2
    go_ret
    exact ⟨_, rfl, by rw [HP.out]; exact ⟨_, _, rfl, .inl rfl⟩, (Below.refl _ _).alloc (Nat.le_refl _) _⟩
  obtain ⟨m, rfl⟩ : ∃ m : Nat, n = m := ⟨n.toNat, by omega⟩
  have h0' : (0 : Int) ≤ (m : Int) := by omega
  have h1' : (m : Int) ≤ 6 := by omega
  have HP := Lib.hid (show pathsP m = allF (m + m) ⟨#[]⟩ m m from if_pos ⟨h0', h1'⟩)
  go_enter Tryz.func21, Tryz.ntmps21
  go_wp2_with fail
  (with_reducible refine (l1In_yes _ 0 6 _ h0' h1').mono ?_)
  rintro e w' ⟨rfl, rfl⟩
  go_wp2_with fail
  refine (l3All (m + m) m m ⟨#[]⟩ _ rfl (Nat.le_refl _) (by omega) (by have : (⟨#[]⟩ : ByteArray).size = 0 := rfl; omega)).mono ?_
  rintro e w1 ⟨v1, rfl, ho, hb⟩
  go_wp2
  go_ret
  exact ⟨_, rfl, by rw [HP.out]; exact ho, hb⟩

end Go.Proofs.YtpggglcjocnjlaaGreat
