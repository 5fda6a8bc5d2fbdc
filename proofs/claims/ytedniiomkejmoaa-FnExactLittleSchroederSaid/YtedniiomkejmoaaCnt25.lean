/- The program's tables of numbers of words: after, sumAfter, count. -/
import Derived.Test.YtedniiomkejmoaaWl25
import Derived.Test.YtedniiomkejmoaaTabA
import Derived.BigRegion
namespace Go.Proofs.Ytedniiomkejmoaa
open Go.ChangeShapes Go.WideShapes Go.ChangeAt Go.RowKit
set_option linter.unusedVariables false

/-- What the first i kinds of letters add at a height, where the widths below n have their counts. -/
def suK (ks : List Kd) (t : List (List Int)) (h : Int) : Nat → Int
  | 0 => 0
  | i + 1 => suK ks t h i + if 0 ≤ h + (ks.getD i kd0).2.1 ∧ h + (ks.getD i kd0).2.1 ≤ (t.length : Int) - (ks.getD i kd0).2.2 then (t.getD ((t.length : Int) - (ks.getD i kd0).2.2).toNat []).getD (h + (ks.getD i kd0).2.1).toNat 0 else 0
theorem suK_succ (ks : List Kd) (t : List (List Int)) (h : Int) (i : Nat) : suK ks t h (i + 1) = suK ks t h i + if 0 ≤ h + (ks.getD i kd0).2.1 ∧ h + (ks.getD i kd0).2.1 ≤ (t.length : Int) - (ks.getD i kd0).2.2 then (t.getD ((t.length : Int) - (ks.getD i kd0).2.2).toNat []).getD (h + (ks.getD i kd0).2.1).toNat 0 else 0 := rfl
def ctT (ks : List Kd) : Nat → List (List Int)
  | 0 => [[1]]
  | L + 1 => ctT ks L ++ [(List.range (L + 2)).map fun (h : Nat) => suK ks (ctT ks L) (h : Int) ks.length]
theorem ctT_len (ks : List Kd) : ∀ L, (ctT ks L).length = L + 1
  | 0 => rfl
  | L + 1 => by rw [ctT, List.length_append, ctT_len ks L]; rfl
theorem ctT_step (ks : List Kd) (L i : Nat) (h : i ≤ L) : (ctT ks (L + 1)).getD i [] = (ctT ks L).getD i [] := by
  rw [ctT, List.getD_eq_getElem?_getD, List.getElem?_append_left (by rw [ctT_len]; omega), ← List.getD_eq_getElem?_getD]
theorem ctT_pre (ks : List Kd) (i : Nat) : ∀ d, (ctT ks (i + d)).getD i [] = (ctT ks i).getD i []
  | 0 => rfl
  | d + 1 => by rw [← Nat.add_assoc, ctT_step ks (i + d) i (by omega), ctT_pre ks i d]
/-- The number of words that lead from a height to 0 over a width. -/
def cv (ks : List Kd) (L h : Nat) : Int := ((ctT ks L).getD L []).getD h 0
theorem ctT_at (ks : List Kd) {L i : Nat} (h : i ≤ L) (q : Nat) : ((ctT ks L).getD i []).getD q 0 = cv ks i q := by
  have := ctT_pre ks i (L - i)
  rw [show i + (L - i) = L by omega] at this
  rw [this]; rfl
theorem cv_succ (ks : List Kd) (L h : Nat) (hh : h < L + 2) : cv ks (L + 1) h = suK ks (ctT ks L) (h : Int) ks.length := by
  have e : (ctT ks (L + 1)).getD (L + 1) [] = (List.range (L + 2)).map fun (h : Nat) => suK ks (ctT ks L) (h : Int) ks.length := by
    rw [ctT, List.getD_eq_getElem?_getD, List.getElem?_append_right (by rw [ctT_len]; omega), ctT_len]
    simp
  unfold cv
  rw [e]
  simp [List.getD, hh]
theorem cv_zero (ks : List Kd) : cv ks 0 0 = 1 := rfl
/-- The numbers stay small. -/
def Sml (ks : List Kd) : Prop := (∀ L, L ≤ 24 → ∀ h, h ≤ L → 0 ≤ cv ks L h ∧ cv ks L h ≤ 1000000000000) ∧ ∀ i, i < ks.length → 0 ≤ (ks.getD i kd0).2.2 - 1 ∧ (ks.getD i kd0).2.2 ≤ 2 ∧ -1 ≤ (ks.getD i kd0).2.1 ∧ (ks.getD i kd0).2.1 ≤ 3

set_option maxRecDepth 100000 in
theorem afterI (c r q h l : Int) (w : World) (hr : -1 ≤ r ∧ r ≤ 3) (hq : 0 ≤ q ∧ q ≤ 2) (hh : 0 ≤ h ∧ h ≤ 1000) (hl : 0 ≤ l ∧ l ≤ 1000) :
    Calls Try.prog 49 #[.agg #[.int .i32 c, .int .i64 r, .int .i64 q], .int .i64 h, .int .i64 l] w fun e w' => e = .returned (.tuple #[.int .i64 (h + r), .int .i64 (l - q), .bool (decide (0 ≤ h + r ∧ h + r ≤ l - q))]) ∧ Below w.heap.size w w' := by
  have hw1 : IntKind.i64.wrap (h + r) = h + r := IntWalk.i64_in _ (by omega)
  have hw2 : IntKind.i64.wrap (l - q) = l - q := IntWalk.i64_in _ (by omega)
  by_cases h1 : 0 ≤ h + r
  · have d1 : decide (0 ≤ h + r) = true := decide_eq_true h1
    by_cases h2 : h + r ≤ l - q
    · have d2 : decide (h + r ≤ l - q) = true := decide_eq_true h2
      have HP := Lib.hid (show decide (0 ≤ h + r ∧ h + r ≤ l - q) = true from decide_eq_true ⟨h1, h2⟩)
      go_enter Try.func49, Try.ntmps49
      go_wp2
      go_ret3
      exact ⟨by first | rfl | rw [HP.out]; rfl, (Below.refl _ _).alloc (Nat.le_refl _) _⟩
    · have d2 : decide (h + r ≤ l - q) = false := decide_eq_false h2
      have HP := Lib.hid (show decide (0 ≤ h + r ∧ h + r ≤ l - q) = false from decide_eq_false fun x => h2 x.2)
      go_enter Try.func49, Try.ntmps49
      go_wp2
      go_ret3
      exact ⟨by first | rfl | rw [HP.out]; rfl, (Below.refl _ _).alloc (Nat.le_refl _) _⟩
  · have d1 : decide (0 ≤ h + r) = false := decide_eq_false h1
    have HP := Lib.hid (show decide (0 ≤ h + r ∧ h + r ≤ l - q) = false from decide_eq_false fun x => h1 x.1)
    go_enter Try.func49, Try.ntmps49
    go_wp2
    go_ret3
    exact ⟨by first | rfl | rw [HP.out]; rfl, (Below.refl _ _).alloc (Nat.le_refl _) _⟩

/-- The table of counts as it is read: row i lies in block gs i. -/
def CtR (w : World) (o n : Nat) (gs : List Nat) (ks : List Kd) : Prop := ∀ i, i < n → w.cell? ⟨o, i, none⟩ = some (.slice (some ⟨gs.getD i 0, 0, none⟩) (i + 1) (i + 1)) ∧ TabI w (gs.getD i 0) (i + 1) (cv ks i)
theorem CtR.keep {w w' : World} {o n : Nat} {gs : List Nat} {ks : List Kd} (h : CtR w o n gs ks) (ho : o < w.heap.size) (hb : Below w.heap.size w w') : CtR w' o n gs ks := fun i hi =>
  ⟨(hb.cell (p := ⟨o, i, none⟩) ho).trans (h i hi).1, (h i hi).2.keep (hb.block _ (h i hi).2.lt)⟩

set_option maxRecDepth 100000 in
set_option maxHeartbeats 3200000 in
theorem sumAfterI (ks : List Kd) (g k o n cap h : Nat) (gs : List Nat) (w : World) (hA : Alph w g ks) (hk : ks.length = k) (h3 : k ≤ 3) (hs : Sml ks) (hC : CtR w o n gs ks) (ho : o < w.heap.size) (hn : 1 ≤ n) (h24 : n ≤ 24) (hh : h ≤ n) :
    Calls Try.prog 40 #[.slice (some ⟨g, 0, none⟩) k k, .slice (some ⟨o, 0, none⟩) n cap, .int .i64 h] w fun e w' => e = .returned (.int .i64 (suK ks (ctT ks (n - 1)) (h : Int) k)) ∧ Below w.heap.size w w' := by
  have HA := Lib.hid hA
  have HK := Lib.hid hk
  have HS := Lib.hid hs
  have HC := Lib.hid hC
  have HO := Lib.hid ho
  have HT := Lib.hid (show (ctT ks (n - 1)).length = n by rw [ctT_len]; omega)
  have HTA := Lib.hid (fun i q (hi : i < n) => ctT_at ks (L := n - 1) (i := i) (by omega) q)
  have HSU := Lib.hid (fun i => suK_succ ks (ctT ks (n - 1)) (h : Int) i)
  have HS0 := Lib.hid (show suK ks (ctT ks (n - 1)) (h : Int) 0 = 0 from rfl)
  rw [HT.out] at HSU
  generalize ctT ks (n - 1) = T at *
  clear hA hk hs hC ho
  go_enter Try.func40, Try.ntmps40
  go_wp2
  go_loopw [7, 15] (fun x y wr => ∃ i : Nat, i ≤ k ∧ y = .int .i64 i ∧ x = .int .i64 (suK ks T (h : Int) i) ∧ 0 ≤ suK ks T (h : Int) i ∧ suK ks T (h : Int) i ≤ 1000000000000 * (i : Int) ∧ Below w.heap.size w wr) (fun _ y _ => k - (intOf y).toNat)
  case atStart => exact ⟨0, Nat.zero_le _, rfl, by rw [HS0.out], by rw [HS0.out]; omega, by rw [HS0.out]; omega, Below.refl _ _⟩
  case round =>
    obtain ⟨i, hi, rfl, rfl, s0, s1, hb⟩ := hrel
    have HB := Lib.hid hb
    have hB := hb.size
    clear hb
    by_cases hlt : i < k
    · have hii : (i : Int) < (k : Int) := by omega
      obtain ⟨k1, k2, k3⟩ := (HA.out.keep HB.out).2 i (by rw [HK.out]; exact hlt)
      have hm := HS.out.2 i (by rw [HK.out]; exact hlt)
      have HN := Lib.hid (HSU.out i)
      generalize hkk : ks.getD i kd0 = kk at *
      obtain ⟨c, r, q⟩ := kk
      clear hkk
      dsimp only at k1 k2 k3 hm HN
      have HAF := Lib.hid (fun W => afterI c r q (h : Int) (n : Int) W (by omega) (by omega) (by omega) (by omega))
      have HBA := Lib.hid (HB.out.alloc hB (.cells #[.int .i32 c, .int .i64 r, .int .i64 q] 52))
      generalize suK ks T (h : Int) i = s at *
      by_cases hok : 0 ≤ (h : Int) + r ∧ (h : Int) + r ≤ (n : Int) - q
      · rw [decide_eq_true hok] at HAF
        rw [if_pos hok] at HN
        obtain ⟨x, hx⟩ : ∃ x : Nat, (h : Int) + r = x := ⟨((h : Int) + r).toNat, by omega⟩
        obtain ⟨l, hl⟩ : ∃ l : Nat, (n : Int) - q = l := ⟨((n : Int) - q).toNat, by omega⟩
        rw [hx, hl, Int.toNat_natCast, Int.toNat_natCast, HTA.out l x (by omega)] at HN
        rw [hx, hl] at HAF
        have hxl : x ≤ l := by omega
        have hln : l < n := by omega
        have hlni : (l : Int) < (n : Int) := by omega
        have hxli : (x : Int) < (l : Int) + 1 := by omega
        have hxln : x < l + 1 := by omega
        have hv := HS.out.1 l (by omega) x hxl
        obtain ⟨v, HV⟩ : ∃ v, Hid (v = cv ks l x) := ⟨_, Lib.hid rfl⟩
        rw [← HV.out] at HN hv
        have hw : IntKind.i64.wrap (s + v) = s + v := IntWalk.i64_in _ (by omega)
        clear hok hx hl
        go_wp2_with fail
        (with_reducible refine (HAF.out _).mono ?_)
        rintro e w1 ⟨rfl, hb1⟩
        have HB1 := Lib.hid (HBA.out.trans (hb1.mono HBA.out.size))
        have HC1 := Lib.hid (HC.out.keep HO.out HB1.out)
        obtain ⟨hc1, ht1⟩ := HC1.out l hln
        obtain ⟨hc2, -⟩ := ht1.cell (j := x) hxln
        rw [← HV.out] at hc2
        clear hb1 ht1
        generalize gs.getD l 0 = gl at hc1 hc2
        go_wp2
        exact ⟨⟨i + 1, by omega, by simp, by rw [HN.out], by rw [HN.out]; omega, by rw [HN.out]; omega, HB1.out⟩, by simp [intOf]; omega⟩
      · rw [decide_eq_false hok] at HAF
        rw [if_neg hok] at HN
        clear hok
        go_wp2_with fail
        (with_reducible refine (HAF.out _).mono ?_)
        rintro e w1 ⟨rfl, hb1⟩
        have HB1 := Lib.hid (HBA.out.trans (hb1.mono HBA.out.size))
        clear hb1
        go_wp2
        exact ⟨⟨i + 1, by omega, by simp, by rw [HN.out]; simp, by rw [HN.out]; omega, by rw [HN.out]; omega, HB1.out⟩, by simp [intOf]; omega⟩
    · obtain rfl : i = k := by omega
      go_wp2
      go_ret
      exact ⟨rfl, HB.out⟩

theorem infoL : (Try.prog.info? 55).map (fun i => (i.zero, i.size, i.bytes)) = some (some (.slice none 0 0), 1, 24) := by kernel_rfl
/-- One slice appended to a row of slices that the call owns. -/
theorem wpAppV {w : World} {ops : Array Oper} {rest : List Oper} {o : Oper} {a : Act} {Q : Exit → Act → World → Prop} (hgd : o.guard = none) (s x : Operand)
    (ho : o.op = .call { callee := .builtin .append, args := #[s, x], argTypes := #[56, 56] })
    (base : Nat) (v : Value) (n : Nat) (vs : List Value) (hs : a.eval s = v) (hown : w.ownsRow base 55 1 v n vs)
    (b : Nat) (c : Nat) (p : Option Addr) (l k : Nat) (hx : a.eval x = .slice (some ⟨b, 0, none⟩) 1 c) (hcell : w.cell? ⟨b, 0, none⟩ = some (.slice p l k))
    (hn : n ≤ 1099511627776) (hbase : base ≤ w.heap.size)
    (h : ∀ v' w', w'.ownsRow base 55 1 v' (n + 1) (vs ++ [.slice p l k]) → w.grownBy w' v.ownBlock → wpList Try.prog ops Q rest (a.put o.dst v') w') : wpList Try.prog ops Q (o :: rest) a w := by
  obtain ⟨i0, hi, hz0, hz1, hz2⟩ := info_parts infoL
  refine wpList_append_own _ hgd s x 56 ho base 55 i0 (.slice none 0 0) 1 24 Try.underlying56 hi hz0 hz1 hz2 rfl (by decide) v n _ hs hown ⟨b, 0, none⟩ 1 c [.slice p l k] hx rfl ?_ ?_ (by unfold maxLen; omega) (by omega) hbase ?_
  · intro j u hj
    match j, hj with
    | 0, hj => simp at hj; subst hj; simpa [Addr.add] using hcell
  · intro u hu; simp at hu; subst hu; rfl
  · intro v' w' h1 h2 _
    exact h v' w' h1 h2
def ctV (gs : List Nat) (n : Nat) : List Value := (List.range n).map fun i => .slice (some ⟨gs.getD i 0, 0, none⟩) (i + 1) (i + 1)
theorem ctV_succ (gs : List Nat) (g : Nat) : ctV (gs ++ [g]) (gs.length + 1) = ctV gs gs.length ++ [.slice (some ⟨g, 0, none⟩) (gs.length + 1) (gs.length + 1)] := by
  unfold ctV
  rw [List.range_succ, List.map_append]
  congr 1
  · apply List.map_congr_left
    intro i hi
    have : i < gs.length := by simpa using hi
    simp [List.getD, List.getElem?_append_left this]
  · simp [List.getD]
theorem gs_old (gs : List Nat) (g j : Nat) (h : j < gs.length) : (gs ++ [g]).getD j 0 = gs.getD j 0 := by
  simp [List.getD, List.getElem?_append_left h]
theorem gs_new (gs : List Nat) (g : Nat) : (gs ++ [g]).getD gs.length 0 = g := by simp [List.getD]
/-- The table v with the rows gs. -/
def CtO (w : World) (base n : Nat) (v : Value) (gs : List Nat) (ks : List Kd) : Prop := w.ownsRow base 55 1 v n (ctV gs n) ∧ ∀ i, i < n → TabI w (gs.getD i 0) (i + 1) (cv ks i)
theorem CtO.keep {w w' : World} {base n : Nat} {v : Value} {gs : List Nat} {ks : List Kd} (h : CtO w base n v gs ks) (hb : Below w.heap.size w w') : CtO w' base n v gs ks := by
  refine ⟨⟨h.1.1, ?_⟩, fun i hi => (h.2 i hi).keep (hb.block _ (h.2 i hi).lt)⟩
  rcases h.1.2 with e | ⟨o, cap, cur, e, h1, h2, h3⟩
  · exact .inl e
  · exact .inr ⟨o, cap, cur, e, h1, (hb.block o (Array.getElem?_eq_some_iff.1 h2).1).trans h2, h3⟩
theorem CtO.form {w : World} {base n : Nat} {v : Value} {gs : List Nat} {ks : List Kd} (h : CtO w base n v gs ks) (hn : 1 ≤ n) : ∃ o cap, v = .slice (some ⟨o, 0, none⟩) n cap ∧ base ≤ o ∧ o < w.heap.size ∧ CtR w o n gs ks ∧ ∃ cur, w.heap[o]? = some (.cells cur 55 (0, 0)) := by
  rcases h.1.2 with ⟨-, e⟩ | ⟨o, cap, cur, e, hb, hh, hnc, hcm, hcur, htake⟩
  · omega
  · refine ⟨o, cap, e, hb, (Array.getElem?_eq_some_iff.1 hh).1, fun i hi => ⟨?_, h.2 i hi⟩, cur, hh⟩
    rw [cell_of_row w o i cur 55 (0, 0) hh]
    have e1 : cur.toList[i]? = (cur.toList.take (n * 1))[i]? := by rw [List.getElem?_take, if_pos (by omega)]
    rw [← Array.getElem?_toList, e1, htake]
    simp [ctV, hi]
theorem CtO.ne {w : World} {base n : Nat} {v : Value} {gs : List Nat} {ks : List Kd} (h : CtO w base n v gs ks) {g m : Nat} {f : Nat → Int} (ht : TabI w g m f) : v.ownBlock ≠ some g := by
  intro e
  rcases h.1.2 with ⟨e2, -⟩ | ⟨o, cap, cur, e2, hb, hh, -⟩
  · subst e2; cases e
  · subst e2
    simp only [Value.ownBlock, Option.some.injEq] at e
    subst e
    obtain ⟨C, h2, -⟩ := ht
    rw [hh] at h2
    simp at h2
theorem CtO.snoc {w w' : World} {base n g : Nat} {v v' : Value} {gs : List Nat} {ks : List Kd} {ob : Obj} (h : CtO w base n v gs ks) (hr : TabI w g (n + 1) (cv ks n)) (hgl : gs.length = n) (hown : w'.ownsRow base 55 1 v' (n + 1) (ctV gs n ++ [.slice (some ⟨g, 0, none⟩) (n + 1) (n + 1)])) (hg : (w.alloc ob).grownBy w' v.ownBlock) : CtO w' base (n + 1) v' (gs ++ [g]) ks := by
  subst hgl
  refine ⟨by rw [ctV_succ]; exact hown, fun i hi => ?_⟩
  by_cases e : i < gs.length
  · rw [gs_old gs g i e]
    have ht := (h.2 i e).alloc ob
    exact ht.keep (hg.block _ ht.lt (fun e2 => h.ne (h.2 i e) e2.symm))
  · obtain rfl : i = gs.length := by omega
    rw [gs_new]
    have ht := hr.alloc ob
    exact ht.keep (hg.block _ ht.lt (fun e2 => h.ne hr e2.symm))
def cvF (ks : List Kd) (L i : Nat) : Nat → Int := fun q => if q < i then cv ks L q else 0
theorem cvF_zero (ks : List Kd) (L : Nat) : cvF ks L 0 = fun _ => 0 := by funext q; unfold cvF; rw [if_neg (by omega)]
theorem cvF_succ (ks : List Kd) (L i : Nat) : cvF ks L (i + 1) = upd (cvF ks L i) i (cv ks L i) := by
  funext q
  by_cases e : q = i
  · subst e; rw [upd_at]; unfold cvF; rw [if_pos (by omega)]
  · rw [upd_ne _ _ e]; unfold cvF
    by_cases h : q < i
    · rw [if_pos h, if_pos (by omega)]
    · rw [if_neg h, if_neg (by omega)]

set_option maxRecDepth 100000 in
set_option maxHeartbeats 3200000 in
theorem countI (ks : List Kd) (g k N : Nat) (w : World) (hA : Alph w g ks) (hk : ks.length = k) (h3 : k ≤ 3) (hs : Sml ks) (h24 : N ≤ 24) :
    Calls Try.prog 29 #[.slice (some ⟨g, 0, none⟩) k k, .int .i64 N] w fun e w' => e = .returned (.int .i64 (cv ks N 0)) ∧ Below w.heap.size w w' := by
  have HA := Lib.hid hA
  have HK := Lib.hid hk
  have HSU := Lib.hid (fun W L o cap h gs (ha : Alph W g ks) (hc : CtR W o (L + 1) gs ks) (ho : o < W.heap.size) (hl : L + 1 ≤ 24) (hh : h ≤ L + 1) => sumAfterI ks g k o (L + 1) cap h gs W ha hk h3 hs hc ho (by omega) hl hh)
  have HCV := Lib.hid (fun L h (hh : h < L + 2) => cv_succ ks L h hh)
  rw [hk] at HCV
  have HZF := Lib.hid (fun L => cvF_zero ks L)
  have HSF := Lib.hid (fun L i => cvF_succ ks L i)
  have HV0 := Lib.hid (cv_zero ks)
  obtain ⟨i0, hi0, hz0, hz1, hzb⟩ := info_parts info3
  have H0 := Lib.hid (show CtO ((w.alloc (.cells #[.int .i64 1] 3)).alloc (.cells #[.slice (some ⟨w.heap.size, 0, none⟩) 1 1] 55)) w.heap.size 1 (.slice (some ⟨w.heap.size + 1, 0, none⟩) 1 1) [w.heap.size] ks from by
    constructor
    · have h := World.ownsRow_lit (base := w.heap.size) (e := 55) (size := 1) (w.alloc (.cells #[.int .i64 1] 3)) #[.slice (some ⟨w.heap.size, 0, none⟩) 1 1] 1 (by simp) (by unfold maxLen; omega) rfl
      simpa [ctV] using h
    · intro i hi
      have hi0 : i = 0 := by omega
      subst hi0
      refine TabI.alloc (m := 1) ⟨#[.int .i64 1], Array.getElem?_push_size, rfl, fun j hj => ?_⟩ _
      have hj0 : j = 0 := by omega
      subst hj0
      rw [HV0.out]; rfl)
  have HB0 := Lib.hid (((Below.refl w.heap.size w).alloc (Nat.le_refl _) (.cells #[.int .i64 1] 3)).alloc (by simp) (.cells #[.slice (some ⟨w.heap.size, 0, none⟩) 1 1] 55))
  clear hA hk hs
  go_enter Try.func29, Try.ntmps29
  go_wp2
  go_loopw [5, 6] (fun v y wr => ∃ (L : Nat) (gs : List Nat), L ≤ N ∧ y = .int .i64 ((L : Int) + 1) ∧ gs.length = L + 1 ∧ CtO wr w.heap.size (L + 1) v gs ks ∧ Below w.heap.size w wr) (fun _ y _ => N + 1 - (intOf y).toNat)
  case atStart => exact ⟨0, [w.heap.size], Nat.zero_le _, rfl, rfl, H0.out, HB0.out⟩
  case round =>
    obtain ⟨L, gs, hL, rfl, hgl, hct, hb⟩ := hrel
    have HCT := Lib.hid hct
    have HB := Lib.hid hb
    have HGL := Lib.hid hgl
    have hB := hb.size
    obtain ⟨o, cap, rfl, ho1, ho2, hrd, -⟩ := hct.form (by omega)
    have HRD := Lib.hid hrd
    clear hct hb hgl hrd
    by_cases hlt : L < N
    · have hii : (L : Int) + 1 ≤ (N : Int) := by omega
      have hL2 : ((L : Int) + 1) + 1 = ((L + 2 : Nat) : Int) := by omega
      obtain ⟨wo, rfl⟩ : ∃ wo, wo = wr := ⟨_, rfl⟩
      have hw2 : IntKind.i64.wrap ((L : Int) + 1 + 1) = (L : Int) + 1 + 1 := IntWalk.i64_in _ (by omega)
      go_wp2_with (at_make; go_must (refine wpList_make_full _ rfl _ _ 55 rfl wo.heap.size 3 i0 (.int .i64 0) 1 Try.underlying55 hi0 hz0 hz1 .i64 .i64 ((L : Int) + 1 + 1) ((L : Int) + 1 + 1) (L + 2) rfl rfl (by omega) (by omega) (by rw [hzb]; omega) (by unfold maxLen; omega) (Nat.le_refl _) ?_); intro w2 hown1 hgrow1)
      have HT0 := Lib.hid (show TabI w2 wo.heap.size (L + 2) (cvF ks (L + 1) 0) by rw [HZF.out]; exact TabI.made hown1)
      have HB2 := Lib.hid ((Below.refl wo.heap.size wo).grown hgrow1 (Nat.le_refl _) (fun k hk => by cases hk))
      have HG2 := Lib.hid HT0.out.lt
      clear hown1 hgrow1
      go_wp2
      go_loopw [21] (fun y wr => ∃ h : Nat, h ≤ L + 2 ∧ y = .int .i64 h ∧ TabI wr wo.heap.size (L + 2) (cvF ks (L + 1) h) ∧ Below wo.heap.size wo wr) (fun y _ => L + 2 - (intOf y).toNat)
      case atStart => exact ⟨0, Nat.zero_le _, rfl, HT0.out, HB2.out⟩
      case round =>
        obtain ⟨h, hh, rfl, htab, hb⟩ := hrel
        have HT := Lib.hid htab
        have HB3 := Lib.hid hb
        have zB3 := hb.size
        clear htab hb HT0 HB2
        by_cases hlt2 : h < L + 2
        · have hhi : (h : Int) < ((L + 2 : Nat) : Int) := by omega
          have hhi2 : (h : Int) < (L : Int) + 2 := by omega
          have HCALL := Lib.hid (HSU.out wr L o cap h gs ((HA.out.keep HB.out).keep HB3.out) (HRD.out.keep ho2 HB3.out) (by omega) (by omega) (by omega))
          rw [Nat.add_sub_cancel, ← HCV.out L h hlt2] at HCALL
          have HNX := Lib.hid (HSF.out (L + 1) h)
          generalize cv ks (L + 1) h = c at *
          go_wp2_with fail
          (with_reducible refine HCALL.out.mono ?_)
          rintro e w4 ⟨rfl, hb4⟩
          have HT4 := Lib.hid (HT.out.keep (hb4.block _ HT.out.lt))
          have HB4 := Lib.hid (HB3.out.trans (hb4.mono zB3))
          obtain ⟨hc3, hf3⟩ := HT4.out.cell (j := h) hlt2
          clear hb4
          go_wp2
          exact ⟨⟨h + 1, by omega, by simp, by rw [HNX.out]; exact HT4.out.set (k := h) hlt2 _, HB4.out.setCell (p := ⟨wo.heap.size, h, none⟩) (Nat.le_refl _) _⟩, by simp [intOf]; omega⟩
        · obtain rfl : h = L + 2 := by omega
          have HROW := Lib.hid (show TabI wr wo.heap.size (L + 2) (cv ks (L + 1)) from by
            obtain ⟨C, c1, c2, c3⟩ := HT.out
            exact ⟨C, c1, c2, fun q hq => by rw [c3 q hq]; unfold cvF; rw [if_pos hq]⟩)
          have HCT2 := Lib.hid (HCT.out.keep HB3.out)
          have HNE := Lib.hid (HCT2.out.ne HROW.out)
          have HB5 := Lib.hid (HB.out.trans (HB3.out.mono hB))
          have hB5 := HB5.out.size
          have HLT5 := Lib.hid HROW.out.lt
          have HLT := Lib.hid (fun k hk => (World.ownsRow.lt HCT2.out.1 k hk).1)
          go_wp2_with (at_builtin; go_must (refine wpAppV rfl _ _ rfl w.heap.size (.slice (some ⟨o, 0, none⟩) (L + 1) cap) (L + 1) (ctV gs (L + 1)) rfl (HCT2.out.1.alloc _) wr.heap.size _ _ _ _ rfl (cell_one _ _ _) (by omega) (base_up hB5) ?_); intro v' w' hown' hg')
          exact ⟨⟨L + 1, gs ++ [wo.heap.size], by omega, by first | (simp; done) | (simp; omega), by rw [List.length_append, HGL.out]; rfl, HCT2.out.snoc HROW.out HGL.out hown' hg', (HB5.out.alloc hB5 _).grown hg' (base_up hB5) HLT.out⟩, by simp [intOf]; omega⟩
    · obtain rfl : L = N := by omega
      have hii : ¬ (L : Int) + 1 ≤ (L : Int) := by omega
      obtain ⟨hc1, ht1⟩ := HRD.out L (by omega)
      obtain ⟨hc2, -⟩ := ht1.cell (j := 0) (by omega)
      have hLi : (L : Int) < (L : Int) + 1 := by omega
      have hL0 : (0 : Int) < (L : Int) + 1 := by omega
      clear ht1
      generalize gs.getD L 0 = gl at hc1 hc2
      go_wp2
      go_ret
      exact ⟨ret_int rfl, HB.out⟩

end Go.Proofs.Ytedniiomkejmoaa
