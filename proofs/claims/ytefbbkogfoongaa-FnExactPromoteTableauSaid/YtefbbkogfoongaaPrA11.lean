/- PromoteTableau: plain, the model, the program (four texts merged). -/
import Derived.Test.YtefbbkogfoongaaSpecT11
import Derived.Test.YtefbbkogfoongaaCopy31
import Derived.Test.YtefbbkogfoongaaTblTwo
import Derived.Test.YtefbbkogfoongaaEvT11
import Derived.Deep.DeepCutAuto
import Derived.Scope
import Derived.Deep.RegionLaw
import Derived.BigRegion
namespace Go.Proofs.Ytefbbkogfoongaa
open Go.ChangeShapes Go.WideShapes Go.ChangeAt Go.RowKit
set_option linter.unusedVariables false

/-- A row by its numbers. -/
def mkF (n : Nat) (f : Nat → Int) : List Int := (List.range n).map f
theorem mkF_len (n : Nat) (f : Nat → Int) : (mkF n f).length = n := by simp [mkF]
theorem mkF_at {n : Nat} (f : Nat → Int) {j : Nat} (h : j < n) : (mkF n f).getD j 0 = f j := by simp [mkF, List.getD, h]
theorem mkF_self {l : List Int} {n : Nat} (h : l.length = n) : mkF n (fun j => l.getD j 0) = l := by
  apply List.ext_getElem (by rw [mkF_len, h])
  intro j h1 h2
  simp [mkF, List.getD, h2]
theorem mkF_set {n q : Nat} {f f' : Nat → Int} {y : Int} (h : ∀ j, j < n → f' j = if j = q then y else f j) : (mkF n f).set q y = mkF n f' := by
  apply List.ext_getElem (by rw [List.length_set, mkF_len, mkF_len])
  intro j h1 h2
  rw [mkF_len] at h2
  rw [List.getElem_set]
  simp only [mkF, List.getElem_map, List.getElem_range]
  rw [h j h2]
  by_cases e : q = j
  · rw [if_pos e, if_pos e.symm]
  · rw [if_neg e, if_neg (fun h => e h.symm)]
theorem mkF_ext {n : Nat} {f f' : Nat → Int} (h : ∀ j, j < n → f' j = f j) : mkF n f = mkF n f' := by
  unfold mkF
  exact List.map_congr_left fun j hj => (h j (List.mem_range.1 hj)).symm
/-- Whether the number to the right slides at place i. -/
def goB (L M : List Int) (n i : Nat) : Bool := decide (i + 1 < n) && decide (L.getD (i + 1) 0 < M.getD i 0)
def stF (L M : List Int) (n : Nat) : Nat → Nat → Nat
  | 0, i => i
  | f + 1, i => if goB L M n i = true then stF L M n f (i + 1) else i
def stI (L M : List Int) (n : Nat) : Nat := stF L M n n 0
theorem stF_at {L M : List Int} {n k : Nat} (hk : goB L M n k = false) : ∀ f i, (∀ j, i ≤ j → j < k → goB L M n j = true) → i ≤ k → k - i ≤ f → stF L M n f i = k := by
  intro f
  induction f with
  | zero => intro i _ h1 h2; show i = k; omega
  | succ f ih =>
    intro i hj h1 h2
    show (if goB L M n i = true then stF L M n f (i + 1) else i) = k
    by_cases e : i = k
    · subst e; rw [if_neg (by rw [hk]; simp)]
    · rw [if_pos (hj i (Nat.le_refl _) (by omega))]
      exact ih (i + 1) (fun j h3 h4 => hj j (by omega) h4) (by omega) (by omega)
theorem stI_at {L M : List Int} {n k : Nat} (hk : goB L M n k = false) (hj : ∀ j, j < k → goB L M n j = true) (hn : k ≤ n) : stI L M n = k := stF_at hk n 0 (fun j _ h => hj j h) (Nat.zero_le _) (by omega)
/- The rows on the way. -/
def fA1 (L : List Int) (i j : Nat) : Int := if j < i then L.getD (j + 1) 0 else L.getD j 0
def fA2 (L M : List Int) (i j : Nat) : Int := if j = i then M.getD i 0 else fA1 L i j
def fB1 (M : List Int) (i k j : Nat) : Int := if i ≤ j ∧ j < k then M.getD (j + 1) 0 else M.getD j 0
def fB2 (M : List Int) (n i j : Nat) : Int := if j = n - 1 then 2 * (n : Int) + 1 else fB1 M i (n - 1) j
def dcF (c : Nat) (f : Nat → Int) (j : Nat) : Int := if j < c then f j - 1 else f j
def prA (L M : List Int) (n : Nat) : List Int := mkF n (dcF n (fA2 L M (stI L M n)))
def prB (L M : List Int) (n : Nat) : List Int := mkF n (dcF n (fB2 M n (stI L M n)))
def prP (ls : List (List Int)) : List (List Int) := if tabB ls = true then [prA (ls.getD 0 []) (ls.getD 1 []) (ls.getD 0 []).length, prB (ls.getD 0 []) (ls.getD 1 []) (ls.getD 0 []).length] else []
theorem prP_rows {ls : List (List Int)} : (prP ls).length ≤ 2 ∧ tot (prP ls) ≤ 32 := by
  unfold prP
  split
  · rename_i h
    match ls, h with
    | [L, M], h =>
      have h8 := (tab_word h).1
      refine ⟨Nat.le_refl _, ?_⟩
      show (prA L M L.length).length + ((prB L M L.length).length + 0) ≤ 32
      unfold prA prB
      rw [mkF_len, mkF_len]; omega
  · exact ⟨Nat.zero_le _, Nat.zero_le _⟩
theorem mkF_row {l : List Int} {n : Nat} (f : Nat → Int) (h : ∀ j, j < n → f j = l.getD j 0) (hl : l.length = n) : mkF n f = l := by
  rw [← mkF_ext h]; exact mkF_self hl

theorem RowN.set {w : World} {base g n cap : Nat} {l : List Int} (h : RowN w base (.slice (some ⟨g, 0, none⟩) n cap) l) (q : Nat) (y : Int) : RowN (w.setCell ⟨g, q, none⟩ (.int .i64 y)) base (.slice (some ⟨g, 0, none⟩) n cap) (l.set q y) := by
  obtain ⟨h0, h⟩ := h
  refine ⟨by simp, ?_⟩
  rcases h with ⟨h1, -⟩ | ⟨g', cap', cur, hv, hb, hg, hn, hcap, hsz, ht⟩
  · cases h1
  · simp only [Value.slice.injEq, Option.some.injEq, Addr.mk.injEq] at hv
    obtain ⟨⟨rfl, -, -⟩, rfl, rfl⟩ := hv
    refine .inr ⟨g, cap, cur.setIfInBounds q (.int .i64 y), by rw [List.length_set], hb, by simp [World.setCell, Array.getElem?_modify, hg], by rw [List.length_set]; exact hn, hcap, by simpa using hsz, ?_⟩
    rw [List.length_set, Array.toList_setIfInBounds, List.take_set, ht, List.map_set]
/-- Two rows of n numbers in blocks of their own. -/
def PS (B : Nat) (w0 : World) (n ga ca gb cb : Nat) (w : World) (fa fb : Nat → Int) : Prop :=
  RowN w B (.slice (some ⟨ga, 0, none⟩) n ca) (mkF n fa) ∧ RowN w B (.slice (some ⟨gb, 0, none⟩) n cb) (mkF n fb) ∧ ga ≠ gb ∧ Below B w0 w
theorem PS.a {B : Nat} {w0 w : World} {n ga ca gb cb : Nat} {fa fb : Nat → Int} (h : PS B w0 n ga ca gb cb w fa fb) {j : Nat} (hj : j < n) : w.cell? ⟨ga, j, none⟩ = some (.int .i64 (fa j)) ∧ w.frozen? ⟨ga, j, none⟩ = false := by
  have := h.1.cell (j := j) (by rw [mkF_len]; exact hj)
  rwa [mkF_at fa hj] at this
theorem PS.b {B : Nat} {w0 w : World} {n ga ca gb cb : Nat} {fa fb : Nat → Int} (h : PS B w0 n ga ca gb cb w fa fb) {j : Nat} (hj : j < n) : w.cell? ⟨gb, j, none⟩ = some (.int .i64 (fb j)) ∧ w.frozen? ⟨gb, j, none⟩ = false := by
  have := h.2.1.cell (j := j) (by rw [mkF_len]; exact hj)
  rwa [mkF_at fb hj] at this
theorem PS.setA {B : Nat} {w0 w : World} {n ga ca gb cb : Nat} {fa fb : Nat → Int} (h : PS B w0 n ga ca gb cb w fa fb) (q : Nat) (y : Int) (fa' : Nat → Int) (hf : ∀ j, j < n → fa' j = if j = q then y else fa j) : PS B w0 n ga ca gb cb (w.setCell ⟨ga, q, none⟩ (.int .i64 y)) fa' fb := by
  obtain ⟨h1, h2, h3, h4⟩ := h
  refine ⟨by rw [← mkF_set hf]; exact h1.set q y, h2.other (fun e => h3 (by simpa [Value.ownBlock] using e.symm)) _, h3, h4.setCell (p := ⟨ga, q, none⟩) h1.lt.1 _⟩
theorem PS.setB {B : Nat} {w0 w : World} {n ga ca gb cb : Nat} {fa fb : Nat → Int} (h : PS B w0 n ga ca gb cb w fa fb) (q : Nat) (y : Int) (fb' : Nat → Int) (hf : ∀ j, j < n → fb' j = if j = q then y else fb j) : PS B w0 n ga ca gb cb (w.setCell ⟨gb, q, none⟩ (.int .i64 y)) fa fb' := by
  obtain ⟨h1, h2, h3, h4⟩ := h
  refine ⟨h1.other (fun e => h3 (by simpa [Value.ownBlock] using e)) _, by rw [← mkF_set hf]; exact h2.set q y, h3, h4.setCell (p := ⟨gb, q, none⟩) h2.lt.1 _⟩
theorem PS.drewN {B : Nat} {w0 w : World} {n ga ca gb cb : Nat} {fa fb : Nat → Int} (h : PS B w0 n ga ca gb cb w fa fb) (q : Nat) : PS B w0 n ga ca gb cb (w.drewN q) fa fb := by
  obtain ⟨h1, h2, h3, h4⟩ := h
  exact ⟨h1, h2, h3, below_drewN h4 q⟩
theorem PS.drew {B : Nat} {w0 w : World} {n ga ca gb cb : Nat} {fa fb : Nat → Int} (h : PS B w0 n ga ca gb cb w fa fb) : PS B w0 n ga ca gb cb w.drew fa fb := by
  obtain ⟨h1, h2, h3, h4⟩ := h
  exact ⟨h1, h2, h3, h4.drew⟩
theorem PS.of {B : Nat} {w0 w : World} {n ga ca gb cb : Nat} {fa fb fa' fb' : Nat → Int} (h : PS B w0 n ga ca gb cb w fa fb) (ha : ∀ j, j < n → fa' j = fa j) (hb : ∀ j, j < n → fb' j = fb j) : PS B w0 n ga ca gb cb w fa' fb' := by
  obtain ⟨h1, h2, h3, h4⟩ := h
  exact ⟨by rw [← mkF_ext ha]; exact h1, by rw [← mkF_ext hb]; exact h2, h3, h4⟩
/- The steps. -/
theorem stepA1 (L : List Int) (i : Nat) (y : Int) (hy : y = L.getD (i + 1) 0) : ∀ j, fA1 L (i + 1) j = if j = i then y else fA1 L i j := by
  intro j
  unfold fA1
  by_cases e : j = i
  · subst e; rw [if_pos rfl, if_pos (by omega), hy]
  · rw [if_neg e]
    by_cases h : j < i
    · rw [if_pos h, if_pos (by omega)]
    · rw [if_neg h, if_neg (by omega)]
theorem stepB1 (M : List Int) (i k : Nat) (h : i ≤ k) (y : Int) (hy : y = M.getD (k + 1) 0) : ∀ j, fB1 M i (k + 1) j = if j = k then y else fB1 M i k j := by
  intro j
  unfold fB1
  by_cases e : j = k
  · subst e; rw [if_pos rfl, if_pos ⟨h, by omega⟩, hy]
  · rw [if_neg e]
    by_cases h : i ≤ j ∧ j < k
    · rw [if_pos h, if_pos (by omega)]
    · rw [if_neg h, if_neg (by omega)]
theorem stepD (c : Nat) (f : Nat → Int) (y : Int) (hy : y = f c - 1) : ∀ j, dcF (c + 1) f j = if j = c then y else dcF c f j := by
  intro j
  unfold dcF
  by_cases e : j = c
  · subst e; rw [if_pos rfl, if_pos (by omega), hy]
  · rw [if_neg e]
    by_cases h : j < c
    · rw [if_pos h, if_pos (by omega)]
    · rw [if_neg h, if_neg (by omega)]
theorem goB_no {L M : List Int} {n i : Nat} (h : ¬ i + 1 < n) : goB L M n i = false := by unfold goB; rw [decide_eq_false h]; rfl
theorem goB_yes {L M : List Int} {n i : Nat} (h : i + 1 < n) : goB L M n i = decide (L.getD (i + 1) 0 < M.getD i 0) := by unfold goB; rw [decide_eq_true h, Bool.true_and]
theorem fA1_at (L : List Int) (i : Nat) : fA1 L i (i + 1) = L.getD (i + 1) 0 := if_neg (by omega)
theorem fB1_at (M : List Int) (i k : Nat) : fB1 M i k (k + 1) = M.getD (k + 1) 0 := if_neg (by omega)
theorem fB1_me (M : List Int) (i k j : Nat) (h : k ≤ i) : fB1 M i k j = M.getD j 0 := if_neg (by omega)
theorem fA1_me (L : List Int) (j : Nat) : fA1 L 0 j = L.getD j 0 := if_neg (by omega)
theorem dc_zero (f : Nat → Int) (j : Nat) : dcF 0 f j = f j := if_neg (by omega)

theorem wpCopyN {w : World} {ops : Array Oper} {rest : List Oper} {o : Oper} {a : Act} {Q : Exit → Act → World → Prop} (hgd : o.guard = none) (s x : Operand)
    (ho : o.op = .call { callee := .builtin .append, args := #[s, x], argTypes := #[31, 31] })
    (A : Option Addr) (cap lo hi : Nat) (xs : List Int) (n : Nat) (hn : xs.length = n) (hv : OwnI w lo hi (.slice A n cap) xs) (hhi : hi ≤ w.heap.size)
    (hs : a.eval s = .slice (some ⟨w.heap.size, 0, none⟩) 0 0) (hx : a.eval x = .slice A n cap) (hl : xs.length ≤ 1048576)
    (h : ∀ g c w', RowN w' w.heap.size (.slice (some ⟨g, 0, none⟩) n c) xs → Below w.heap.size w w' → wpList Try.prog ops Q rest (a.put o.dst (.slice (some ⟨g, 0, none⟩) n c)) w') : wpList Try.prog ops Q (o :: rest) a (w.alloc (.cells #[] 3)) := by
  subst hn
  exact wpCopy hgd s x ho A cap lo hi xs hv hhi hs hx hl h
theorem RowN.low {w : World} {B B' : Nat} {v : Value} {l : List Int} (h : RowN w B v l) (hb : B' ≤ B) : RowN w B' v l :=
  ⟨h.1, h.2.elim .inl fun ⟨g, cap, cur, e, hg, r⟩ => .inr ⟨g, cap, cur, e, Nat.le_trans hb hg, r⟩⟩
theorem RowN.bel {w w' : World} {B H : Nat} {v : Value} {l : List Int} (h : RowN w B v l) (hb : Below H w w') (hh : w.heap.size ≤ H) : RowN w' B v l :=
  h.keep fun g _ h2 _ => hb.block g (by omega)
theorem fA2_bd {L M : List Int} {n i : Nat} (h : ∀ j, j < n → 1 ≤ L.getD j 0 ∧ L.getD j 0 ≤ 16) (h' : ∀ j, j < n → 1 ≤ M.getD j 0 ∧ M.getD j 0 ≤ 16) (hi : i < n) : ∀ j, j < n → 1 ≤ fA2 L M i j ∧ fA2 L M i j ≤ 17 := by
  intro j hj
  unfold fA2 fA1
  split
  · have := h' i hi; omega
  · split
    · have := h (j + 1) (by omega); omega
    · have := h j hj; omega
theorem fB2_bd {M : List Int} {n i : Nat} (h' : ∀ j, j < n → 1 ≤ M.getD j 0 ∧ M.getD j 0 ≤ 16) (hn : n ≤ 8) : ∀ j, j < n → 1 ≤ fB2 M n i j ∧ fB2 M n i j ≤ 17 := by
  intro j hj
  unfold fB2 fB1
  split
  · omega
  · split
    · have := h' (j + 1) (by omega); omega
    · have := h' j hj; omega
theorem tab_bd {L M : List Int} (h : tabB [L, M] = true) : L.length = M.length ∧ L.length ≤ 8 ∧ (∀ j, j < L.length → 1 ≤ L.getD j 0 ∧ L.getD j 0 ≤ 16) ∧ ∀ j, j < L.length → 1 ≤ M.getD j 0 ∧ M.getD j 0 ≤ 16 := by
  obtain ⟨⟨h1, h2⟩, h3⟩ := tab_ck.1 h
  refine ⟨h1, h2, fun j hj => ?_, fun j hj => ?_⟩
  · have := (h3 0 (by omega) j hj).1; have e : ([L, M] : List (List Int)).getD 0 [] = L := rfl; rw [e] at this; omega
  · have := (h3 1 (by omega) j hj).1; have e : ([L, M] : List (List Int)).getD 1 [] = M := rfl; rw [e] at this; omega
theorem PS.table {B : Nat} {w0 w : World} {n ga ca gb cb : Nat} {fa fb : Nat → Int} (h : PS B w0 n ga ca gb cb w fa fb) (hB : B ≤ w.heap.size) :
    Tb (w.alloc (.cells #[.slice (some ⟨ga, 0, none⟩) n ca, .slice (some ⟨gb, 0, none⟩) n cb] 31)) B (.slice (some ⟨w.heap.size, 0, none⟩) 2 2) [.slice (some ⟨ga, 0, none⟩) n ca, .slice (some ⟨gb, 0, none⟩) n cb] [mkF n fa, mkF n fb] :=
  Tb.two h.1 h.2.1 (.inr fun e => h.2.2.1 (by simpa [Value.ownBlock] using e)) hB

set_option maxRecDepth 100000 in
set_option maxHeartbeats 3200000 in
theorem promoteT (v : Value) (ls : List (List Int)) (lo hi : Nat) (w : World) (hv : OwnT w lo hi v ls) (hh : hi ≤ w.heap.size) (hl : ls.length ≤ 1048576) (hr : ∀ j, (ls.getD j []).length ≤ 1048576) :
    Calls Try.prog 15 #[v] w fun e w' => ∃ v vs, e = .returned (.tuple #[v, .bool (tabB ls)]) ∧ Tb w' w.heap.size v vs (prP ls) ∧ Below w.heap.size w w' := by
  have HC := Lib.hid (isTableau v ls lo hi w hv hh hl hr)
  rcases ht : tabB ls with _ | _
  · have HE := Lib.hid (show prP ls = [] from if_neg (by rw [ht]; simp))
    rw [ht] at HC
    clear hv hr ht
    go_enter Try.func15, Try.ntmps15
    go_wp2_with fail
    (with_reducible refine HC.out.mono ?_)
    rintro e w1 ⟨rfl, q, rfl⟩
    have hb := below_drewN (Below.refl w.heap.size w) q
    have z1 := hb.size
    go_wp2
    go_ret2
    exact ⟨_, _, rfl, by rw [HE.out]; exact Tb.made (w.drewN q) w.heap.size z1, hb.alloc z1 _⟩
  · obtain ⟨L, M, rfl⟩ : ∃ L M, ls = [L, M] := by
      match ls, ht with
      | [L, M], _ => exact ⟨L, M, rfl⟩
    obtain ⟨o, c1, rfl⟩ : ∃ o c1, v = .slice (some ⟨o, 0, none⟩) 2 c1 := by
      obtain ⟨A1, c1, rfl, k1⟩ := id hv
      obtain ⟨o, rv, rfl, -⟩ := hv.cell (j := 0) (by simp)
      exact ⟨o, c1, rfl⟩
    obtain ⟨o', rv, e', ho1, ho2, hc, hrow⟩ := hv.cell (j := 0) (by simp)
    obtain rfl : o = o' := by simpa using e'
    obtain ⟨o', rv', e2', -, -, hc', hrow'⟩ := hv.cell (j := 1) (by simp)
    obtain rfl : o = o' := by simpa using e2'
    rw [show ([L, M] : List (List Int)).getD 0 [] = L from rfl] at hrow
    rw [show ([L, M] : List (List Int)).getD 1 [] = M from rfl] at hrow'
    obtain ⟨A2, c2, rfl, -⟩ := id hrow
    obtain ⟨A3, c3, rfl, -⟩ := id hrow'
    obtain ⟨hlm, hn8, hbL, hbM⟩ := tab_bd ht
    obtain ⟨n, hn⟩ : ∃ n, L.length = n := ⟨_, rfl⟩
    have hm : M.length = n := by omega
    have HE := Lib.hid (show prP [L, M] = [prA L M n, prB L M n] by rw [← hn]; exact if_pos ht)
    rw [hn] at hc hrow hbL hbM hn8
    rw [hm] at hc' hrow'
    rw [ht] at HC
    have HN := Lib.hid hn
    have HM := Lib.hid hm
    have HBL := Lib.hid hbL
    have HBM := Lib.hid hbM
    have HROW := Lib.hid hrow
    have HROW' := Lib.hid hrow'
    clear hv hr ht hn hm e' e2' hlm hbL hbM hrow hrow'
    by_cases h0 : n = 0
    · subst h0
      have HBX := Lib.hid (fun (W : World) (hb : Below w.heap.size w W) => show Tb (((W.alloc (.cells #[] 3)).alloc (.cells #[] 3)).alloc (.cells #[.slice (some ⟨W.heap.size, 0, none⟩) 0 0, .slice (some ⟨W.heap.size + 1, 0, none⟩) 0 0] 31)) w.heap.size (.slice (some ⟨W.heap.size + 1 + 1, 0, none⟩) 2 2) [.slice (some ⟨W.heap.size, 0, none⟩) 0 0, .slice (some ⟨W.heap.size + 1, 0, none⟩) 0 0] (prP [L, M]) ∧ Below w.heap.size w (((W.alloc (.cells #[] 3)).alloc (.cells #[] 3)).alloc (.cells #[.slice (some ⟨W.heap.size, 0, none⟩) 0 0, .slice (some ⟨W.heap.size + 1, 0, none⟩) 0 0] 31)) from by
        have hz := hb.size
        have b1 := hb.alloc hz (.cells #[] 3)
        have b2 := b1.alloc b1.size (.cells #[] 3)
        refine ⟨?_, b2.alloc b2.size _⟩
        rw [HE.out]
        have h1 := (RowN.made W w.heap.size _ rfl hz).allocN (.cells #[] 3)
        have h2 := RowN.made (W.alloc (.cells #[] 3)) w.heap.size (W.heap.size + 1) (by simp) (by omega)
        have h3 := Tb.two h1 h2 (.inr fun e => by simp [Value.ownBlock] at e) b2.size
        have e : ((W.alloc (.cells #[] 3)).alloc (.cells #[] 3)).heap.size = W.heap.size + 1 + 1 := by simp
        rw [e] at h3
        exact h3)
      go_enter Try.func15, Try.ntmps15
      go_wp2_with fail
      (with_reducible refine HC.out.mono ?_)
      rintro e w1 ⟨rfl, q, rfl⟩
      have hbw := below_drewN (Below.refl w.heap.size w) q
      generalize w.drewN q = W at *
      have hcW := (hbw.cell (p := ⟨o, 0, none⟩) (show o < w.heap.size by omega)).trans hc
      have HF := Lib.hid (HBX.out W hbw)
      clear hbw
      go_wp2
      go_ret2
      exact ⟨_, _, rfl, HF.out⟩
    · have e0 : ((n : Int) == 0) = false := beq_eq_false_iff_ne.2 (by omega)
      go_enter Try.func15, Try.ntmps15
      go_wp2_with fail
      (with_reducible refine HC.out.mono ?_)
      rintro e w1 ⟨rfl, q, rfl⟩
      have hbw := below_drewN (Below.refl w.heap.size w) q
      generalize w.drewN q = W at *
      have HBW := Lib.hid hbw
      have hzW := hbw.size
      have hcW := (hbw.cell (p := ⟨o, 0, none⟩) (show o < w.heap.size by omega)).trans hc
      have hcW' := (hbw.cell (p := ⟨o, 1, none⟩) (show o < w.heap.size by omega)).trans hc'
      have hcA := (World.cell?_alloc_lt W (.cells #[] 3) ⟨o, 0, none⟩ (show o < W.heap.size by omega)).trans hcW
      clear hbw hc hc'
      go_wp2_with (first
        | (at_builtin; refine wpCopyN rfl _ _ rfl A2 c2 lo hi L n HN.out (HROW.out.keep HBW.out hh) (by omega) rfl rfl (by have := HN.out; omega) ?_; intro ga ca w2 hr2 hb2; have HRA := Lib.hid hr2; have HB2 := Lib.hid hb2; have hz2 := hb2.size; have hc2 := (hb2.cell (p := ⟨o, 1, none⟩) (show o < W.heap.size by omega)).trans hcW'; have hc3 := (World.cell?_alloc_lt w2 (.cells #[] 3) ⟨o, 1, none⟩ (show o < w2.heap.size by omega)).trans hc2; clear hr2 hb2 hcW hcW' hcA)
        | (at_builtin; refine wpCopyN rfl _ _ rfl A3 c3 lo hi M n HM.out (HROW'.out.keep (HBW.out.trans (HB2.out.mono hzW)) hh) (by omega) rfl rfl (by have := HM.out; omega) ?_; intro gb cb w3 hr3 hb3; have HRB := Lib.hid hr3; have HB3 := Lib.hid hb3; have hz3 := hb3.size; clear hr3 hb3 hc2 hc3))
      have HP := Lib.hid (show PS W.heap.size W n ga ca gb cb w3 (fA1 L 0) (fun j => M.getD j 0) from by
        refine ⟨?_, ?_, ?_, HB2.out.trans (HB3.out.mono hz2)⟩
        · rw [mkF_row _ (fun j _ => fA1_me L j) HN.out]; exact HRA.out.bel HB3.out (Nat.le_refl _)
        · rw [mkF_row _ (fun j _ => rfl) HM.out]; exact HRB.out.low hz2
        · have h1 := HRA.out.lt.2
          have h2 := HRB.out.lt.1
          omega)
      clear HRA HRB
      go_loopw [7] (fun y wr => ∃ i : Nat, y = .int .i64 i ∧ i + 1 ≤ n ∧ PS W.heap.size W n ga ca gb cb wr (fA1 L i) (fun j => M.getD j 0) ∧ ∀ j, j < i → goB L M n j = true) (fun y _ => n - (intOf y).toNat)
      case atStart => exact ⟨0, rfl, by omega, HP.out, fun j hj => absurd hj (Nat.not_lt_zero _)⟩
      case round =>
        obtain ⟨i, rfl, hin, hp, hgo⟩ := hrel
        have HPW := Lib.hid hp
        have HGO := Lib.hid hgo
        have HPN := Lib.hid (fun k => hp.drewN k)
        have hbi := hp.b (j := i) (by omega)
        have hbi1 := hbi.1
        have hai := hp.a (j := i) (by omega)
        have hai1 := hai.1
        have hai2 := hai.2
        clear hp hgo HP hbi hai
        by_cases hg : goB L M n i = true
        · have hi1 : i + 1 < n := by
            by_cases h : i + 1 < n
            · exact h
            · rw [goB_no h] at hg; cases hg
          have hd : decide (L.getD (i + 1) 0 < M.getD i 0) = true := by rw [← goB_yes hi1]; exact hg
          have hii : (i : Int) + 1 < (n : Int) := by omega
          have ha1 := (HPW.out.a (j := i + 1) hi1).1
          rw [fA1_at] at ha1
          have HST := Lib.hid (stepA1 L i (L.getD (i + 1) 0) rfl)
          have HGO2 := Lib.hid (show ∀ j, j < i + 1 → goB L M n j = true from fun j hj => by
            by_cases e : j < i
            · exact HGO.out j e
            · obtain rfl : j = i := by omega
              exact hg)
          generalize L.getD (i + 1) 0 = x at *
          generalize M.getD i 0 = m at *
          generalize fA1 L i i = z at *
          have hd2 := of_decide_eq_true hd
          clear hg
          go_wp2
          go_quiet (fail)
          go_wp2
          exact ⟨⟨i + 1, by simp, by omega, (HPN.out _).setA i x (fA1 L (i + 1)) (fun j _ => HST.out j), HGO2.out⟩, by simp [intOf]; omega⟩
        · have hgf : goB L M n i = false := by simpa using hg
          have HSTI := Lib.hid (stI_at hgf HGO.out (by omega))
          have HFA := Lib.hid (show ∀ j, fA2 L M i j = if j = i then M.getD i 0 else fA1 L i j from fun j => rfl)
          have HBDA := Lib.hid (fA2_bd (i := i) HBL.out HBM.out (by omega))
          have HBDB := Lib.hid (fB2_bd (i := i) HBM.out hn8)
          have hin2 : (i : Int) < (n : Int) := by omega
          by_cases hi1 : i + 1 < n
          case' pos =>
            have hd : decide (L.getD (i + 1) 0 < M.getD i 0) = false := by rw [← goB_yes hi1]; exact hgf
            have hii : (i : Int) + 1 < (n : Int) := by omega
            have ha1 := (HPW.out.a (j := i + 1) hi1).1
            rw [fA1_at] at ha1
            have hd2 := of_decide_eq_false hd
            generalize L.getD (i + 1) 0 = x at *
            generalize hmm : M.getD i 0 = m at *
            have HMM := Lib.hid hmm
            generalize fA1 L i i = z at *
            clear hg hgf hmm
            go_wp2
            go_quiet (fail)
            go_wp2
          case' neg =>
            have hii : ¬ (i : Int) + 1 < (n : Int) := by omega
            have hdd : decide ((i : Int) + 1 < (n : Int)) = false := decide_eq_false hii
            generalize hmm : M.getD i 0 = m at *
            have HMM := Lib.hid hmm
            generalize fA1 L i i = z at *
            clear hg hgf hmm
            go_wp2
            go_quiet (fail)
            go_wp2
          all_goals (
            go_loopw [7] (fun y wr => ∃ k : Nat, i ≤ k ∧ k + 1 ≤ n ∧ y = .int .i64 k ∧ PS W.heap.size W n ga ca gb cb wr (fA2 L M i) (fB1 M i k)) (fun y _ => n - (intOf y).toNat)
            case atStart => exact ⟨i, Nat.le_refl _, hin, rfl, ((HPN.out _).setA i m (fA2 L M i) (fun j _ => HFA.out j)).of (fun j _ => rfl) (fun j _ => fB1_me M i i j (Nat.le_refl _))⟩
            case round =>
              obtain ⟨k, hik, hkn, rfl, hp⟩ := hrel
              have HQ := Lib.hid hp
              clear hp HPW HPN hbi1 hai1 hai2
              have hbk := HQ.out.b (j := k) (by omega)
              have hbk1 := hbk.1
              have hbk2 := hbk.2
              clear hbk
              by_cases hk1 : k + 1 < n
              · first
                | (exfalso; omega)
                | (have hki : (k : Int) + 1 < (n : Int) := by omega
                   have hb1 := (HQ.out.b (j := k + 1) hk1).1
                   rw [fB1_at] at hb1
                   have HST := Lib.hid (stepB1 M i k hik (M.getD (k + 1) 0) rfl)
                   generalize M.getD (k + 1) 0 = x2 at *
                   generalize fB1 M i k k = z2 at *
                   go_wp2
                   exact ⟨⟨k + 1, by omega, by omega, by simp, HQ.out.setB k x2 (fB1 M i (k + 1)) (fun j _ => HST.out j)⟩, by simp [intOf]; omega⟩)
              · have hki : ¬ (k : Int) + 1 < (n : Int) := by omega
                have hki2 : (k : Int) < (n : Int) := by omega
                have HQ2 := Lib.hid (HQ.out.setB k (2 * (n : Int) + 1) (dcF 0 (fB2 M n i)) (fun j hj => by
                  rw [dc_zero]
                  unfold fB2
                  rw [show n - 1 = k by omega]))
                have HQ3 := Lib.hid (HQ2.out.of (fun j _ => dc_zero (fA2 L M i) j) (fun j _ => rfl))
                clear HQ HQ2
                generalize fB1 M i k k = z2 at *
                go_wp2
                go_loopw [8] (fun y wr => ∃ c : Nat, c ≤ n ∧ y = .int .i64 c ∧ PS W.heap.size W n ga ca gb cb wr (dcF c (fA2 L M i)) (dcF c (fB2 M n i))) (fun y _ => n - (intOf y).toNat)
                case atStart => exact ⟨0, Nat.zero_le _, rfl, HQ3.out⟩
                case round =>
                  obtain ⟨c, hc1, rfl, hp⟩ := hrel
                  have HR := Lib.hid hp
                  clear hp HQ3 hbk1 hbk2
                  by_cases hcn : c < n
                  · have hci : (c : Int) < (n : Int) := by omega
                    have hac := HR.out.a (j := c) hcn
                    have hac1 := hac.1
                    have hac2 := hac.2
                    have HA1 := Lib.hid (stepD c (fA2 L M i) _ rfl)
                    have HB1 := Lib.hid (stepD c (fB2 M n i) _ rfl)
                    have hba := HBDA.out c hcn
                    have hbb := HBDB.out c hcn
                    rw [show dcF c (fA2 L M i) c = fA2 L M i c from if_neg (Nat.lt_irrefl _)] at hac1
                    have HS1 := Lib.hid (HR.out.setA c (fA2 L M i c - 1) (dcF (c + 1) (fA2 L M i)) (fun j _ => HA1.out j))
                    have hbc := HS1.out.b (j := c) hcn
                    have hbc1 := hbc.1
                    have hbc2 := hbc.2
                    rw [show dcF c (fB2 M n i) c = fB2 M n i c from if_neg (Nat.lt_irrefl _)] at hbc1
                    have HS2 := Lib.hid (HS1.out.setB c (fB2 M n i c - 1) (dcF (c + 1) (fB2 M n i)) (fun j _ => HB1.out j))
                    clear hac hbc
                    generalize fA2 L M i c = xa at *
                    generalize fB2 M n i c = xb at *
                    go_wp2
                    exact ⟨⟨c + 1, by omega, by simp, HS2.out⟩, by simp [intOf]; omega⟩
                  · obtain rfl : c = n := by omega
                    have hci : ¬ (c : Int) < (c : Int) := by omega
                    have hz := HR.out.2.2.2.size
                    have HT := Lib.hid (HR.out.table hz)
                    have HBF := Lib.hid (HR.out.2.2.2.alloc hz (.cells #[.slice (some ⟨ga, 0, none⟩) c ca, .slice (some ⟨gb, 0, none⟩) c cb] 31))
                    go_wp2
                    go_ret2
                    refine ⟨_, rfl, ⟨[.slice (some ⟨ga, 0, none⟩) c ca, .slice (some ⟨gb, 0, none⟩) c cb], ?_⟩, HBW.out.trans (HBF.out.mono hzW)⟩
                    rw [HE.out]
                    unfold prA prB
                    rw [HSTI.out]
                    exact HT.out.down hzW)

/-- Two rows and the table that holds them. -/
def PT (B : Nat) (w0 : World) (n ga ca gb cb o3 : Nat) (w : World) (fa fb : Nat → Int) : Prop :=
  PS B w0 n ga ca gb cb w fa fb ∧ w.ownsRow B 31 1 (.slice (some ⟨o3, 0, none⟩) 2 2) 2 [.slice (some ⟨ga, 0, none⟩) n ca, .slice (some ⟨gb, 0, none⟩) n cb] ∧ o3 ≠ ga ∧ o3 ≠ gb
theorem PT.setA {B : Nat} {w0 w : World} {n ga ca gb cb o3 : Nat} {fa fb : Nat → Int} (h : PT B w0 n ga ca gb cb o3 w fa fb) (q : Nat) (y : Int) (fa' : Nat → Int) (hf : ∀ j, j < n → fa' j = if j = q then y else fa j) : PT B w0 n ga ca gb cb o3 (w.setCell ⟨ga, q, none⟩ (.int .i64 y)) fa' fb := by
  obtain ⟨h1, h2, h3, h4⟩ := h
  exact ⟨h1.setA q y fa' hf, row_eq h2 (fun b hb => by
    have : o3 = b := by simpa [Value.ownBlock] using hb
    subst this
    exact Below.heap_setCell _ _ _ o3 h3), h3, h4⟩
theorem PT.setB {B : Nat} {w0 w : World} {n ga ca gb cb o3 : Nat} {fa fb : Nat → Int} (h : PT B w0 n ga ca gb cb o3 w fa fb) (q : Nat) (y : Int) (fb' : Nat → Int) (hf : ∀ j, j < n → fb' j = if j = q then y else fb j) : PT B w0 n ga ca gb cb o3 (w.setCell ⟨gb, q, none⟩ (.int .i64 y)) fa fb' := by
  obtain ⟨h1, h2, h3, h4⟩ := h
  exact ⟨h1.setB q y fb' hf, row_eq h2 (fun b hb => by
    have : o3 = b := by simpa [Value.ownBlock] using hb
    subst this
    exact Below.heap_setCell _ _ _ o3 h4), h3, h4⟩
theorem PT.drewN {B : Nat} {w0 w : World} {n ga ca gb cb o3 : Nat} {fa fb : Nat → Int} (h : PT B w0 n ga ca gb cb o3 w fa fb) (q : Nat) : PT B w0 n ga ca gb cb o3 (w.drewN q) fa fb := by
  obtain ⟨h1, h2, h3, h4⟩ := h
  exact ⟨h1.drewN q, h2, h3, h4⟩
theorem PT.drew {B : Nat} {w0 w : World} {n ga ca gb cb o3 : Nat} {fa fb : Nat → Int} (h : PT B w0 n ga ca gb cb o3 w fa fb) : PT B w0 n ga ca gb cb o3 w.drew fa fb := by
  obtain ⟨h1, h2, h3, h4⟩ := h
  exact ⟨h1.drew, h2, h3, h4⟩
theorem PT.of {B : Nat} {w0 w : World} {n ga ca gb cb o3 : Nat} {fa fb fa' fb' : Nat → Int} (h : PT B w0 n ga ca gb cb o3 w fa fb) (ha : ∀ j, j < n → fa' j = fa j) (hb : ∀ j, j < n → fb' j = fb j) : PT B w0 n ga ca gb cb o3 w fa' fb' := ⟨h.1.of ha hb, h.2.1, h.2.2.1, h.2.2.2⟩
theorem PT.t0 {B : Nat} {w0 w : World} {n ga ca gb cb o3 : Nat} {fa fb : Nat → Int} (h : PT B w0 n ga ca gb cb o3 w fa fb) : w.cell? ⟨o3, 0, none⟩ = some (.slice (some ⟨ga, 0, none⟩) n ca) ∧ w.cell? ⟨o3, 1, none⟩ = some (.slice (some ⟨gb, 0, none⟩) n cb) :=
  ⟨h.2.1.cellAt 0 (by omega), h.2.1.cellAt 1 (by omega)⟩
theorem PT.tb {B : Nat} {w0 w : World} {n ga ca gb cb o3 : Nat} {fa fb : Nat → Int} (h : PT B w0 n ga ca gb cb o3 w fa fb) : Tb w B (.slice (some ⟨o3, 0, none⟩) 2 2) [.slice (some ⟨ga, 0, none⟩) n ca, .slice (some ⟨gb, 0, none⟩) n cb] [mkF n fa, mkF n fb] := by
  obtain ⟨⟨h1, h2, hne, hb⟩, h3, -, -⟩ := h
  refine ⟨rfl, h3, fun j hj => ?_, fun j k hj hk hjk => ?_⟩
  · match j, hj with
    | 0, _ => exact h1
    | 1, _ => exact h2
  · have hj2 : j < 2 := hj
    have hk2 : k < 2 := hk
    have hx : (Value.slice (some ⟨ga, 0, none⟩) n ca).ownBlock ≠ (Value.slice (some ⟨gb, 0, none⟩) n cb).ownBlock := fun e => hne (by simpa [Value.ownBlock] using e)
    rcases Nat.lt_or_ge j 1 with h | h
    · obtain rfl : j = 0 := by omega
      obtain rfl : k = 1 := by omega
      exact .inr hx
    · obtain rfl : j = 1 := by omega
      obtain rfl : k = 0 := by omega
      exact .inr fun e => hx e.symm

set_option maxRecDepth 100000 in
set_option maxHeartbeats 3200000 in
theorem slideHoleI (B : Nat) (w0 : World) (n ga ca gb cb o3 : Nat) (L M : List Int) (w : World) (hn0 : 0 < n) (hn8 : n ≤ 8) (h : PT B w0 n ga ca gb cb o3 w (fA1 L 0) (fun j => M.getD j 0)) :
    Calls Try.prog 34 #[.slice (some ⟨o3, 0, none⟩) 2 2] w fun e w' => e = .returned (.tuple #[]) ∧ PT B w0 n ga ca gb cb o3 w' (fA2 L M (stI L M n)) (fB1 M (stI L M n) (n - 1)) := by
  have HP := Lib.hid h
  obtain ⟨ht0, ht1⟩ := h.t0
  have hl1 : (n : Int) - 1 = ((n - 1 : Nat) : Int) := by omega
  clear h
  go_enter Try.func34, Try.ntmps34
  go_wp2
  refine wp_scope_straight ?_
  go_wp2
  go_step3
  go_wp2
  go_loopw [2, 3] (fun r y wr => ∃ k : Nat, y = .int .i64 k ∧ k + 1 ≤ n ∧ ((r = .int .i64 0 ∧ PT B w0 n ga ca gb cb o3 wr (fA1 L k) (fun j => M.getD j 0) ∧ ∀ j, j < k → goB L M n j = true) ∨ (r = .int .i64 1 ∧ stI L M n ≤ k ∧ PT B w0 n ga ca gb cb o3 wr (fA2 L M (stI L M n)) (fB1 M (stI L M n) k)))) (fun _ y _ => n - (intOf y).toNat)
  case atStart => exact ⟨0, rfl, by omega, .inl ⟨rfl, HP.out, fun j hj => absurd hj (Nat.not_lt_zero _)⟩⟩
  case round =>
    obtain ⟨k, rfl, hkn, hh⟩ := hrel
    clear HP ht0 ht1
    have hkk : (k : Int) < (n : Int) := by omega
    rcases hh with ⟨rfl, hp, hgo⟩ | ⟨rfl, hik, hp⟩
    · have HPW := Lib.hid hp
      have HGO := Lib.hid hgo
      obtain ⟨ht0, ht1⟩ := hp.t0
      have hbk := (hp.1.b (j := k) (by omega)).1
      have hak1 := (hp.1.a (j := k) (by omega)).1
      have hak2 := (hp.1.a (j := k) (by omega)).2
      have hbf := (hp.1.b (j := k) (by omega)).2
      have HPN := Lib.hid (fun q => hp.drewN q)
      clear hp hgo
      by_cases hg : goB L M n k = true
      · have hk1 : k + 1 < n := by
          by_cases h : k + 1 < n
          · exact h
          · rw [goB_no h] at hg; cases hg
        have hd : decide (L.getD (k + 1) 0 < M.getD k 0) = true := by rw [← goB_yes hk1]; exact hg
        have hkl : (k : Int) < ((n - 1 : Nat) : Int) := by omega
        have hkl2 : (k : Int) + 1 < (n : Int) := by omega
        have ha1 := (HPW.out.1.a (j := k + 1) hk1).1
        rw [fA1_at] at ha1
        have HST := Lib.hid (stepA1 L k (L.getD (k + 1) 0) rfl)
        have HGO2 := Lib.hid (show ∀ j, j < k + 1 → goB L M n j = true from fun j hj => by
          by_cases e : j < k
          · exact HGO.out j e
          · obtain rfl : j = k := by omega
            exact hg)
        generalize L.getD (k + 1) 0 = x at *
        generalize M.getD k 0 = m at *
        generalize fA1 L k k = z at *
        have hd2 := of_decide_eq_true hd
        clear hg
        go_wp2
        go_quiet (fail)
        go_wp2
        go_region
        all_goals go_wp2
        all_goals exact ⟨⟨k + 1, by simp, by omega, .inl ⟨rfl, by first | exact (HPN.out _).setA k x (fA1 L (k + 1)) (fun j _ => HST.out j) | exact (HPN.out _).drew.setA k x (fA1 L (k + 1)) (fun j _ => HST.out j), HGO2.out⟩⟩, by simp [intOf]; omega⟩
      · have hgf : goB L M n k = false := by simpa using hg
        have HSTI := Lib.hid (stI_at hgf HGO.out (by omega))
        have HFA := Lib.hid (show ∀ j, fA2 L M k j = if j = k then M.getD k 0 else fA1 L k j from fun j => rfl)
        by_cases hk1 : k + 1 < n
        · have hd : decide (L.getD (k + 1) 0 < M.getD k 0) = false := by rw [← goB_yes hk1]; exact hgf
          have hkl : (k : Int) < ((n - 1 : Nat) : Int) := by omega
          have hkl2 : (k : Int) + 1 < (n : Int) := by omega
          have hke : ((k : Int) == ((n - 1 : Nat) : Int)) = false := beq_eq_false_iff_ne.2 (by omega)
          have ha1 := (HPW.out.1.a (j := k + 1) hk1).1
          rw [fA1_at] at ha1
          have hd2 := of_decide_eq_false hd
          have HP2 := Lib.hid (fun q => ((HPN.out q).setA k (M.getD k 0) (fA2 L M k) (fun j _ => HFA.out j)).of (fun j _ => rfl) (fun j _ => fB1_me M k k j (Nat.le_refl _)))
          have HST := Lib.hid (stepB1 M k k (Nat.le_refl _) (M.getD (k + 1) 0) rfl)
          have hc0 := fun q => (HP2.out q).t0.1
          have hc1 := fun q => (HP2.out q).t0.2
          have hc2 := fun q => ((HP2.out q).1.b (j := k + 1) hk1).1
          have hc3 := fun q => ((HP2.out q).1.b (j := k) (by omega)).1
          have hc4 := fun q => ((HP2.out q).1.b (j := k) (by omega)).2
          have HP3 := Lib.hid (fun q => (HP2.out q).drewN 0)
          simp only [fB1_at] at hc2
          rw [show fB1 M k k k = M.getD k 0 from fB1_me M k k k (Nat.le_refl _)] at hc3
          have HSI := Lib.hid (show stI L M n = k from HSTI.out)
          generalize L.getD (k + 1) 0 = x at *
          generalize M.getD (k + 1) 0 = x2 at *
          generalize M.getD k 0 = m at *
          generalize fA1 L k k = z at *
          clear hg hgf
          go_wp2
          go_quiet (fail)
          go_wp2
          go_region
          all_goals go_wp2
          all_goals go_region
          all_goals go_wp2
          all_goals exact ⟨⟨k + 1, by simp, by omega, .inr ⟨rfl, by rw [HSI.out]; omega, by rw [HSI.out]; exact ((HP2.out _).setB k x2 (fB1 M k (k + 1)) (fun j _ => HST.out j)).drew⟩⟩, by simp [intOf]; omega⟩
        · have hkN : ¬ k < n - 1 := by omega
          have hkN2 : decide (k < n - 1) = false := decide_eq_false hkN
          have hkl : ¬ (k : Int) < ((n - 1 : Nat) : Int) := by omega
          have hkd : decide ((k : Int) < ((n - 1 : Nat) : Int)) = false := decide_eq_false hkl
          have hke : ((k : Int) == ((n - 1 : Nat) : Int)) = true := by rw [beq_iff_eq]; omega
          have HP2 := Lib.hid (fun q => ((HPN.out q).setA k (M.getD k 0) (fA2 L M k) (fun j _ => HFA.out j)).of (fun j _ => rfl) (fun j _ => fB1_me M k (n - 1) j (by omega)))
          generalize M.getD k 0 = m at *
          generalize fA1 L k k = z at *
          clear hg hgf
          go_wp2
          go_quiet (fail)
          go_wp2
          go_region
          all_goals go_wp2
          all_goals simp only [Exit.noGoto]
          all_goals go_end0
          all_goals exact ⟨rfl, by rw [HSTI.out]; first | exact HP2.out _ | exact (HP2.out _).drew⟩
    · have HPW := Lib.hid hp
      obtain ⟨ht0, ht1⟩ := hp.t0
      have HPN := Lib.hid (fun q => hp.drewN q)
      have hbk1 := (hp.1.b (j := k) (by omega)).1
      have hbk2 := (hp.1.b (j := k) (by omega)).2
      by_cases hk1 : k + 1 < n
      · have hkl2 : (k : Int) + 1 < (n : Int) := by omega
        have hke : ((k : Int) == ((n - 1 : Nat) : Int)) = false := beq_eq_false_iff_ne.2 (by omega)
        have hb1 := (hp.1.b (j := k + 1) hk1).1
        rw [fB1_at] at hb1
        have HST := Lib.hid (stepB1 M (stI L M n) k hik (M.getD (k + 1) 0) rfl)
        generalize M.getD (k + 1) 0 = x at *
        generalize hz : fB1 M (stI L M n) k k = z at *
        clear hz hp
        go_wp2
        go_region
        all_goals go_wp2
        all_goals exact ⟨⟨k + 1, by simp, by omega, .inr ⟨rfl, by omega, by first | exact (HPN.out _).setB k x (fB1 M (stI L M n) (k + 1)) (fun j _ => HST.out j) | exact (HPN.out _).drew.setB k x (fB1 M (stI L M n) (k + 1)) (fun j _ => HST.out j) | exact HPW.out.drew.setB k x (fB1 M (stI L M n) (k + 1)) (fun j _ => HST.out j)⟩⟩, by simp [intOf]; omega⟩
      · have hke : ((k : Int) == ((n - 1 : Nat) : Int)) = true := by rw [beq_iff_eq]; omega
        obtain rfl : k = n - 1 := by omega
        clear hp
        go_wp2
        simp only [Exit.noGoto]
        go_end0
        exact ⟨rfl, HPW.out⟩

/-- A table of two rows of a call's own. -/
def PG (B : Nat) (w0 : World) (w : World) (p : Value) (L M : List Int) : Prop :=
  ∃ o3 va vb, p = .slice (some ⟨o3, 0, none⟩) 2 2 ∧ RowN w B va L ∧ RowN w B vb M ∧ (va.ownBlock = none ∨ va.ownBlock ≠ vb.ownBlock) ∧ w.ownsRow B 31 1 (.slice (some ⟨o3, 0, none⟩) 2 2) 2 [va, vb] ∧ va.ownBlock ≠ some o3 ∧ vb.ownBlock ≠ some o3 ∧ Below B w0 w
theorem PG.two {B : Nat} {w0 w : World} {va vb : Value} {L M : List Int} (h1 : RowN w B va L) (h2 : RowN w B vb M) (hne : va.ownBlock = none ∨ va.ownBlock ≠ vb.ownBlock) (hb : Below B w0 w) (hB : B ≤ w.heap.size) :
    PG B w0 (w.alloc (.cells #[va, vb] 31)) (.slice (some ⟨w.heap.size, 0, none⟩) 2 2) L M :=
  ⟨w.heap.size, va, vb, rfl, h1.allocN _, h2.allocN _, hne, (Tb.two h1 h2 hne hB).own, fun e => by have := (World.ownsRow.lt h1 _ e).2; omega, fun e => by have := (World.ownsRow.lt h2 _ e).2; omega, hb.alloc hB _⟩
theorem stF_lt {L M : List Int} {n : Nat} : ∀ f i, i < n → stF L M n f i < n := by
  intro f
  induction f with
  | zero => intro i h; exact h
  | succ f ih =>
    intro i h
    show (if goB L M n i = true then stF L M n f (i + 1) else i) < n
    by_cases e : goB L M n i = true
    · rw [if_pos e]
      refine ih (i + 1) ?_
      by_cases h2 : i + 1 < n
      · exact h2
      · rw [goB_no h2] at e; cases e
    · rw [if_neg e]; exact h
theorem leafP {W w1 w2 : World} {v1 v2 : Value} {l1 l2 : List Int} (hb1 : Below W.heap.size W w1) (hr1 : RowN w1 W.heap.size v1 l1) (hb2 : Below w1.heap.size w1 w2) (hr2 : RowN w2 w1.heap.size v2 l2) :
    RowN w2 W.heap.size v1 l1 ∧ RowN w2 W.heap.size v2 l2 ∧ (∀ k, v1.ownBlock = some k → v2.ownBlock ≠ some k) ∧ Below W.heap.size W w2 ∧ W.heap.size ≤ w2.heap.size := by
  refine ⟨hr1.bel hb2 (Nat.le_refl _), hr2.low hb1.size, fun k e e2 => ?_, hb1.trans (hb2.mono hb1.size), Nat.le_trans hb1.size hb2.size⟩
  have h1 := (World.ownsRow.lt hr1 k e).2
  have h2 := (World.ownsRow.lt hr2 k e2).1
  omega
theorem apt_ne {v1 v2 : Value} (h : ∀ k, v1.ownBlock = some k → v2.ownBlock ≠ some k) : v1.ownBlock = none ∨ v1.ownBlock ≠ v2.ownBlock := by
  rcases e : v1.ownBlock with _ | k
  · exact .inl rfl
  · exact .inr fun e2 => h k e e2.symm
theorem apt_ne' {v1 v2 : Value} (h : ∀ k, v1.ownBlock = some k → v2.ownBlock ≠ some k) : v2.ownBlock = none ∨ v2.ownBlock ≠ v1.ownBlock := by
  rcases e : v2.ownBlock with _ | k
  · exact .inl rfl
  · exact .inr fun e2 => h k e2.symm e
/-- Copying both rows, the first one first or last. -/
theorem leafA {W w1 w2 : World} {va vb : Value} {L M : List Int} (hb1 : Below W.heap.size W w1) (hr1 : RowN w1 W.heap.size va L) (hb2 : Below w1.heap.size w1 w2) (hr2 : RowN w2 w1.heap.size vb M) : PG W.heap.size W (w2.alloc (.cells #[va, vb] 31)) (.slice (some ⟨w2.heap.size, 0, none⟩) 2 2) L M := by
  obtain ⟨h1, h2, h3, h4, h5⟩ := leafP hb1 hr1 hb2 hr2
  exact PG.two h1 h2 (apt_ne h3) h4 h5
theorem leafB {W w1 w2 : World} {va vb : Value} {L M : List Int} (hb1 : Below W.heap.size W w1) (hr1 : RowN w1 W.heap.size vb M) (hb2 : Below w1.heap.size w1 w2) (hr2 : RowN w2 w1.heap.size va L) : PG W.heap.size W (w2.alloc (.cells #[va, vb] 31)) (.slice (some ⟨w2.heap.size, 0, none⟩) 2 2) L M := by
  obtain ⟨h1, h2, h3, h4, h5⟩ := leafP hb1 hr1 hb2 hr2
  exact PG.two h2 h1 (apt_ne' h3) h4 h5

set_option maxRecDepth 100000 in
set_option maxHeartbeats 3200000 in
theorem promoteTI (v : Value) (ls : List (List Int)) (lo hi : Nat) (w : World) (hv : OwnT w lo hi v ls) (hh : hi ≤ w.heap.size) (hl : ls.length ≤ 1048576) (hr : ∀ j, (ls.getD j []).length ≤ 1048576) :
    Calls Try.prog 16 #[v] w fun e w' => ∃ v vs, e = .returned (.tuple #[v, .bool (tabB ls)]) ∧ Tb w' w.heap.size v vs (prP ls) ∧ Below w.heap.size w w' := by
  have HC := Lib.hid (isTableauI v ls lo hi w hv hh hl hr)
  rcases ht : tabB ls with _ | _
  · have HE := Lib.hid (show prP ls = [] from if_neg (by rw [ht]; simp))
    rw [ht] at HC
    clear hv hr ht
    go_enter Try.func16, Try.ntmps16
    go_wp2_with fail
    (with_reducible refine HC.out.mono ?_)
    rintro e w1 ⟨rfl, hb⟩
    go_wp2
    go_ret2
    exact ⟨_, _, rfl, by rw [HE.out]; exact Tb.nil _ _, hb⟩
  · obtain ⟨L, M, rfl⟩ : ∃ L M, ls = [L, M] := by
      match ls, ht with
      | [L, M], _ => exact ⟨L, M, rfl⟩
    obtain ⟨o, c1, rfl⟩ : ∃ o c1, v = .slice (some ⟨o, 0, none⟩) 2 c1 := by
      obtain ⟨A1, c1, rfl, k1⟩ := id hv
      obtain ⟨o, rv, rfl, -⟩ := hv.cell (j := 0) (by simp)
      exact ⟨o, c1, rfl⟩
    obtain ⟨o', rv, e', ho1, ho2, hc, hrow⟩ := hv.cell (j := 0) (by simp)
    obtain rfl : o = o' := by simpa using e'
    obtain ⟨o', rv', e2', -, -, hc', hrow'⟩ := hv.cell (j := 1) (by simp)
    obtain rfl : o = o' := by simpa using e2'
    rw [show ([L, M] : List (List Int)).getD 0 [] = L from rfl] at hrow
    rw [show ([L, M] : List (List Int)).getD 1 [] = M from rfl] at hrow'
    obtain ⟨A2, c2, rfl, -⟩ := id hrow
    obtain ⟨A3, c3, rfl, -⟩ := id hrow'
    obtain ⟨hlm, hn8, hbL, hbM⟩ := tab_bd ht
    have HC0 := Lib.hid (fun (W : World) (hb : Below w.heap.size w W) => cloneI A2 L c2 lo hi W (hrow.keep hb hh) (Nat.le_trans hh hb.size) (by omega))
    have HC1 := Lib.hid (fun (W : World) (hb : Below w.heap.size w W) => cloneI A3 M c3 lo hi W (hrow'.keep hb hh) (Nat.le_trans hh hb.size) (by omega))
    obtain ⟨n, hn⟩ : ∃ n, L.length = n := ⟨_, rfl⟩
    have hm : M.length = n := by omega
    have HE := Lib.hid (show prP [L, M] = [prA L M n, prB L M n] by rw [← hn]; exact if_pos ht)
    rw [hn] at hc hbL hbM hn8 HC0
    rw [hm] at hc' HC1
    rw [ht] at HC
    have HN := Lib.hid hn
    have HM := Lib.hid hm
    have HBL := Lib.hid hbL
    have HBM := Lib.hid hbM
    clear hv hr ht hn hm e' e2' hlm hbL hbM hrow hrow'
    go_enter Try.func16, Try.ntmps16
    go_wp2_with fail
    (with_reducible refine HC.out.mono ?_)
    rintro e W ⟨rfl, hbw⟩
    have HBW := Lib.hid hbw
    have hzW := hbw.size
    have hcW := (hbw.cell (p := ⟨o, 0, none⟩) (show o < w.heap.size by omega)).trans hc
    have hcW' := (hbw.cell (p := ⟨o, 1, none⟩) (show o < w.heap.size by omega)).trans hc'
    have HC2 := Lib.hid (fun (X : World) (hb : Below W.heap.size W X) => show X.cell? ⟨o, 0, none⟩ = some (.slice A2 n c2) ∧ X.cell? ⟨o, 1, none⟩ = some (.slice A3 n c3) from ⟨(hb.cell (p := ⟨o, 0, none⟩) (show o < W.heap.size by omega)).trans hcW, (hb.cell (p := ⟨o, 1, none⟩) (show o < W.heap.size by omega)).trans hcW'⟩)
    clear hbw hc hc'
    go_upto_region 3 with fail
    go_cut [4] (fun p wx => PG W.heap.size W wx p L M)
    case first =>
      go_region_law (first
        | (go_simp; go_at_call 33; (with_reducible refine (HC0.out _ (by first | exact HBW.out.drew | exact HBW.out | exact HBW.out.trans (HBb.out.mono hzW) | exact (HBW.out.trans (HBb.out.mono hzW)).drew)).mono ?_); rintro e wa ⟨va, rfl, hra, hba⟩; obtain ⟨Aa, cca, ea, -⟩ := RowN.form hra; rw [HN.out] at ea; subst ea; have HRA := Lib.hid hra; have HXa := Lib.hid hba; have HBa := Lib.hid (show Below W.heap.size W wa from by first | exact HBb.out.trans (hba.mono HBb.out.size) | exact ((Below.refl W.heap.size W).drew).trans hba | exact hba); have hca := (HC2.out wa HBa.out).1; have hca' := (HC2.out wa HBa.out).2; clear hra hba)
        | (go_simp; go_at_call 33; (with_reducible refine (HC1.out _ (by first | exact HBW.out.drew | exact HBW.out | exact HBW.out.trans (HBa.out.mono hzW) | exact (HBW.out.trans (HBa.out.mono hzW)).drew)).mono ?_); rintro e wb ⟨vb, rfl, hrb, hbb⟩; obtain ⟨Ab, ccb, eb, -⟩ := RowN.form hrb; rw [HM.out] at eb; subst eb; have HRB := Lib.hid hrb; have HXb := Lib.hid hbb; have HBb := Lib.hid (show Below W.heap.size W wb from by first | exact HBa.out.trans (hbb.mono HBa.out.size) | exact ((Below.refl W.heap.size W).drew).trans hbb | exact hbb); have hcb := (HC2.out wb HBb.out).1; have hcb' := (HC2.out wb HBb.out).2; clear hrb hbb))
      all_goals (go_wp2_with fail; go_meet)
      all_goals exact leafA HBa.out HRA.out HXb.out HRB.out
    case rest =>
      obtain ⟨o3, va, vb, rfl, hra, hrb, hne, htab, hoa, hob, hbx⟩ := hcut
      have HRA := Lib.hid hra
      have HRB := Lib.hid hrb
      have HTAB := Lib.hid htab
      have HBX := Lib.hid hbx
      have hzX := hbx.size
      have hcX := (HC2.out wc hbx).1
      have ht0 := htab.cellAt 0 (by omega)
      have ht1 := htab.cellAt 1 (by omega)
      clear hcW hcW' HC2 HC0 HC1 HC
      by_cases h0 : n = 0
      · subst h0
        obtain ⟨Aa, cca, ea, -⟩ := RowN.form hra
        rw [HN.out] at ea
        subst ea
        obtain ⟨Ab, ccb, eb, -⟩ := RowN.form hrb
        rw [HM.out] at eb
        subst eb
        have HF := Lib.hid (show Tb wc w.heap.size (.slice (some ⟨o3, 0, none⟩) 2 2) [.slice Aa 0 cca, .slice Ab 0 ccb] (prP [L, M]) ∧ Below w.heap.size w wc from by
          refine ⟨?_, HBW.out.trans (HBX.out.mono hzW)⟩
          rw [HE.out]
          have e1 : L = [] := List.eq_nil_of_length_eq_zero HN.out
          have e2 : M = [] := List.eq_nil_of_length_eq_zero HM.out
          have hA : RowN wc W.heap.size (.slice Aa 0 cca) [] := by have := HRA.out; rwa [e1] at this
          have hB : RowN wc W.heap.size (.slice Ab 0 ccb) [] := by have := HRB.out; rwa [e2] at this
          refine Tb.down (base := W.heap.size) ⟨rfl, HTAB.out, fun j hj => ?_, fun j k hj hk hjk => ?_⟩ hzW
          · match j, hj with
            | 0, _ => exact hA
            | 1, _ => exact hB
          · have hj2 : j < 2 := hj
            have hk2 : k < 2 := hk
            rcases Nat.lt_or_ge j 1 with h | h
            · obtain rfl : j = 0 := by omega
              obtain rfl : k = 1 := by omega
              exact hne
            · obtain rfl : j = 1 := by omega
              obtain rfl : k = 0 := by omega
              exact sw hne)
        clear hra hrb htab hbx
        go_wp2
        go_loopw [40] (fun y wr => ∃ r : Nat, r ≤ 2 ∧ y = .int .i64 r ∧ wr = wc) (fun y _ => 2 - (intOf y).toNat)
        case atStart => exact ⟨0, Nat.zero_le _, rfl, rfl⟩
        case round =>
          obtain ⟨r, hr1, rfl, rfl⟩ := hrel
          by_cases hr2 : r < 2
          · have hri : (r : Int) < 2 := by omega
            rcases (show r = 0 ∨ r = 1 by omega) with rfl | rfl
            · go_wp2
              refine wp_loop_rounds 1 ?_
              rw [rounds_succ]
              go_wp2
              exact ⟨⟨1, by omega, by simp, by first | rfl | simp⟩, by simp [intOf]⟩
            · go_wp2
              refine wp_loop_rounds 1 ?_
              rw [rounds_succ]
              go_wp2
              exact ⟨⟨2, by omega, by simp, by first | rfl | simp⟩, by simp [intOf]⟩
          · obtain rfl : r = 2 := by omega
            go_wp2
            go_ret2
            exact ⟨_, _, rfl, HF.out.1, HF.out.2⟩
      · obtain ⟨Aa, cca, ea, hA⟩ := RowN.form hra
        obtain ⟨ga, rfl, -⟩ := hA (by rw [HN.out]; exact Nat.pos_of_ne_zero h0)
        rw [HN.out] at ea
        subst ea
        obtain ⟨Ab, ccb, eb, hB⟩ := RowN.form hrb
        obtain ⟨gb, rfl, -⟩ := hB (by rw [HM.out]; exact Nat.pos_of_ne_zero h0)
        rw [HM.out] at eb
        subst eb
        have HPT := Lib.hid (show PT W.heap.size W n ga cca gb ccb o3 wc (fA1 L 0) (fun j => M.getD j 0) from by
          refine ⟨⟨?_, ?_, ?_, HBX.out⟩, HTAB.out, ?_, ?_⟩
          · rw [mkF_row _ (fun j _ => fA1_me L j) HN.out]; exact HRA.out
          · rw [mkF_row _ (fun j _ => rfl) HM.out]; exact HRB.out
          · intro e; subst e; rcases hne with h | h
            · cases h
            · exact h rfl
          · intro e; exact hoa (by simp [Value.ownBlock, e])
          · intro e; exact hob (by simp [Value.ownBlock, e]))
        have HSL := Lib.hid (slideHoleI W.heap.size W n ga cca gb ccb o3 L M wc (Nat.pos_of_ne_zero h0) hn8 HPT.out)
        have hstn : stI L M n < n := stF_lt n 0 (Nat.pos_of_ne_zero h0)
        have HBDA := Lib.hid (fA2_bd (i := stI L M n) HBL.out HBM.out hstn)
        have HBDB := Lib.hid (fB2_bd (i := stI L M n) HBM.out hn8)
        have hn1 : (n : Int) - 1 = ((n - 1 : Nat) : Int) := by omega
        have hn2 : ((n - 1 : Nat) : Int) < (n : Int) := by omega
        have hn0 : (0 : Int) < (n : Int) := by omega
        clear hra hrb htab hbx hA hB hne hoa hob HRA HRB HTAB HPT
        go_wp2_with fail
        (with_reducible refine HSL.out.mono ?_)
        rintro e w5 ⟨rfl, hp5⟩
        have HP5 := Lib.hid hp5
        obtain ⟨hu0, hu1⟩ := hp5.t0
        have hb5 := hp5.1.b (j := n - 1) (by omega)
        have hb51 := hb5.1
        have hb52 := hb5.2
        have HP6 := Lib.hid ((hp5.setB (n - 1) (2 * (n : Int) + 1) (dcF 0 (fB2 M n (stI L M n))) (fun j _ => by rw [dc_zero]; rfl)).of (fun j _ => dc_zero (fA2 L M (stI L M n)) j) (fun j _ => rfl))
        clear hp5 hb5
        generalize fB1 M (stI L M n) (n - 1) (n - 1) = zz at *
        go_wp2
        go_loopw [40] (fun y wr => ∃ r : Nat, r ≤ 2 ∧ y = .int .i64 r ∧ PT W.heap.size W n ga cca gb ccb o3 wr (dcF (if r = 0 then 0 else n) (fA2 L M (stI L M n))) (dcF (if r ≤ 1 then 0 else n) (fB2 M n (stI L M n)))) (fun y _ => 2 - (intOf y).toNat)
        case atStart => exact ⟨0, Nat.zero_le _, rfl, HP6.out⟩
        case round =>
          obtain ⟨r, hr1, rfl, hp⟩ := hrel
          have HQ := Lib.hid hp
          obtain ⟨hq0, hq1⟩ := hp.t0
          clear hp HP5 HP6 hu0 hu1 hb51 hb52
          by_cases hr2 : r < 2
          · rcases (show r = 0 ∨ r = 1 by omega) with rfl | rfl
            · have HS := Lib.hid (show PT W.heap.size W n ga cca gb ccb o3 wr (dcF 0 (fA2 L M (stI L M n))) (dcF 0 (fB2 M n (stI L M n))) from HQ.out)
              clear HQ
              go_wp2
              go_loopw [46] (fun y wr => ∃ c : Nat, c ≤ n ∧ y = .int .i64 c ∧ PT W.heap.size W n ga cca gb ccb o3 wr (dcF c (fA2 L M (stI L M n))) (dcF 0 (fB2 M n (stI L M n)))) (fun y _ => n - (intOf y).toNat)
              case atStart => exact ⟨0, Nat.zero_le _, rfl, HS.out⟩
              case round =>
                obtain ⟨c, hc1, rfl, hp⟩ := hrel
                have HR := Lib.hid hp
                clear hp HS
                by_cases hcn : c < n
                · have hci : (c : Int) < (n : Int) := by omega
                  have hac := HR.out.1.a (j := c) hcn
                  have hac1 := hac.1
                  have hac2 := hac.2
                  have HA1 := Lib.hid (stepD c (fA2 L M (stI L M n)) _ rfl)
                  have hba := HBDA.out c hcn
                  rw [show dcF c (fA2 L M (stI L M n)) c = fA2 L M (stI L M n) c from if_neg (Nat.lt_irrefl _)] at hac1
                  have HS1 := Lib.hid (HR.out.setA c (fA2 L M (stI L M n) c - 1) (dcF (c + 1) (fA2 L M (stI L M n))) (fun j _ => HA1.out j))
                  clear hac
                  generalize fA2 L M (stI L M n) c = xa at *
                  go_wp2
                  exact ⟨⟨c + 1, by omega, by simp, HS1.out⟩, by simp [intOf]; omega⟩
                · obtain rfl : c = n := by omega
                  have hci : ¬ (c : Int) < (c : Int) := by omega
                  go_wp2
                  exact ⟨⟨1, by omega, by simp, HR.out⟩, by simp [intOf]⟩
            · have HS := Lib.hid (show PT W.heap.size W n ga cca gb ccb o3 wr (dcF n (fA2 L M (stI L M n))) (dcF 0 (fB2 M n (stI L M n))) from HQ.out)
              clear HQ
              go_wp2
              go_loopw [46] (fun y wr => ∃ c : Nat, c ≤ n ∧ y = .int .i64 c ∧ PT W.heap.size W n ga cca gb ccb o3 wr (dcF n (fA2 L M (stI L M n))) (dcF c (fB2 M n (stI L M n)))) (fun y _ => n - (intOf y).toNat)
              case atStart => exact ⟨0, Nat.zero_le _, rfl, HS.out⟩
              case round =>
                obtain ⟨c, hc1, rfl, hp⟩ := hrel
                have HR := Lib.hid hp
                clear hp HS
                by_cases hcn : c < n
                · have hci : (c : Int) < (n : Int) := by omega
                  have hac := HR.out.1.b (j := c) hcn
                  have hac1 := hac.1
                  have hac2 := hac.2
                  have HA1 := Lib.hid (stepD c (fB2 M n (stI L M n)) _ rfl)
                  have hba := HBDB.out c hcn
                  rw [show dcF c (fB2 M n (stI L M n)) c = fB2 M n (stI L M n) c from if_neg (Nat.lt_irrefl _)] at hac1
                  have HS1 := Lib.hid (HR.out.setB c (fB2 M n (stI L M n) c - 1) (dcF (c + 1) (fB2 M n (stI L M n))) (fun j _ => HA1.out j))
                  clear hac
                  generalize fB2 M n (stI L M n) c = xa at *
                  go_wp2
                  exact ⟨⟨c + 1, by omega, by simp, HS1.out⟩, by simp [intOf]; omega⟩
                · obtain rfl : c = n := by omega
                  have hci : ¬ (c : Int) < (c : Int) := by omega
                  go_wp2
                  exact ⟨⟨2, by omega, by simp, HR.out⟩, by simp [intOf]⟩
          · obtain rfl : r = 2 := by omega
            have HF := Lib.hid (show PT W.heap.size W n ga cca gb ccb o3 wr (dcF n (fA2 L M (stI L M n))) (dcF n (fB2 M n (stI L M n))) from HQ.out)
            go_wp2
            go_ret2
            exact ⟨_, _, rfl, by rw [HE.out]; exact HF.out.tb.down hzW, HBW.out.trans (HF.out.1.2.2.2.mono hzW)⟩

end Go.Proofs.Ytefbbkogfoongaa
