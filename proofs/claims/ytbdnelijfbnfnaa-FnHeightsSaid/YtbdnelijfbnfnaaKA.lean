/- Merged by program out of: Ints DrawA DrawB Strs DrawC DrawS Plain2 Spec2A Spec2B DrawP Impl2A Spec2C. -/
import Derived.Test.YtbdnelijfbnfnaaRows
import Derived.WalkKit
import Derived.ProofKit
import Derived.OpenShut
import Derived.ShutString
import Derived.IntWalk
import Derived.Lib.Hide
import Derived.Deep.DeepMust
import Derived.Deep.QuietTactic
import Derived.BigQuiet
import Derived.OwnWalk
import Derived.Below
import Derived.WalkSmall
import Derived.Laws.BytesArg
import Derived.Outline
import Derived.Deep.AppendLies
import Derived.Deep.RegionLaw
import Derived.BigRegion
import Derived.PlainAid
import Derived.Lib.OthersKept
section
namespace Go.Proofs.Ytbdnelijfbnfnaa
open Go.ChangeShapes Go.WideShapes Go.ChangeAt Go.RowKit
set_option linter.unusedVariables false

theorem info3 : (Try.prog.info? 3).map (fun i => (i.zero, i.size, i.bytes)) = some (some (.int .i64 0), 1, 8) := by kernel_rfl
theorem cell_one (w : World) (x : Value) (t : TypeId) : (w.alloc (.cells #[x] t)).cell? ⟨w.heap.size, 0, none⟩ = some x := by
  rw [World.cell?_alloc_at _ _ _ _ rfl]; rfl
theorem base_up {B : Nat} {wr : World} {o : Obj} (hb : B ≤ wr.heap.size) : B ≤ (wr.alloc o).heap.size := by simp; omega

/-- One int appended to a row of ints that the call owns. -/
theorem wpAppInt {w : World} {ops : Array Oper} {rest : List Oper} {o : Oper} {a : Act} {Q : Exit → Act → World → Prop} (hgd : o.guard = none) (s x : Operand)
    (ho : o.op = .call { callee := .builtin .append, args := #[s, x], argTypes := #[37, 37] })
    (base : Nat) (v : Value) (n : Nat) (xs : List Int) (hs : a.eval s = v) (hown : w.ownsRow base 3 1 v n (xs.map (Value.int .i64)))
    (b : Nat) (c : Nat) (y : Int) (hx : a.eval x = .slice (some ⟨b, 0, none⟩) 1 c) (hcell : w.cell? ⟨b, 0, none⟩ = some (.int .i64 y))
    (hn : n ≤ 1099511627776) (hbase : base ≤ w.heap.size)
    (h : ∀ v' w', w'.ownsRow base 3 1 v' (n + 1) ((xs ++ [y]).map (Value.int .i64)) → w.grownBy w' v.ownBlock → wpList Try.prog ops Q rest (a.put o.dst v') w') : wpList Try.prog ops Q (o :: rest) a w := by
  obtain ⟨i0, hi, hz0, hz1, hz2⟩ := info_parts info3
  refine wpList_append_own _ hgd s x 37 ho base 3 i0 (.int .i64 0) 1 8 Try.underlying37 hi hz0 hz1 hz2 rfl (by decide) v n _ hs hown ⟨b, 0, none⟩ 1 c [.int .i64 y] hx rfl ?_ ?_ (by unfold maxLen; omega) (by omega) hbase ?_
  · intro j u hj
    match j, hj with
    | 0, hj => simp at hj; subst hj; simpa [Addr.add] using hcell
  · intro u hu; simp at hu; subst hu; rfl
  · intro v' w' h1 h2 _
    exact h v' w' (by simpa using h1) h2

/-- v is a slice of the ints xs; its cells lie in a block from lo up to hi (where it has any), and nobody has frozen them. -/
def OwnI (w : World) (lo hi : Nat) (v : Value) (xs : List Int) : Prop :=
  ∃ A cap, v = .slice A xs.length cap ∧ (xs = [] ∨ ∃ g C, lo ≤ g ∧ g < hi ∧ A = some ⟨g, 0, none⟩ ∧ w.heap[g]? = some (.cells C 3 (0, 0)) ∧ ∀ j, j < xs.length → C[j]? = some (.int .i64 (xs.getD j 0)))
theorem OwnI.of_row {w : World} {base : Nat} {v : Value} {n : Nat} {xs : List Int} (h : w.ownsRow base 3 1 v n (xs.map (Value.int .i64))) : OwnI w base w.heap.size v xs := by
  have hl : xs.length = n := by have := h.1; simpa using this
  rcases h.2 with ⟨rfl, rfl⟩ | ⟨g, cap, cur, rfl, hb, hh, hnc, hcm, hcur, htake⟩
  · exact ⟨none, 0, by rw [hl], .inl (List.eq_nil_of_length_eq_zero hl)⟩
  · refine ⟨some ⟨g, 0, none⟩, cap, by rw [hl], .inr ⟨g, cur, hb, (h.lt g rfl).2, rfl, hh, fun j hj => ?_⟩⟩
    have e : cur.toList[j]? = (cur.toList.take (n * 1))[j]? := by rw [List.getElem?_take, if_pos (by omega)]
    rw [← Array.getElem?_toList, e, htake, List.getElem?_map]
    simp [List.getD, show j < xs.length from hj]
theorem OwnI.keep {w w' : World} {lo hi B : Nat} {v : Value} {xs : List Int} (h : OwnI w lo hi v xs) (hb : Below B w w') (hB : hi ≤ B) : OwnI w' lo hi v xs := by
  obtain ⟨A, cap, e, h⟩ := h
  refine ⟨A, cap, e, ?_⟩
  rcases h with h | ⟨g, C, h1, h2, h3, h4, h5⟩
  · exact .inl h
  · exact .inr ⟨g, C, h1, h2, h3, (hb.block g (by omega)).trans h4, h5⟩
theorem OwnI.wide {w : World} {lo hi lo' hi' : Nat} {v : Value} {xs : List Int} (h : OwnI w lo hi v xs) (h1 : lo' ≤ lo) (h2 : hi ≤ hi') : OwnI w lo' hi' v xs := by
  obtain ⟨A, cap, e, h⟩ := h
  refine ⟨A, cap, e, ?_⟩
  rcases h with h | ⟨g, C, a1, a2, a3, a4, a5⟩
  · exact .inl h
  · exact .inr ⟨g, C, by omega, by omega, a3, a4, a5⟩
/-- The slice's form and the cell at place j. -/
theorem OwnI.cell {w : World} {lo hi : Nat} {v : Value} {xs : List Int} (h : OwnI w lo hi v xs) {j : Nat} (hj : j < xs.length) :
    ∃ g cap, v = .slice (some ⟨g, 0, none⟩) xs.length cap ∧ lo ≤ g ∧ g < hi ∧ w.cell? ⟨g, j, none⟩ = some (.int .i64 (xs.getD j 0)) ∧ w.frozen? ⟨g, j, none⟩ = false := by
  obtain ⟨A, cap, rfl, h⟩ := h
  rcases h with rfl | ⟨g, C, h1, h2, rfl, h4, h5⟩
  · simp at hj
  · refine ⟨g, cap, rfl, h1, h2, ?_, by simp [World.frozen?, h4]⟩
    rw [cell_of_row w g j C 3 (0, 0) h4]
    exact h5 j hj

/-- n marks from k on. -/
def marks (k : Int) (n : Nat) : List Int := (List.range n).map fun (i : Nat) => k + (i : Int)
theorem marks_len (k : Int) (n : Nat) : (marks k n).length = n := by simp [marks]
theorem marks_at (k : Int) (n j : Nat) (h : j < n) : (marks k n).getD j 0 = k + j := by simp [marks, List.getD, h]
/-- The row when the first j places have been marked. -/
def mkL (k : Int) (j : Nat) (xs : List Int) : List Int := (List.range xs.length).map fun (i : Nat) => if i < j then k + (i : Int) else xs.getD i 0
theorem mkL_len (k : Int) (j : Nat) (xs : List Int) : (mkL k j xs).length = xs.length := by simp [mkL]
theorem mkL_at (k : Int) (j i : Nat) (xs : List Int) (h : i < xs.length) : (mkL k j xs).getD i 0 = if i < j then k + (i : Int) else xs.getD i 0 := by simp [mkL, List.getD, h]
theorem mkL_zero (k : Int) (xs : List Int) : mkL k 0 xs = xs := by
  apply List.ext_getElem
  · rw [mkL_len]
  · intro i h1 h2
    simp [mkL, List.getD, h2]
theorem mkL_all (k : Int) (xs : List Int) : mkL k xs.length xs = marks k xs.length := by
  unfold mkL marks
  refine List.map_congr_left fun i hi => ?_
  rw [if_pos (by simpa using hi)]
theorem OwnI.set {w : World} {lo hi g cap : Nat} {n : Nat} {xs ys : List Int} (h : OwnI w lo hi (.slice (some ⟨g, 0, none⟩) n cap) xs) {j : Nat} {y : Int} (hj : j < xs.length)
    (hl : ys.length = xs.length) (hy : ys.getD j 0 = y) (ho : ∀ i, i < xs.length → i ≠ j → ys.getD i 0 = xs.getD i 0) : OwnI (w.setCell ⟨g, j, none⟩ (.int .i64 y)) lo hi (.slice (some ⟨g, 0, none⟩) n cap) ys := by
  obtain ⟨A, cap', e, h⟩ := h
  simp only [Value.slice.injEq] at e
  obtain ⟨rfl, rfl, rfl⟩ := e
  refine ⟨_, _, by rw [hl], .inr ?_⟩
  rcases h with rfl | ⟨g', C, h1, h2, h3, h4, h5⟩
  · simp at hj
  · obtain rfl : g = g' := by simpa using h3
    refine ⟨g, C.setIfInBounds j (.int .i64 y), h1, h2, rfl, by simp [World.setCell, Array.getElem?_modify, h4], fun i hi => ?_⟩
    rw [hl] at hi
    by_cases e : i = j
    · subst e
      have hC : i < C.size := by
        have := h5 i hi
        rcases Nat.lt_or_ge i C.size with h | h
        · exact h
        · rw [Array.getElem?_eq_none h] at this; cases this
      rw [Array.getElem?_setIfInBounds_self_of_lt hC, hy]
    · rw [Array.getElem?_setIfInBounds_ne (by omega), h5 i hi, ho i hi e]
theorem OwnI.nil_form {w : World} {lo hi : Nat} {v : Value} {xs : List Int} (h : OwnI w lo hi v xs) : ∃ A cap, v = .slice A xs.length cap ∧ ∀ g', A = some g' → ∀ j, j < xs.length → g'.off = 0 ∧ g'.spot = none ∧ lo ≤ g'.block := by
  obtain ⟨A, cap, rfl, h⟩ := h
  refine ⟨A, cap, rfl, ?_⟩
  rintro g' rfl j hj
  rcases h with rfl | ⟨g, C, h1, h2, h3, h4, h5⟩
  · simp at hj
  · obtain rfl : g' = ⟨g, 0, none⟩ := by simpa using h3
    exact ⟨rfl, rfl, h1⟩

end Go.Proofs.Ytbdnelijfbnfnaa
end

section
namespace Go.Proofs.Ytbdnelijfbnfnaa
open Go.ChangeShapes Go.WideShapes Go.ChangeAt Go.RowKit
set_option linter.unusedVariables false

theorem cell_new1 (w : World) (x : Value) (t : TypeId) : (w.alloc (.cells #[x] t)).cell? ⟨w.heap.size, 0, none⟩ = some x := by
  rw [World.cell?_alloc_at _ _ _ _ rfl]; rfl
theorem and_bd (x m : Int) (h0 : 0 ≤ m) (h1 : m ≤ 9223372036854775807) : 0 ≤ bits .and .i64 x m ∧ bits .and .i64 x m ≤ m := by
  obtain ⟨n, rfl⟩ := Int.eq_ofNat_of_zero_le h0
  have hb : ((BitVec.ofInt 64 x &&& BitVec.ofInt 64 (n : Int)).toNat) ≤ n := by
    rw [BitVec.toNat_and]
    refine Nat.le_trans (Nat.and_le_right) ?_
    rw [BitVec.ofInt_natCast, BitVec.toNat_ofNat]
    exact Nat.mod_le _ _
  have e : bits .and .i64 x (n : Int) = IntKind.i64.wrap (((BitVec.ofInt 64 x &&& BitVec.ofInt 64 (n : Int)).toNat : Nat) : Int) := rfl
  rw [e, IntWalk.i64_in _ (by omega)]
  omega

/-- The bytes of the code: the first n of them lie behind one address, in a block below K. -/
def Code (w : World) (K : Nat) (A : Option Addr) (n : Nat) : Prop :=
  n ≤ 1048576 ∧ ∀ j, j < n → ∃ b off z, A = some ⟨b, off, none⟩ ∧ b < K ∧ w.cell? ⟨b, off + j, none⟩ = some (.int .u8 z) ∧ 0 ≤ z ∧ z ≤ 255
theorem Code.keep {w w' : World} {K : Nat} {A : Option Addr} {n : Nat} (h : Code w K A n) (hk : ∀ b, b < K → w'.heap[b]? = w.heap[b]?) : Code w' K A n :=
  ⟨h.1, fun j hj => by
    obtain ⟨b, off, z, h1, h2, h3, h4⟩ := h.2 j hj
    exact ⟨b, off, z, h1, h2, (World.cell?_of_block (hk b h2)).trans h3, h4⟩⟩
/-- Block B is a cursor over the code, at place i. -/
def Cur (w : World) (B : Nat) (A : Option Addr) (n cap : Nat) : Prop :=
  ∃ (i : Nat) (h : Int), i ≤ n ∧ w.heap[B]? = some (.cells #[.slice A n cap, .int .i64 i, .int .i64 h] 75 (0, 0))
theorem Cur.keep {w w' : World} {B : Nat} {A : Option Addr} {n cap : Nat} (h : Cur w B A n cap) (hk : w'.heap[B]? = w.heap[B]?) : Cur w' B A n cap := by
  obtain ⟨i, x, h1, h2⟩ := h
  exact ⟨i, x, h1, hk.trans h2⟩

/-- What a drawing function answers: a number with P; the cursor's block alone has changed. -/
def Drew (P : Int → Prop) (B : Nat) (A : Option Addr) (n cap : Nat) (w : World) (e : Ending) (w' : World) : Prop :=
  ∃ y : Int, P y ∧ e = .returned (.int .i64 y) ∧ Cur w' B A n cap ∧ w.grownBy w' (some B)

theorem blk_cell {w : World} {B : Nat} {cs : Array Value} {t : TypeId} (h : w.heap[B]? = some (.cells cs t (0, 0))) (j : Nat) : w.cell? ⟨B, j, none⟩ = cs[j]? := cell_of_row w B j cs t (0, 0) h
theorem blk_free {w : World} {B : Nat} {cs : Array Value} {t : TypeId} (h : w.heap[B]? = some (.cells cs t (0, 0))) (j : Nat) : w.frozen? ⟨B, j, none⟩ = false := by simp [World.frozen?, h]

theorem set_blk {w : World} {B : Nat} {cs : Array Value} {t : TypeId} (h : w.heap[B]? = some (.cells cs t (0, 0))) (j : Nat) (v : Value) :
    (w.setCell ⟨B, j, none⟩ v).heap[B]? = some (.cells (cs.setIfInBounds j v) t (0, 0)) := by simp [World.setCell, Array.getElem?_modify, h]
theorem set_grown (w : World) (B j : Nat) (v : Value) : w.grownBy (w.setCell ⟨B, j, none⟩ v) (some B) :=
  ⟨rfl, rfl, rfl, by simp [World.setCell], fun k hk hne => Below.heap_setCell w ⟨B, j, none⟩ v k (fun e => hne (by rw [show k = B from e]))⟩
theorem grown_trans {a b c : World} {B : Nat} (h : a.grownBy b (some B)) (k : b.grownBy c (some B)) : a.grownBy c (some B) :=
  ⟨k.os.trans h.os, k.tape.trans h.tape, k.output.trans h.output, Nat.le_trans h.size k.size, fun i hi hne => (k.block i (Nat.lt_of_lt_of_le hi h.size) hne).trans (h.block i hi hne)⟩
theorem grown_drewN {a b : World} {r : Option Nat} (h : a.grownBy b r) (n : Nat) : a.grownBy (b.drewN n) r := ⟨h.os, h.tape, h.output, h.size, h.block⟩
theorem Cur.lt {w : World} {B : Nat} {A : Option Addr} {n cap : Nat} (h : Cur w B A n cap) : B < w.heap.size := by
  obtain ⟨i, x, h1, h2⟩ := h
  rcases Nat.lt_or_ge B w.heap.size with hlt | hge
  · exact hlt
  · rw [Array.getElem?_eq_none hge] at h2; cases h2

set_option maxRecDepth 100000 in
set_option maxHeartbeats 1600000 in
theorem byte_any (B K : Nat) (A : Option Addr) (n cap : Nat) (w : World) (hc : Code w K A n) (hK : K ≤ B) (hcur : Cur w B A n cap) :
    Calls Try.prog 59 #[.pointer (some ⟨B, 0, none⟩)] w (Drew (fun y => 0 ≤ y ∧ y ≤ 255) B A n cap w) := by
  have hBlt := hcur.lt
  obtain ⟨i, h, hi, hB⟩ := hcur
  have c0 : w.cell? ⟨B, 0, none⟩ = some (.slice A n cap) := blk_cell hB 0
  have c1 : w.cell? ⟨B, 1, none⟩ = some (.int .i64 i) := blk_cell hB 1
  have c2 : w.cell? ⟨B, 2, none⟩ = some (.int .i64 h) := blk_cell hB 2
  have f1 : w.frozen? ⟨B, 1, none⟩ = false := blk_free hB 1
  have f2 : w.frozen? ⟨B, 2, none⟩ = false := blk_free hB 2
  have hn := hc.1
  by_cases hlt : i < n
  · obtain ⟨b, off, z, rfl, hb, hz, z0, z255⟩ := hc.2 i hlt
    have HB := Lib.hid hB
    have HZ := Lib.hid hz
    have HC := Lib.hid hc
    clear hB hz hc
    go_enter Try.func59, Try.ntmps59
    go_wp2
    clear c0 c1 c2 f1 f2
    generalize wrap64 (wrap64 (h * 6364136223846793005) + 1442695040888963407) = h1
    have hg1 := set_grown w B 2 (.int .i64 h1)
    have hB1 := set_blk HB.out 2 (.int .i64 h1)
    generalize w.setCell ⟨B, 2, none⟩ (.int .i64 h1) = w1 at hg1 hB1 ⊢
    have c0 : w1.cell? ⟨B, 0, none⟩ = some (.slice (some ⟨b, off, none⟩) n cap) := blk_cell hB1 0
    have c1 : w1.cell? ⟨B, 1, none⟩ = some (.int .i64 i) := blk_cell hB1 1
    have c2 : w1.cell? ⟨B, 2, none⟩ = some (.int .i64 h1) := blk_cell hB1 2
    have f1 : w1.frozen? ⟨B, 1, none⟩ = false := blk_free hB1 1
    have hz : w1.cell? ⟨b, off + i, none⟩ = some (.int .u8 z) := (World.cell?_of_block (hg1.block b (by omega) (by simp; omega))).trans HZ.out
    have HB1 := Lib.hid hB1
    have HG1 := Lib.hid hg1
    clear hB1 hg1
    have hii : (i : Int) < (n : Int) := by omega
    go_quiet (fail)
    go_wp2
    go_quiet (fail)
    go_wp2
    go_quiet (fail)
    go_wp2
    go_ret
    have hB2 := set_blk HB1.out 1 (.int .i64 ((i : Int) + 1))
    have hg2 := grown_trans HG1.out (set_grown w1 B 1 (.int .i64 ((i : Int) + 1)))
    exact ⟨_, and_bd _ 255 (by omega) (by omega), rfl, ⟨i + 1, h1, hlt, hB2⟩, ⟨hg2.os, hg2.tape, hg2.output, hg2.size, hg2.block⟩⟩
  · have HB := Lib.hid hB
    have HC := Lib.hid hc
    clear hB hc
    go_enter Try.func59, Try.ntmps59
    go_wp2
    clear c0 c1 c2 f1 f2
    generalize wrap64 (wrap64 (h * 6364136223846793005) + 1442695040888963407) = h1
    have hg1 := set_grown w B 2 (.int .i64 h1)
    have hB1 := set_blk HB.out 2 (.int .i64 h1)
    generalize w.setCell ⟨B, 2, none⟩ (.int .i64 h1) = w1 at hg1 hB1 ⊢
    have c0 : w1.cell? ⟨B, 0, none⟩ = some (.slice A n cap) := blk_cell hB1 0
    have c1 : w1.cell? ⟨B, 1, none⟩ = some (.int .i64 i) := blk_cell hB1 1
    have c2 : w1.cell? ⟨B, 2, none⟩ = some (.int .i64 h1) := blk_cell hB1 2
    have HB1 := Lib.hid hB1
    have HG1 := Lib.hid hg1
    clear hB1 hg1
    have hii : (n : Int) ≤ (i : Int) := by omega
    go_quiet (fail)
    go_wp2
    go_quiet (fail)
    go_wp2
    go_ret
    have hg2 := HG1.out
    exact ⟨_, and_bd _ 255 (by omega) (by omega), rfl, ⟨i, h1, hi, by simpa using HB1.out⟩, ⟨hg2.os, hg2.tape, hg2.output, hg2.size, hg2.block⟩⟩

theorem tmod_bd (x m : Int) (hx : 0 ≤ x) (hm : 0 < m) : 0 ≤ x.tmod m ∧ x.tmod m < m := by
  rw [IntWalk.rem_in _ _ hx]
  exact ⟨Int.emod_nonneg _ (by omega), Int.emod_lt_of_pos _ hm⟩

set_option maxRecDepth 100000 in
set_option maxHeartbeats 1600000 in
theorem below_small (B K : Nat) (A : Option Addr) (n cap : Nat) (m : Int) (w : World) (hc : Code w K A n) (hK : K ≤ B) (hcur : Cur w B A n cap) (hm0 : 0 < m) (hm : m ≤ 256) :
    Calls Try.prog 39 #[.pointer (some ⟨B, 0, none⟩), .int .i64 m] w (Drew (fun y => 0 ≤ y ∧ y < m) B A n cap w) := by
  have HC := Lib.hid hc
  have HU := Lib.hid hcur
  have e0 : (m == 0) = false := by simp; omega
  clear hc hcur
  go_enter Try.func39, Try.ntmps39
  go_wp2_with fail
  (with_reducible refine (byte_any B K A n cap _ HC.out hK HU.out).mono ?_)
  rintro e w1 ⟨y, hy, rfl, hcur, hg⟩
  have HU1 := Lib.hid hcur
  have HG := Lib.hid hg
  obtain ⟨y0, y255⟩ := hy
  obtain ⟨z, hz, HZ⟩ : ∃ z, y.tmod m = z ∧ Hid (y.tmod m = z) := ⟨_, rfl, rfl⟩
  have hz2 : y % m = z := by rw [← hz, IntWalk.rem_in _ _ y0]
  clear hcur hg
  go_wp2
  go_ret
  exact ⟨z, by rw [← HZ.out]; exact tmod_bd y m y0 hm0, rfl, HU1.out, HG.out⟩

set_option maxRecDepth 100000 in
set_option maxHeartbeats 1600000 in
theorem below_big (B K : Nat) (A : Option Addr) (n cap : Nat) (m : Int) (w : World) (hc : Code w K A n) (hK : K ≤ B) (hcur : Cur w B A n cap) (hm : 256 < m) (hmm : m ≤ 1000000000000) :
    Calls Try.prog 39 #[.pointer (some ⟨B, 0, none⟩), .int .i64 m] w (Drew (fun y => 0 ≤ y ∧ y < m) B A n cap w) := by
  have HC := Lib.hid hc
  have HU := Lib.hid hcur
  have e0 : (m == 0) = false := by simp; omega
  clear hc hcur
  go_enter Try.func39, Try.ntmps39
  go_wp2_with fail
  (with_reducible refine (byte_any B K A n cap _ HC.out hK HU.out).mono ?_)
  rintro e w1 ⟨y1, hy, rfl, hcur, hg⟩
  have HU1 := Lib.hid hcur
  have HG1 := Lib.hid hg
  have HC1 := Lib.hid (HC.out.keep (fun b hb => hg.block b (by have := HU.out.lt; omega) (by simp; omega)))
  obtain ⟨a0, a255⟩ := hy
  clear hcur hg
  go_wp2_with fail
  (with_reducible refine (byte_any B K A n cap _ HC1.out hK HU1.out).mono ?_)
  rintro e w2 ⟨y2, hy, rfl, hcur, hg⟩
  have HU2 := Lib.hid hcur
  have HG2 := Lib.hid (grown_trans HG1.out hg)
  have HC2 := Lib.hid (HC1.out.keep (fun b hb => hg.block b (by have := HU1.out.lt; omega) (by simp; omega)))
  obtain ⟨b0, b255⟩ := hy
  clear hcur hg
  go_wp2_with fail
  (with_reducible refine (byte_any B K A n cap _ HC2.out hK HU2.out).mono ?_)
  rintro e w3 ⟨y3, hy, rfl, hcur, hg⟩
  have HU3 := Lib.hid hcur
  have HG3 := Lib.hid (grown_trans HG2.out hg)
  have HC3 := Lib.hid (HC2.out.keep (fun b hb => hg.block b (by have := HU2.out.lt; omega) (by simp; omega)))
  obtain ⟨c0, c255⟩ := hy
  clear hcur hg
  go_wp2_with fail
  (with_reducible refine (byte_any B K A n cap _ HC3.out hK HU3.out).mono ?_)
  rintro e w4 ⟨y4, hy, rfl, hcur, hg⟩
  have HU4 := Lib.hid hcur
  have HG4 := Lib.hid (grown_trans HG3.out hg)
  obtain ⟨d0, d255⟩ := hy
  clear hcur hg
  obtain ⟨z, hz, HZ⟩ : ∃ z, (y1 * 16777216 + y2 * 65536 + y3 * 256 + y4).tmod m = z ∧ Hid ((y1 * 16777216 + y2 * 65536 + y3 * 256 + y4).tmod m = z) := ⟨_, rfl, rfl⟩
  have hz2 : (y1 * 16777216 + y2 * 65536 + y3 * 256 + y4) % m = z := by rw [← hz, IntWalk.rem_in _ _ (by omega)]
  go_wp2
  go_ret
  exact ⟨z, by rw [← HZ.out]; exact tmod_bd _ m (by omega) (by omega), rfl, HU4.out, HG4.out⟩

theorem below_any (B K : Nat) (A : Option Addr) (n cap : Nat) (m : Int) (w : World) (hc : Code w K A n) (hK : K ≤ B) (hcur : Cur w B A n cap) (hm0 : 0 < m) (hmm : m ≤ 1000000000000) :
    Calls Try.prog 39 #[.pointer (some ⟨B, 0, none⟩), .int .i64 m] w (Drew (fun y => 0 ≤ y ∧ y < m) B A n cap w) := by
  by_cases h : m ≤ 256
  · exact below_small B K A n cap m w hc hK hcur hm0 h
  · exact below_big B K A n cap m w hc hK hcur (by omega) hmm

/-- Where the function hands a string back: at most m bytes. -/
def DrewText (m : Nat) (B : Nat) (A : Option Addr) (n cap : Nat) (w : World) (e : Ending) (w' : World) : Prop :=
  ∃ s : ByteArray, s.size ≤ m ∧ e = .returned (.string s) ∧ Below w.heap.size w w' 
/-- A cursor that the call has just made. -/
def Made (A : Option Addr) (n cap : Nat) (w : World) (e : Ending) (w' : World) : Prop :=
  ∃ B, w.heap.size ≤ B ∧ e = .returned (.pointer (some ⟨B, 0, none⟩)) ∧ Cur w' B A n cap ∧ Below w.heap.size w w'

set_option maxRecDepth 100000 in
set_option maxHeartbeats 1600000 in
theorem new_any (A : Option Addr) (n cap : Nat) (w : World) (hc : Code w w.heap.size A n) :
    Calls Try.prog 36 #[.slice A n cap] w (Made A n cap w) := by
  have hn := hc.1
  have HC := Lib.hid hc
  clear hc
  go_enter Try.func36, Try.ntmps36
  go_wp2
  go_loop [3, 4] (fun x i => ∃ (k : Nat) (h : Int), k ≤ n ∧ i = .int .i64 k ∧ x = .int .i64 h) (fun _ i => n - (intOf i).toNat)
  case atStart => exact ⟨0, _, Nat.zero_le _, rfl, rfl⟩
  case round =>
    obtain ⟨k, h, hk, rfl, rfl⟩ := hrel
    by_cases hlt : k < n ∧ k < 4000
    · obtain ⟨h1, h2⟩ := hlt
      obtain ⟨b, off, z, rfl, hb, hz, z0, z255⟩ := HC.out.2 k h1
      go_wp2
      refine ⟨⟨k + 1, _, by omega, by simp, rfl⟩, by simp [intOf]; omega⟩
    · by_cases h1 : k < n
      · have h2 : ¬ k < 4000 := fun e => hlt ⟨h1, e⟩
        clear hlt
        go_wp2
        go_ret
        exact ⟨w.heap.size, Nat.le_refl _, rfl, ⟨0, h, Nat.zero_le _, heap_alloc_new w _⟩, (Below.refl _ _).alloc (Nat.le_refl _) _⟩
      · clear hlt
        go_wp2
        go_ret
        exact ⟨w.heap.size, Nat.le_refl _, rfl, ⟨0, h, Nat.zero_le _, heap_alloc_new w _⟩, (Below.refl _ _).alloc (Nat.le_refl _) _⟩

end Go.Proofs.Ytbdnelijfbnfnaa
end

section
namespace Go.Proofs.Ytbdnelijfbnfnaa
open Go.ChangeShapes Go.WideShapes Go.ChangeAt Go.RowKit
set_option linter.unusedVariables false

theorem info5 : (Try.prog.info? 5).map (fun i => (i.zero, i.size, i.bytes)) = some (some (.int .u8 0), 1, 1) := by kernel_rfl
/-- The string of a row of bytes that the call owns. -/
theorem conv_own {w : World} {base : Nat} {v : Value} {n : Nat} {xs : List Int} (h : w.ownsRow base 5 1 v n (xs.map (Value.int .u8))) :
    (convert 22 9 v).run Try.prog w = .ok (.string (strOfNums xs)) w := by
  have hl : xs.length = n := by have := h.1; simpa using this
  rcases h.2 with ⟨rfl, rfl⟩ | ⟨g, cap, cur, rfl, hb, hh, hnc, hcm, hcur, htake⟩
  · obtain rfl := List.eq_nil_of_length_eq_zero hl
    rw [run_convert_bytes_nil w 22 5 Try.underlying22 Try.underlying5 0 0 9 Try.underlying9]
    rfl
  · refine run_convert_bytes_arg w 22 5 Try.underlying22 Try.underlying5 g 0 n cap xs hl (fun i hi => ?_) 9 Try.underlying9
    have := h.cells (g := g) rfl i (.int .u8 (xs.getD i 0)) (by simp [List.getD, show i < xs.length by omega])
    rw [Addr.add_lit] at this
    simpa using this
/-- One byte appended to a row of bytes that the call owns. -/
theorem wpApp1 {w : World} {ops : Array Oper} {rest : List Oper} {o : Oper} {a : Act} {Q : Exit → Act → World → Prop} (hgd : o.guard = none) (s x : Operand)
    (ho : o.op = .call { callee := .builtin .append, args := #[s, x], argTypes := #[22, 22] })
    (base : Nat) (v : Value) (n : Nat) (xs : List Int) (hs : a.eval s = v) (hown : w.ownsRow base 5 1 v n (xs.map (Value.int .u8)))
    (b : Nat) (c : Nat) (y : Int) (hx : a.eval x = .slice (some ⟨b, 0, none⟩) 1 c) (hcell : w.cell? ⟨b, 0, none⟩ = some (.int .u8 y))
    (hn : n ≤ 140737488351232) (hbase : base ≤ w.heap.size)
    (h : ∀ v' w', w'.ownsRow base 5 1 v' (n + 1) ((xs ++ [y]).map (Value.int .u8)) → w.grownBy w' v.ownBlock → wpList Try.prog ops Q rest (a.put o.dst v') w') : wpList Try.prog ops Q (o :: rest) a w := by
  obtain ⟨i0, hi, hz0, hz1, hz2⟩ := info_parts info5
  refine wpList_append_own _ hgd s x 22 ho base 5 i0 (.int .u8 0) 1 1 Try.underlying22 hi hz0 hz1 hz2 rfl (by decide) v n _ hs hown ⟨b, 0, none⟩ 1 c [.int .u8 y] hx rfl ?_ ?_ (by unfold maxLen; omega) (by omega) hbase ?_
  · intro j u hj
    match j, hj with
    | 0, hj => simp at hj; subst hj; simpa [Addr.add] using hcell
  · intro u hu; simp at hu; subst hu; rfl
  · intro v' w' h1 h2 _
    exact h v' w' (by simpa using h1) h2
theorem base_ok {B : Nat} {wr : World} {o : Obj} (hb : B ≤ wr.heap.size) : B ≤ (wr.alloc o).heap.size := by simp; omega
/-- New rows, and writes into rows of the call's own, leave the frame 'block B alone has changed'. -/
theorem grown_own {a b c : World} {B : Nat} {r : Option Nat} (h : a.grownBy b (some B)) (k : b.grownBy c r) (hr : ∀ g, r = some g → a.heap.size ≤ g) : a.grownBy c (some B) :=
  ⟨k.os.trans h.os, k.tape.trans h.tape, k.output.trans h.output, Nat.le_trans h.size k.size, fun i hi hne => (k.block i (Nat.lt_of_lt_of_le hi h.size) (fun e => by have := hr i e.symm; omega)).trans (h.block i hi hne)⟩
theorem grown_alloc {a b : World} {B : Nat} (h : a.grownBy b (some B)) (o : Obj) : a.grownBy (b.alloc o) (some B) := grown_own h (World.grownBy_alloc b o none) (fun g hg => by cases hg)

def InR (y : Int) : Prop := -9223372036854775808 ≤ y ∧ y ≤ 9223372036854775807

def DrewS (P : ByteArray → Prop) (B : Nat) (A : Option Addr) (n cap : Nat) (w : World) (e : Ending) (w' : World) : Prop :=
  ∃ s : ByteArray, P s ∧ e = .returned (.string s) ∧ Cur w' B A n cap ∧ w.grownBy w' (some B)
set_option maxRecDepth 100000 in
set_option maxHeartbeats 1600000 in
theorem pickS_any (P : ByteArray → Prop) (m : Nat) (B K L : Nat) (A : Option Addr) (n cap : Nat) (w : World) (hc : Code w K A n) (hK : K ≤ B) (hcur : Cur w B A n cap) (hL : L ≠ B) (hLlt : L < w.heap.size) (hm : 0 < m) (hm2 : m ≤ 1000)
    (hl : ∀ j, j < m → ∃ v, w.cell? ⟨L, j, none⟩ = some (.string v) ∧ P v) :
    Calls Try.prog 58 #[.pointer (some ⟨B, 0, none⟩), .slice (some ⟨L, 0, none⟩) m m] w (DrewS P B A n cap w) := by
  have HC := Lib.hid hc
  have HU := Lib.hid hcur
  have HL := Lib.hid hl
  clear hc hcur hl
  go_enter Try.func58, Try.ntmps58
  go_wp2_with fail
  (with_reducible refine (below_any B K A n cap m _ HC.out hK HU.out (by omega) (by omega)).mono ?_)
  rintro e w1 ⟨y, hy, rfl, hcur, hg⟩
  obtain ⟨y0, y17⟩ := hy
  obtain ⟨j, rfl⟩ : ∃ j : Nat, y = j := ⟨y.toNat, by omega⟩
  obtain ⟨v, hv, HV⟩ := HL.out j (by omega)
  have hv1 : w1.cell? ⟨L, j, none⟩ = some (.string v) := (World.cell?_of_block (hg.block L hLlt (by simp; omega))).trans hv
  have HU1 := Lib.hid hcur
  have HG := Lib.hid hg
  have HVV := Lib.hid HV
  clear hcur hg HV hv
  go_wp2
  go_ret
  exact ⟨v, HVV.out, rfl, HU1.out, HG.out⟩
theorem ints_cells (P : Int → Prop) (w : World) (zs : List Int) (h : ∀ z ∈ zs, P z) : ∀ j, j < zs.length → ∃ v, (w.alloc (.cells (zs.map (Value.int .i64)).toArray 3)).cell? ⟨w.heap.size, j, none⟩ = some (.int .i64 v) ∧ P v := by
  intro j hj
  refine ⟨zs[j], ?_, h _ (List.getElem_mem _)⟩
  rw [World.cell?_alloc_at _ _ _ _ rfl]
  simp [hj]
theorem strs_cells (P : ByteArray → Prop) (w : World) (zs : List ByteArray) (h : ∀ z ∈ zs, P z) : ∀ j, j < zs.length → ∃ v, (w.alloc (.cells (zs.map Value.string).toArray 9)).cell? ⟨w.heap.size, j, none⟩ = some (.string v) ∧ P v := by
  intro j hj
  refine ⟨zs[j], ?_, h _ (List.getElem_mem _)⟩
  rw [World.cell?_alloc_at _ _ _ _ rfl]
  simp [hj]

theorem own_far {w : World} {base : Nat} {v : Value} {n : Nat} {xs : List Value} (h : w.ownsRow base 5 1 v n xs) {b : Nat} (hb : b < base) : some b ≠ v.ownBlock := fun e => by
  have := (h.lt b e.symm).1
  omega
/-- Where the function hands a string back: at most m bytes; the cursor's block alone has changed. -/
def DrewStr (m : Nat) (B : Nat) (A : Option Addr) (n cap : Nat) (w : World) (e : Ending) (w' : World) : Prop :=
  ∃ s : ByteArray, s.size ≤ m ∧ e = .returned (.string s) ∧ Cur w' B A n cap ∧ w.grownBy w' (some B)

set_option maxRecDepth 100000 in
set_option maxHeartbeats 3200000 in
theorem text_any (B K : Nat) (A : Option Addr) (n cap : Nat) (m : Nat) (w : World) (hc : Code w K A n) (hK : K ≤ B) (hcur : Cur w B A n cap) (hm : m ≤ 1000000) :
    Calls Try.prog 70 #[.pointer (some ⟨B, 0, none⟩), .int .i64 m] w (DrewStr m B A n cap w) := by
  have HC := Lib.hid hc
  have HU := Lib.hid hcur
  have hBlt := hcur.lt
  clear hc hcur
  go_enter Try.func70, Try.ntmps70
  go_wp2_with fail
  (with_reducible refine (below_any B K A n cap 4 _ (HC.out.keep (fun b hb => Below.heap_alloc w _ b (by omega))) hK (HU.out.keep (Below.heap_alloc w _ B hBlt)) (by omega) (by omega)).mono ?_)
  rintro e w1 ⟨r, hr, rfl, hcur, hg⟩
  have HU1 := Lib.hid hcur
  have HG1 := Lib.hid (grown_trans (grown_alloc (World.grownBy.refl w (some B)) _) hg)
  have HC1 := Lib.hid (HC.out.keep (fun b hb => (hg.block b (by simp; omega) (by simp; omega)).trans (Below.heap_alloc w _ b (by omega))))
  have HO1 := Lib.hid (World.ownsRow.kept (World.ownsRow_made (e := 5) (size := 1) w #[] 0 (Nat.le_refl _) (Nat.zero_le _) (by simp)) hg (.inr (by simp [Value.ownBlock]; omega)))
  obtain ⟨r0, r4⟩ := hr
  clear hcur hg
  go_wp2_with fail
  (with_reducible refine (below_any B K A n cap ((m : Int) + 1) _ HC1.out hK HU1.out (by omega) (by omega)).mono ?_)
  rintro e w2 ⟨t, ht, rfl, hcur, hg⟩
  have HU2 := Lib.hid hcur
  have HG2 := Lib.hid (grown_trans HG1.out hg)
  have HC2 := Lib.hid (HC1.out.keep (fun b hb => hg.block b (by have := HG1.out.size; omega) (by simp; omega)))
  have HO2 := Lib.hid (World.ownsRow.kept HO1.out hg (.inr (by simp [Value.ownBlock]; omega)))
  obtain ⟨t0, tm⟩ := ht
  clear hcur hg
  go_wp2
  go_loopw [5, 7] (fun v x wr => ∃ (k : Nat) (l : List Int), x = .int .i64 k ∧ l.length + k ≤ m ∧ wr.ownsRow w.heap.size 5 1 v l.length (l.map (Value.int .u8)) ∧ Code wr K A n ∧ Cur wr B A n cap ∧ w.grownBy wr (some B))
    (fun _ x _ => (intOf x).toNat)
  case atStart =>
    obtain ⟨k, rfl⟩ : ∃ k : Nat, t = k := ⟨t.toNat, by omega⟩
    exact ⟨k, [], rfl, by simp; omega, HO2.out, HC2.out, HU2.out, HG2.out⟩
  case round =>
    obtain ⟨k, l, rfl, hl, hown, hc, hu, hg0⟩ := hrel
    have HCr := Lib.hid hc
    have HUr := Lib.hid hu
    have HOr := Lib.hid hown
    have HGr := Lib.hid hg0
    have hsz := hg0.size
    clear hc hu hown hg0
    by_cases hk : 0 < k
    · go_wp2_with fail
      (with_reducible refine (byte_any B K A n cap _ HCr.out hK HUr.out).mono ?_)
      rintro e w3 ⟨y, hy, rfl, hcur, hg⟩
      have hown := World.ownsRow.kept HOr.out hg (by
        rcases hv : u5.ownBlock with _ | g
        · exact .inl rfl
        · have := (HOr.out.lt g hv).1
          exact .inr (by simp; omega))
      have HU3 := Lib.hid hcur
      have HG3 := Lib.hid (grown_trans HGr.out hg)
      have HC3 := Lib.hid (HCr.out.keep (fun b hb => hg.block b (by omega) (by simp; omega)))
      have hsz3 := hg.size
      obtain ⟨y0, y255⟩ := hy
      clear hcur hg
      by_cases e1 : r = 1
      · subst e1
        obtain ⟨q, hq, q0, q1⟩ : ∃ q : Int, y % 2 = q ∧ 0 ≤ q ∧ q ≤ 255 := ⟨_, rfl, by omega, by omega⟩
        have hq2 : y.tmod 2 = q := by rw [IntWalk.rem_in _ _ y0]; exact hq
        go_wp2_with (at_builtin; go_must (refine wpApp1 rfl _ _ rfl w.heap.size u5 _ _ rfl (hown.alloc _) w3.heap.size _ _ rfl (cell_new1 _ _ _) (by omega) (base_ok (by omega)) ?_); intro v' w' hown' hg')
        go_roundw
        case rel =>
          refine ⟨k - 1, l ++ [q], by congr 1; omega, ?_, by simpa using hown', HC3.out.keep ?_, HU3.out.keep ?_, grown_own (grown_alloc HG3.out _) hg' (fun g hg => (hown.lt g hg).1)⟩
          · simp only [List.length_append, List.length_cons, List.length_nil]; omega
          · intro b hb
            exact (hg'.block b (by simp; omega) (own_far hown (by omega))).trans (Below.heap_alloc w3 _ b (by omega))
          · exact (hg'.block B (by simp; omega) (own_far hown (by omega))).trans (Below.heap_alloc w3 _ B (by omega))
        case measure => simp [intOf]; omega
      · have b1 : (r == 1) = false := by simp [e1]
        by_cases e2 : r = 2
        · subst e2
          clear e1
          obtain ⟨q, hq, q0, q1⟩ : ∃ q : Int, y % 4 = q ∧ 0 ≤ q ∧ q ≤ 3 := ⟨_, rfl, by omega, by omega⟩
          have hq2 : y.tmod 4 = q := by rw [IntWalk.rem_in _ _ y0]; exact hq
          go_wp2_with (at_builtin; go_must (refine wpApp1 rfl _ _ rfl w.heap.size u5 _ _ rfl (hown.alloc _) w3.heap.size _ _ rfl (cell_new1 _ _ _) (by omega) (base_ok (by omega)) ?_); intro v' w' hown' hg')
          go_roundw
          case rel =>
            refine ⟨k - 1, l ++ [97 + q], by congr 1; omega, ?_, by simpa using hown', HC3.out.keep ?_, HU3.out.keep ?_, grown_own (grown_alloc HG3.out _) hg' (fun g hg => (hown.lt g hg).1)⟩
            · simp only [List.length_append, List.length_cons, List.length_nil]; omega
            · intro b hb
              exact (hg'.block b (by simp; omega) (own_far hown (by omega))).trans (Below.heap_alloc w3 _ b (by omega))
            · exact (hg'.block B (by simp; omega) (own_far hown (by omega))).trans (Below.heap_alloc w3 _ B (by omega))
          case measure => simp [intOf]; omega
        · have b2 : (r == 2) = false := by simp [e2]
          clear e1 e2
          go_wp2_with (at_builtin; go_must (refine wpApp1 rfl _ _ rfl w.heap.size u5 _ _ rfl (hown.alloc _) w3.heap.size _ _ rfl (cell_new1 _ _ _) (by omega) (base_ok (by omega)) ?_); intro v' w' hown' hg')
          go_roundw
          case rel =>
            refine ⟨k - 1, l ++ [y], by congr 1; omega, ?_, by simpa using hown', HC3.out.keep ?_, HU3.out.keep ?_, grown_own (grown_alloc HG3.out _) hg' (fun g hg => (hown.lt g hg).1)⟩
            · simp only [List.length_append, List.length_cons, List.length_nil]; omega
            · intro b hb
              exact (hg'.block b (by simp; omega) (own_far hown (by omega))).trans (Below.heap_alloc w3 _ b (by omega))
            · exact (hg'.block B (by simp; omega) (own_far hown (by omega))).trans (Below.heap_alloc w3 _ B (by omega))
          case measure => simp [intOf]; omega
    · obtain rfl : k = 0 := by omega
      have hconv := conv_own HOr.out
      go_wp2
      (try simp only [hconv])
      (try go_wp2)
      go_ret
      exact ⟨_, by rw [strOfNums_size]; omega, rfl, HUr.out, HGr.out⟩

theorem text_is (B K : Nat) (A : Option Addr) (n cap : Nat) (m : Nat) (x : Int) (hx : x = m) (w : World) (hc : Code w K A n) (hK : K ≤ B) (hcur : Cur w B A n cap) (hm : m ≤ 1000000) :
    Calls Try.prog 70 #[.pointer (some ⟨B, 0, none⟩), .int .i64 x] w (DrewStr m B A n cap w) := by
  subst hx; exact text_any B K A n cap m w hc hK hcur hm

/-- What a drawing function over the code answers: a number with P; nothing that was there has changed. -/
def DrawsNum (P : Int → Prop) (w : World) (e : Ending) (w' : World) : Prop := ∃ y : Int, P y ∧ e = .returned (.int .i64 y) ∧ Below w.heap.size w w'
def DrawsTwo (P Q : Int → Prop) (w : World) (e : Ending) (w' : World) : Prop := ∃ y z : Int, P y ∧ Q z ∧ e = .returned (.tuple #[.int .i64 y, .int .i64 z]) ∧ Below w.heap.size w w'
def DrawsStr (m : Nat) (w : World) (e : Ending) (w' : World) : Prop := ∃ s : ByteArray, s.size ≤ m ∧ e = .returned (.string s) ∧ Below w.heap.size w w'
theorem below_of_grown {a b c : World} {B : Nat} (h : Below a.heap.size a b) (k : b.grownBy c (some B)) (hB : a.heap.size ≤ B) : Below a.heap.size a c :=
  h.grown k h.size (fun g hg => by cases hg; exact hB)

theorem bigC (A : Option Addr) (n cap : Nat) (w : World) : Calls Try.prog 4 #[.slice A n cap] w fun e w' => e = .returned (.bool (decide (1048576 < n))) ∧ w = w' := by
  go_enter Try.func4, Try.ntmps4
  go_wp2
  go_ret
  exact ⟨by simp; omega, rfl⟩

end Go.Proofs.Ytbdnelijfbnfnaa
end

section
namespace Go.Proofs.Ytbdnelijfbnfnaa
open Go.ChangeShapes Go.WideShapes Go.ChangeAt Go.RowKit
set_option linter.unusedVariables false

theorem info9 : (Try.prog.info? 9).map (fun i => (i.zero, i.size, i.bytes)) = some (some (.string ⟨#[]⟩), 1, 16) := by kernel_rfl
/-- One string appended to a row of strings that the call owns. -/
theorem wpAppStr {w : World} {ops : Array Oper} {rest : List Oper} {o : Oper} {a : Act} {Q : Exit → Act → World → Prop} (hgd : o.guard = none) (s x : Operand)
    (ho : o.op = .call { callee := .builtin .append, args := #[s, x], argTypes := #[32, 32] })
    (base : Nat) (v : Value) (n : Nat) (xs : List ByteArray) (hs : a.eval s = v) (hown : w.ownsRow base 9 1 v n (xs.map Value.string))
    (b : Nat) (c : Nat) (y : ByteArray) (hx : a.eval x = .slice (some ⟨b, 0, none⟩) 1 c) (hcell : w.cell? ⟨b, 0, none⟩ = some (.string y))
    (hn : n ≤ 1099511627776) (hbase : base ≤ w.heap.size)
    (h : ∀ v' w', w'.ownsRow base 9 1 v' (n + 1) ((xs ++ [y]).map Value.string) → w.grownBy w' v.ownBlock → wpList Try.prog ops Q rest (a.put o.dst v') w') : wpList Try.prog ops Q (o :: rest) a w := by
  obtain ⟨i0, hi, hz0, hz1, hz2⟩ := info_parts info9
  refine wpList_append_own _ hgd s x 32 ho base 9 i0 (.string ⟨#[]⟩) 1 16 Try.underlying32 hi hz0 hz1 hz2 rfl (by decide) v n _ hs hown ⟨b, 0, none⟩ 1 c [.string y] hx rfl ?_ ?_ (by unfold maxLen; omega) (by omega) hbase ?_
  · intro j u hj
    match j, hj with
    | 0, hj => simp at hj; subst hj; simpa [Addr.add] using hcell
  · intro u hu; simp at hu; subst hu; rfl
  · intro v' w' h1 h2 _
    exact h v' w' (by simpa using h1) h2

def E0 : ByteArray := ⟨#[]⟩
/-- v is a slice of the strings xs, as OwnI is of ints. -/
def OwnS (w : World) (lo hi : Nat) (v : Value) (xs : List ByteArray) : Prop :=
  ∃ A cap, v = .slice A xs.length cap ∧ (xs = [] ∨ ∃ g C, lo ≤ g ∧ g < hi ∧ A = some ⟨g, 0, none⟩ ∧ w.heap[g]? = some (.cells C 9 (0, 0)) ∧ ∀ j, j < xs.length → C[j]? = some (.string (xs.getD j E0)))
theorem OwnS.of_row {w : World} {base : Nat} {v : Value} {n : Nat} {xs : List ByteArray} (h : w.ownsRow base 9 1 v n (xs.map Value.string)) : OwnS w base w.heap.size v xs := by
  have hl : xs.length = n := by have := h.1; simpa using this
  rcases h.2 with ⟨rfl, rfl⟩ | ⟨g, cap, cur, rfl, hb, hh, hnc, hcm, hcur, htake⟩
  · exact ⟨none, 0, by rw [hl], .inl (List.eq_nil_of_length_eq_zero hl)⟩
  · refine ⟨some ⟨g, 0, none⟩, cap, by rw [hl], .inr ⟨g, cur, hb, (h.lt g rfl).2, rfl, hh, fun j hj => ?_⟩⟩
    have e : cur.toList[j]? = (cur.toList.take (n * 1))[j]? := by rw [List.getElem?_take, if_pos (by omega)]
    rw [← Array.getElem?_toList, e, htake, List.getElem?_map]
    simp [List.getD, show j < xs.length from hj]
theorem OwnS.keep {w w' : World} {lo hi B : Nat} {v : Value} {xs : List ByteArray} (h : OwnS w lo hi v xs) (hb : Below B w w') (hB : hi ≤ B) : OwnS w' lo hi v xs := by
  obtain ⟨A, cap, e, h⟩ := h
  refine ⟨A, cap, e, ?_⟩
  rcases h with h | ⟨g, C, h1, h2, h3, h4, h5⟩
  · exact .inl h
  · exact .inr ⟨g, C, h1, h2, h3, (hb.block g (by omega)).trans h4, h5⟩
theorem OwnS.wide {w : World} {lo hi lo' hi' : Nat} {v : Value} {xs : List ByteArray} (h : OwnS w lo hi v xs) (h1 : lo' ≤ lo) (h2 : hi ≤ hi') : OwnS w lo' hi' v xs := by
  obtain ⟨A, cap, e, h⟩ := h
  refine ⟨A, cap, e, ?_⟩
  rcases h with h | ⟨g, C, a1, a2, a3, a4, a5⟩
  · exact .inl h
  · exact .inr ⟨g, C, by omega, by omega, a3, a4, a5⟩
theorem OwnS.cell {w : World} {lo hi : Nat} {v : Value} {xs : List ByteArray} (h : OwnS w lo hi v xs) {j : Nat} (hj : j < xs.length) :
    ∃ g cap, v = .slice (some ⟨g, 0, none⟩) xs.length cap ∧ lo ≤ g ∧ g < hi ∧ w.cell? ⟨g, j, none⟩ = some (.string (xs.getD j E0)) ∧ w.frozen? ⟨g, j, none⟩ = false := by
  obtain ⟨A, cap, rfl, h⟩ := h
  rcases h with rfl | ⟨g, C, h1, h2, rfl, h4, h5⟩
  · simp at hj
  · refine ⟨g, cap, rfl, h1, h2, ?_, by simp [World.frozen?, h4]⟩
    rw [cell_of_row w g j C 9 (0, 0) h4]
    exact h5 j hj
theorem OwnS.set {w : World} {lo hi g cap : Nat} {n : Nat} {xs ys : List ByteArray} (h : OwnS w lo hi (.slice (some ⟨g, 0, none⟩) n cap) xs) {j : Nat} {y : ByteArray} (hj : j < xs.length)
    (hl : ys.length = xs.length) (hy : ys.getD j E0 = y) (ho : ∀ i, i < xs.length → i ≠ j → ys.getD i E0 = xs.getD i E0) : OwnS (w.setCell ⟨g, j, none⟩ (.string y)) lo hi (.slice (some ⟨g, 0, none⟩) n cap) ys := by
  obtain ⟨A, cap', e, h⟩ := h
  simp only [Value.slice.injEq] at e
  obtain ⟨rfl, rfl, rfl⟩ := e
  refine ⟨_, _, by rw [hl], .inr ?_⟩
  rcases h with rfl | ⟨g', C, h1, h2, h3, h4, h5⟩
  · simp at hj
  · obtain rfl : g = g' := by simpa using h3
    refine ⟨g, C.setIfInBounds j (.string y), h1, h2, rfl, by simp [World.setCell, Array.getElem?_modify, h4], fun i hi => ?_⟩
    rw [hl] at hi
    by_cases e : i = j
    · subst e
      have hC : i < C.size := by
        have := h5 i hi
        rcases Nat.lt_or_ge i C.size with h | h
        · exact h
        · rw [Array.getElem?_eq_none h] at this; cases this
      rw [Array.getElem?_setIfInBounds_self_of_lt hC, hy]
    · rw [Array.getElem?_setIfInBounds_ne (by omega), h5 i hi, ho i hi e]

/-- The decimal digits of a number; none of 0. -/
def dgL (k : Nat) : List UInt8 := if h : k = 0 then [] else dgL (k / 10) ++ [UInt8.ofNat (48 + k % 10)]
termination_by k
decreasing_by omega
theorem dgL_zero : dgL 0 = [] := by rw [dgL]; simp
theorem dgL_step (k : Nat) (h : k ≠ 0) (l : List UInt8) : dgL k ++ l = dgL (k / 10) ++ UInt8.ofNat (48 + k % 10) :: l := by
  rw [dgL, dif_neg h]; simp
theorem dgL_len : ∀ (j k : Nat), k < 10 ^ j → (dgL k).length ≤ j := by
  intro j
  induction j with
  | zero => intro k h; have : k = 0 := by simp at h; omega
            subst this; rw [dgL_zero]; simp
  | succ j ih =>
    intro k h
    by_cases h0 : k = 0
    · subst h0; rw [dgL_zero]; simp
    · rw [dgL, dif_neg h0]
      have := ih (k / 10) (by rw [Nat.pow_succ] at h; omega)
      simp only [List.length_append, List.length_cons, List.length_nil]; omega
/-- What markText answers. -/
def mtS (k : Nat) : ByteArray := ⟨(109 :: dgL k).toArray⟩
theorem convB (w : World) (y : Int) : (convert 22 9 (.slice (some ⟨w.heap.size, 0, none⟩) 1 1)).run Try.prog (w.alloc (.cells #[.int .u8 y] 5)) = .ok (.string (strOfNums [y])) (w.alloc (.cells #[.int .u8 y] 5)) := by
  refine run_convert_bytes_arg _ 22 5 Try.underlying22 Try.underlying5 w.heap.size 0 1 1 [y] rfl (fun i hi => ?_) 9 Try.underlying9
  obtain rfl : i = 0 := by omega
  exact cell_one w _ _
theorem str_dig (r : Nat) (l : List UInt8) : strOfNums [48 + (r : Int)] ++ ⟨l.toArray⟩ = ⟨(UInt8.ofNat (48 + r) :: l).toArray⟩ := by
  unfold strOfNums
  rw [ByteArray.mk_append_mk]
  have : (48 + (r : Int)).toNat = 48 + r := by omega
  simp [this]
theorem ret_s {a b : ByteArray} (h : a = b) : Ending.returned (.string a) = .returned (.string b) := by rw [h]

/-- n marks from k on. -/
def marksS (k : Nat) (n : Nat) : List ByteArray := (List.range n).map fun (i : Nat) => mtS (k + i)
theorem marksS_len (k : Nat) (n : Nat) : (marksS k n).length = n := by simp [marksS]
theorem marksS_at (k n j : Nat) (h : j < n) : (marksS k n).getD j E0 = mtS (k + j) := by simp [marksS, List.getD, h]
def mkS (k : Nat) (j : Nat) (xs : List ByteArray) : List ByteArray := (List.range xs.length).map fun (i : Nat) => if i < j then mtS (k + i) else xs.getD i E0
theorem mkS_len (k : Nat) (j : Nat) (xs : List ByteArray) : (mkS k j xs).length = xs.length := by simp [mkS]
theorem mkS_at (k j i : Nat) (xs : List ByteArray) (h : i < xs.length) : (mkS k j xs).getD i E0 = if i < j then mtS (k + i) else xs.getD i E0 := by simp [mkS, List.getD, h]
theorem mkS_zero (k : Nat) (xs : List ByteArray) : mkS k 0 xs = xs := by
  apply List.ext_getElem
  · rw [mkS_len]
  · intro i h1 h2
    simp [mkS, List.getD, h2]
theorem mkS_all (k : Nat) (xs : List ByteArray) : mkS k xs.length xs = marksS k xs.length := by
  unfold mkS marksS
  refine List.map_congr_left fun i hi => ?_
  rw [if_pos (by simpa using hi)]

end Go.Proofs.Ytbdnelijfbnfnaa
end

section
namespace Go.Proofs.Ytbdnelijfbnfnaa
open Go.ChangeShapes Go.WideShapes Go.ChangeAt Go.RowKit
set_option linter.unusedVariables false

set_option maxRecDepth 100000 in
set_option maxHeartbeats 1600000 in
theorem once_any (B K : Nat) (A : Option Addr) (n cap : Nat) (m : Int) (w : World) (hc : Code w K A n) (hK : K ≤ B) (hcur : Cur w B A n cap) (hm0 : 0 < m) (hmm : m ≤ 1000000000000) :
    Calls Try.prog 45 #[.pointer (some ⟨B, 0, none⟩), .int .i64 m] w fun e w' => ∃ b : Bool, e = .returned (.bool b) ∧ Cur w' B A n cap ∧ w.grownBy w' (some B) := by
  have HC := Lib.hid hc
  have HU := Lib.hid hcur
  clear hc hcur
  go_enter Try.func45, Try.ntmps45
  go_wp2_with fail
  (with_reducible refine (below_any B K A n cap m _ HC.out hK HU.out hm0 hmm).mono ?_)
  rintro e w1 ⟨y, hy, rfl, hcur, hg⟩
  have HU1 := Lib.hid hcur
  have HG := Lib.hid hg
  clear hcur hg
  go_wp2
  go_ret
  exact ⟨_, rfl, HU1.out, HG.out⟩

set_option maxRecDepth 100000 in
set_option maxHeartbeats 3200000 in
theorem draw_any (B K : Nat) (A : Option Addr) (n cap : Nat) (m : Nat) (w : World) (hc : Code w K A n) (hK : K ≤ B) (hcur : Cur w B A n cap) (hm : m ≤ 100000) :
    Calls Try.prog 44 #[.pointer (some ⟨B, 0, none⟩), .int .i64 m] w (DrewStr (2 * m) B A n cap w) := by
  have HC := Lib.hid hc
  have HU := Lib.hid hcur
  have hBlt := hcur.lt
  clear hc hcur
  go_enter Try.func44, Try.ntmps44
  go_wp2
  go_loopw [5, 6, 7] (fun x u d wr => ∃ (a b : Nat) (t : ByteArray), x = .string t ∧ u = .int .i64 a ∧ d = .int .i64 b ∧ a ≤ m ∧ b ≤ m ∧ t.size = a + b ∧ Code wr K A n ∧ Cur wr B A n cap ∧ w.grownBy wr (some B)) (fun _ u d _ => 2 * m - (intOf u).toNat - (intOf d).toNat)
  case atStart => exact ⟨0, 0, ⟨#[]⟩, rfl, rfl, rfl, Nat.zero_le _, Nat.zero_le _, rfl, HC.out, HU.out, World.grownBy.refl w _⟩
  case round =>
    obtain ⟨a, b, t, rfl, rfl, rfl, ha, hb, ht, hc, hu, hg⟩ := hrel
    have HCr := Lib.hid hc
    have HUr := Lib.hid hu
    have HGr := Lib.hid hg
    have hsz := hg.size
    clear hc hu hg
    have e1 : (⟨#[117]⟩ : ByteArray).size = 1 := rfl
    have e2 : (⟨#[100]⟩ : ByteArray).size = 1 := rfl
    have z1 : ¬ 9223372036854775807 < t.size + (⟨#[117]⟩ : ByteArray).size := by omega
    have z2 : ¬ 9223372036854775807 < t.size + (⟨#[100]⟩ : ByteArray).size := by omega
    have HT1 := Lib.hid (show (t ++ ⟨#[117]⟩).size = a + 1 + b by rw [ByteArray.size_append]; omega)
    have HT2 := Lib.hid (show (t ++ ⟨#[100]⟩).size = a + (b + 1) by rw [ByteArray.size_append]; omega)
    have HT := Lib.hid ht
    clear e1 e2 ht
    by_cases hbm : b < m
    · by_cases ham : a < m
      · by_cases hab : a = b
        · subst hab
          go_wp2
          exact ⟨⟨a + 1, a, _, rfl, by simp, rfl, ham, hb, HT1.out, HCr.out, HUr.out, HGr.out⟩, by simp [intOf]; omega⟩
        · have b1 : ((a : Int) == (b : Int)) = false := by simp; omega
          go_wp2_with fail
          (with_reducible refine (once_any B K A n cap 2 _ HCr.out hK HUr.out (by omega) (by omega)).mono ?_)
          rintro e w1 ⟨o, rfl, hcur, hg⟩
          have HU1 := Lib.hid hcur
          have HG1 := Lib.hid (grown_trans HGr.out hg)
          have HC1 := Lib.hid (HCr.out.keep (fun b hb => hg.block b (by omega) (by simp; omega)))
          clear hcur hg
          rcases o with _ | _
          · go_wp2
            exact ⟨⟨a, b + 1, _, rfl, rfl, by simp, ha, hbm, HT2.out, HC1.out, HU1.out, HG1.out⟩, by simp [intOf]; omega⟩
          · go_wp2
            exact ⟨⟨a + 1, b, _, rfl, by simp, rfl, ham, hb, HT1.out, HC1.out, HU1.out, HG1.out⟩, by simp [intOf]; omega⟩
      · go_wp2
        exact ⟨⟨a, b + 1, _, rfl, rfl, by simp, ha, hbm, HT2.out, HCr.out, HUr.out, HGr.out⟩, by simp [intOf]; omega⟩
    · go_wp2
      go_ret
      exact ⟨t, by rw [HT.out]; omega, rfl, HUr.out, HGr.out⟩

set_option maxRecDepth 100000 in
set_option maxHeartbeats 1600000 in
theorem path_any (B K : Nat) (A : Option Addr) (n cap : Nat) (w : World) (hc : Code w K A n) (hK : K ≤ B) (hcur : Cur w B A n cap) :
    Calls Try.prog 56 #[.pointer (some ⟨B, 0, none⟩)] w (DrewStr 12 B A n cap w) := by
  have HC := Lib.hid hc
  have HU := Lib.hid hcur
  have hBlt := hcur.lt
  clear hc hcur
  go_enter Try.func56, Try.ntmps56
  go_wp2_with fail
  (with_reducible refine (below_any B K A n cap 7 _ HC.out hK HU.out (by omega) (by omega)).mono ?_)
  rintro e w1 ⟨y, hy, rfl, hcur, hg⟩
  have HU1 := Lib.hid hcur
  have HG1 := Lib.hid hg
  have HC1 := Lib.hid (HC.out.keep (fun b hb => hg.block b (by omega) (by simp; omega)))
  clear hcur hg
  obtain ⟨y0, y7⟩ := hy
  obtain ⟨j, rfl⟩ : ∃ j : Nat, y = j := ⟨y.toNat, by omega⟩
  go_wp2_with fail
  (with_reducible refine (draw_any B K A n cap j _ HC1.out hK HU1.out (by omega)).mono ?_)
  rintro e w2 ⟨t, ht, rfl, hcur, hg⟩
  have HU2 := Lib.hid hcur
  have HG2 := Lib.hid (grown_trans HG1.out hg)
  clear hcur hg
  go_wp2
  go_ret
  exact ⟨t, by omega, rfl, HU2.out, HG2.out⟩

end Go.Proofs.Ytbdnelijfbnfnaa
end

section
namespace Go.Proofs.Ytbdnelijfbnfnaa
open Go.ChangeShapes Go.WideShapes Go.ChangeAt Go.RowKit
set_option linter.unusedVariables false

set_option maxRecDepth 100000 in
set_option maxHeartbeats 3200000 in
theorem spoil_any (B K : Nat) (A : Option Addr) (n cap : Nat) (s : ByteArray) (w : World) (hc : Code w K A n) (hK : K ≤ B) (hcur : Cur w B A n cap) (hs : s.size ≤ 100000) :
    Calls Try.prog 57 #[.pointer (some ⟨B, 0, none⟩), .string s] w (DrewStr (max 3 (s.size + 1)) B A n cap w) := by
  have HC := Lib.hid hc
  have HU := Lib.hid hcur
  have hBlt := hcur.lt
  clear hc hcur
  by_cases h0 : s.size = 0
  · have h0i : ((s.size : Int) == 0) = true := by simp [h0]
    go_enter Try.func57, Try.ntmps57
    go_wp2_with fail
    (with_reducible refine (text_is B K A n cap 3 3 rfl _ HC.out hK HU.out (by omega)).mono ?_)
    rintro e w2 ⟨t, ht, rfl, hcur, hg⟩
    have HU2 := Lib.hid hcur
    have HG2 := Lib.hid hg
    clear hcur hg
    go_wp2
    go_ret
    exact ⟨t, by omega, rfl, HU2.out, HG2.out⟩
  · have h0i : ((s.size : Int) == 0) = false := by rw [beq_eq_false_iff_ne]; omega
    go_enter Try.func57, Try.ntmps57
    go_wp2_with fail
    (with_reducible refine (below_any B K A n cap s.size _ HC.out hK HU.out (by omega) (by omega)).mono ?_)
    rintro e w1 ⟨y, hy, rfl, hcur, hg⟩
    have HU1 := Lib.hid hcur
    have HG1 := Lib.hid hg
    have HC1 := Lib.hid (HC.out.keep (fun b hb => hg.block b (by omega) (by simp; omega)))
    have z1 := hg.size
    clear hcur hg
    obtain ⟨y0, y1⟩ := hy
    obtain ⟨k, rfl⟩ : ∃ k : Nat, y = k := ⟨y.toNat, by omega⟩
    go_wp2_with fail
    (with_reducible refine (below_any B K A n cap 4 _ HC1.out hK HU1.out (by omega) (by omega)).mono ?_)
    rintro e w2 ⟨r, hr, rfl, hcur, hg⟩
    have HU2 := Lib.hid hcur
    have HG2 := Lib.hid (grown_trans HG1.out hg)
    have HC2 := Lib.hid (HC1.out.keep (fun b hb => hg.block b (by omega) (by simp; omega)))
    have z2 := hg.size
    clear hcur hg
    obtain ⟨r0, r4⟩ := hr
    have hks : (k : Int) ≤ (s.size : Int) := by omega
    have hk1 : (k : Int) + 1 ≤ (s.size : Int) := by omega
    have hk2 : (0 : Int) ≤ (k : Int) + 1 := by omega
    have hkt : ((k : Int) + 1).toNat = k + 1 := by omega
    have x1 : (s.extract 0 k).size = k := by rw [ByteArray.size_extract]; omega
    have x2 : (s.extract (k + 1) s.size).size = s.size - (k + 1) := by rw [ByteArray.size_extract]; omega
    have x3 : (s.extract k s.size).size = s.size - k := by rw [ByteArray.size_extract]; omega
    by_cases e0 : r = 0
    · subst e0
      have c1 : ¬ 9223372036854775807 < (s.extract 0 k).size + (s.extract (k + 1) s.size).size := by omega
      have X := Lib.hid (show (s.extract 0 k ++ s.extract (k + 1) s.size).size ≤ max 3 (s.size + 1) by rw [ByteArray.size_append]; omega)
      clear x1 x2 x3
      go_wp2
      go_quiet (fail)
      go_wp2
      go_ret
      exact ⟨_, X.out, rfl, HU2.out, grown_drewN HG2.out _⟩
    · have b0 : (r == 0) = false := by simp [e0]
      by_cases e1 : r = 1
      · subst e1
        have c1 : ∀ y : Int, ¬ 9223372036854775807 < (s.extract 0 k).size + (strOfNums [y]).size := by intro y; have : (strOfNums [y]).size = 1 := rfl; omega
        have c3 : ∀ y : Int, ¬ 9223372036854775807 < min k s.size + (strOfNums [y]).size := by intro y; have : (strOfNums [y]).size = 1 := rfl; omega
        have c4 : ∀ y : Int, ¬ 9223372036854775807 < min k s.size + (strOfNums [y]).size + (s.size - k) := by intro y; have : (strOfNums [y]).size = 1 := rfl; omega
        have c2 : ∀ y : Int, ¬ 9223372036854775807 < (s.extract 0 k ++ strOfNums [y]).size + (s.extract k s.size).size := by intro y; have : (strOfNums [y]).size = 1 := rfl; rw [ByteArray.size_append]; omega
        have X := Lib.hid (show ∀ y : Int, ((s.extract 0 k ++ strOfNums [y]) ++ s.extract k s.size).size ≤ max 3 (s.size + 1) by intro y; have : (strOfNums [y]).size = 1 := rfl; simp only [ByteArray.size_append]; omega)
        have hcv := convB
        have HCD := Lib.hid (show Code w2.drew K A n from HC2.out.keep fun _ _ => rfl)
        have HUD := Lib.hid (show Cur w2.drew B A n cap from HU2.out.keep rfl)
        have HGD := Lib.hid (show w.grownBy w2.drew (some B) from grown_drewN HG2.out 1)
        clear x1 x2 x3
        go_wp2
        go_region_law (go_simp; go_at_call 59; (with_reducible refine (byte_any B K A n cap _ HCD.out hK HUD.out).mono ?_); rintro e w3 ⟨y, hy, rfl, hcur, hg⟩; have HU3 := Lib.hid hcur; have HG3 := Lib.hid (grown_trans HGD.out hg); obtain ⟨y0, y255⟩ := hy; clear hcur hg)
        all_goals go_wp2
        all_goals go_ret
        all_goals exact ⟨_, X.out _, rfl, HU3.out.keep (Below.heap_alloc w3 _ B HU3.out.lt), grown_alloc HG3.out _⟩
      · have b1 : (r == 1) = false := by simp [e1]
        by_cases e2 : r = 2
        · subst e2
          have X := Lib.hid (show (s.extract 0 k).size ≤ max 3 (s.size + 1) by omega)
          clear x1 x2 x3
          go_wp2
          go_ret
          exact ⟨_, X.out, rfl, HU2.out, HG2.out⟩
        · have b2 : (r == 2) = false := by simp [e2]
          have hk3 : (k : Int) < (s.size : Int) := y1
          have hw1 : IntKind.i64.wrap ((k : Int) + 1) = (k : Int) + 1 := IntWalk.i64_in _ (by omega)
          have c3 : ∀ y : Int, ¬ 9223372036854775807 < min k s.size + (strOfNums [y]).size := by intro y; have : (strOfNums [y]).size = 1 := rfl; omega
          have c4 : ∀ y : Int, ¬ 9223372036854775807 < min k s.size + (strOfNums [y]).size + (s.size - (k + 1)) := by intro y; have : (strOfNums [y]).size = 1 := rfl; omega
          have X := Lib.hid (show ∀ y : Int, ((s.extract 0 k ++ strOfNums [y]) ++ s.extract (k + 1) s.size).size ≤ max 3 (s.size + 1) by intro y; have : (strOfNums [y]).size = 1 := rfl; simp only [ByteArray.size_append]; omega)
          have hcv := convB
          have HCD := Lib.hid (show Code w2.drew K A n from HC2.out.keep fun _ _ => rfl)
          have HUD := Lib.hid (show Cur w2.drew B A n cap from HU2.out.keep rfl)
          have HGD := Lib.hid (show w.grownBy w2.drew (some B) from grown_drewN HG2.out 1)
          clear x1 x2 x3 e0 e1 e2
          go_wp2
          go_region_law (go_simp; go_at_call 39; (with_reducible refine (below_any B K A n cap 255 _ HCD.out hK HUD.out (by omega) (by omega)).mono ?_); rintro e w3 ⟨y, hy, rfl, hcur, hg⟩; have HU3 := Lib.hid hcur; have HG3 := Lib.hid (grown_trans HGD.out hg); obtain ⟨q0, q255⟩ := hy; clear hcur hg)
          all_goals go_wp2
          all_goals go_ret
          all_goals exact ⟨_, X.out _, rfl, HU3.out.keep (Below.heap_alloc w3 _ B HU3.out.lt), grown_alloc HG3.out _⟩

end Go.Proofs.Ytbdnelijfbnfnaa
end

section
namespace Go.Proofs.Ytbdnelijfbnfnaa
open Go.RowKit
open Go.PlainAid (bt bt_nonneg bt_le get_bt)
set_option linter.unusedVariables false

/-- The letters from place k on. -/
def rest (s : ByteArray) (k : Nat) : List UInt8 := s.data.toList.drop k
theorem rest_zero (s : ByteArray) : rest s 0 = s.data.toList := rfl
theorem rest_cons (s : ByteArray) (k : Nat) (h : k < s.size) : rest s k = s[k] :: rest s (k + 1) := by
  unfold rest
  rw [List.drop_eq_getElem_cons (by simpa using h)]
  rfl
theorem rest_end (s : ByteArray) (k : Nat) (h : s.size ≤ k) : rest s k = [] := List.drop_of_length_le (by simpa using h)
theorem bt_at (s : ByteArray) (k : Nat) (h : k < s.size) : bt s k = (s[k].toNat : Int) := (get_bt s k h).symm

/-- From height h on the letters never go below 0 and end at 0. -/
def dyckFrom : Nat → List UInt8 → Bool
  | h, [] => h == 0
  | h, c :: l => if c.toNat = 117 then dyckFrom (h + 1) l else if c.toNat = 100 then (match h with | 0 => false | k + 1 => dyckFrom k l) else false
theorem df_nil (h : Nat) : dyckFrom h [] = (h == 0) := by unfold dyckFrom; rfl
theorem df_up (h : Nat) (c : UInt8) (l : List UInt8) (e : c.toNat = 117) : dyckFrom h (c :: l) = dyckFrom (h + 1) l := by
  conv => lhs; unfold dyckFrom
  rw [if_pos e]
theorem df_down (h : Nat) (c : UInt8) (l : List UInt8) (e : c.toNat = 100) : dyckFrom (h + 1) (c :: l) = dyckFrom h l := by
  conv => lhs; unfold dyckFrom
  rw [if_neg (by omega), if_pos e]
theorem df_below (c : UInt8) (l : List UInt8) (e : c.toNat = 100) : dyckFrom 0 (c :: l) = false := by
  unfold dyckFrom
  rw [if_neg (by omega), if_pos e]
theorem df_other (h : Nat) (c : UInt8) (l : List UInt8) (e : c.toNat ≠ 117) (e' : c.toNat ≠ 100) : dyckFrom h (c :: l) = false := by
  unfold dyckFrom
  rw [if_neg e, if_neg e']
/-- A path of a size of at most 8. -/
def dyck (s : ByteArray) : Bool := decide (s.size ≤ 16) && dyckFrom 0 s.data.toList
theorem dyck_long {s : ByteArray} (h : 16 < s.size) : dyck s = false := by unfold dyck; rw [decide_eq_false (by omega)]; rfl
theorem dyck_short {s : ByteArray} (h : s.size ≤ 16) : dyck s = dyckFrom 0 s.data.toList := by unfold dyck; rw [decide_eq_true h]; rfl
theorem dyck_size {s : ByteArray} (h : dyck s = true) : s.size ≤ 16 := by
  unfold dyck at h
  simp only [Bool.and_eq_true, decide_eq_true_eq] at h
  exact h.1
/-- In a path that goes on from height h each letter is u or d, and a d does not go below 0. -/
theorem df_letter {h : Nat} {c : UInt8} {l : List UInt8} (hd : dyckFrom h (c :: l) = true) : (c.toNat = 117 ∧ dyckFrom (h + 1) l = true) ∨ (c.toNat = 100 ∧ 1 ≤ h ∧ dyckFrom (h - 1) l = true) := by
  by_cases e : c.toNat = 117
  · exact .inl ⟨e, by rwa [df_up h c l e] at hd⟩
  · by_cases e' : c.toNat = 100
    · rcases h with _ | k
      · rw [df_below c l e'] at hd; cases hd
      · rw [df_down k c l e'] at hd
        exact .inr ⟨e', by omega, hd⟩
    · rw [df_other h c l e e'] at hd; cases hd

end Go.Proofs.Ytbdnelijfbnfnaa
end

section
namespace Go.Proofs.Ytbdnelijfbnfnaa
open Go.ChangeShapes Go.WideShapes Go.ChangeAt Go.RowKit
open Go.PlainAid (bt bt_nonneg bt_le get_bt)
set_option linter.unusedVariables false

theorem ret_bool {a b : Bool} (h : a = b) : Ending.returned (.bool a) = .returned (.bool b) := by rw [h]
theorem ret_int {a b : Int} (h : a = b) : Ending.returned (.int .i64 a) = .returned (.int .i64 b) := by rw [h]
theorem ret_str {a b : ByteArray} (h : a = b) : Ending.returned (.string a) = .returned (.string b) := by rw [h]

theorem l1In_yes (x lo hi : Int) (w : World) (h1 : lo ≤ x) (h2 : x ≤ hi) :
    Calls Try.prog 41 #[.int .i64 x, .int .i64 lo, .int .i64 hi] w fun e w' => e = .returned (.bool true) ∧ w = w' := by
  go_enter Try.func41, Try.ntmps41
  go_wp2
  go_ret
  exact ⟨rfl, rfl⟩
theorem l1In_no1 (x lo hi : Int) (w : World) (h1 : x < lo) :
    Calls Try.prog 41 #[.int .i64 x, .int .i64 lo, .int .i64 hi] w fun e w' => e = .returned (.bool false) ∧ w = w' := by
  go_enter Try.func41, Try.ntmps41
  go_wp2
  go_ret
  exact ⟨rfl, rfl⟩
theorem l1In_no2 (x lo hi : Int) (w : World) (h1 : lo ≤ x) (h2 : hi < x) :
    Calls Try.prog 41 #[.int .i64 x, .int .i64 lo, .int .i64 hi] w fun e w' => e = .returned (.bool false) ∧ w = w' := by
  go_enter Try.func41, Try.ntmps41
  go_wp2
  go_ret
  exact ⟨by simpa using h2, rfl⟩

set_option maxRecDepth 100000 in
set_option maxHeartbeats 800000 in
theorem isDyck (s : ByteArray) (w : World) (hs : s.size ≤ 1099511627776) :
    Calls Try.prog 38 #[.string s] w fun e w' => e = .returned (.bool (dyck s)) ∧ w = w' := by
  go_enter Try.func38, Try.ntmps38
  go_wp2
  go_loop [3, 4] (fun x y => ∃ i h : Nat, i ≤ s.size ∧ h ≤ i ∧ y = .int .i64 i ∧ x = .int .i64 h ∧ dyckFrom 0 s.data.toList = dyckFrom h (rest s i)) (fun _ y => s.size - (intOf y).toNat)
  case atStart => exact ⟨0, 0, Nat.zero_le _, Nat.le_refl _, rfl, rfl, rfl⟩
  case round =>
    obtain ⟨i, h, hi, hh, rfl, rfl, hd⟩ := hrel
    have HD := Lib.hid hd
    clear hd
    by_cases hlt : i < s.size
    · have hbt := get_bt s
      have hb0 := bt_nonneg s i
      have HR := Lib.hid (rest_cons s i hlt)
      have HB := Lib.hid (bt_at s i hlt)
      by_cases e1 : bt s i = 117
      · have b1 : (bt s i == 117) = true := by simp [e1]
        have HE := Lib.hid (show s[i].toNat = 117 by have := HB.out; omega)
        clear e1
        go_wp2
        refine ⟨⟨i + 1, h + 1, by omega, by omega, by simp, by simp, ?_⟩, by simp [intOf]; omega⟩
        rw [HD.out, HR.out, df_up _ _ _ HE.out]
      · have b1 : (bt s i == 117) = false := by simp [e1]
        by_cases e2 : bt s i = 100
        · have b2 : (bt s i == 100) = true := by simp [e2]
          have HE := Lib.hid (show s[i].toNat = 100 by have := HB.out; omega)
          clear e1 e2
          rcases h with _ | h
          · go_wp2
            go_ret
            refine ⟨ret_bool ?_, rfl⟩
            unfold dyck
            rw [HD.out, HR.out, df_below _ _ HE.out]; simp
          · go_wp2
            refine ⟨⟨i + 1, h, by omega, by omega, by simp, by simp, ?_⟩, by simp [intOf]; omega⟩
            rw [HD.out, HR.out, df_down _ _ _ HE.out]
        · have b2 : (bt s i == 100) = false := by simp [e2]
          have HE := Lib.hid (show s[i].toNat ≠ 117 ∧ s[i].toNat ≠ 100 by have := HB.out; omega)
          clear e1 e2
          go_wp2
          go_ret
          refine ⟨ret_bool ?_, rfl⟩
          unfold dyck
          rw [HD.out, HR.out, df_other _ _ _ HE.out.1 HE.out.2]; simp
    · have HE := Lib.hid (rest_end s i (by omega))
      by_cases h0 : h = 0
      · have b0 : ((h : Int) == 0) = true := by simp [h0]
        have HZ := Lib.hid h0
        clear h0
        by_cases h16 : s.size ≤ 16
        · have b16 : decide ((s.size : Int) ≤ 16) = true := by simp; omega
          go_wp2
          go_ret
          refine ⟨ret_bool ?_, rfl⟩
          rw [dyck_short h16, HD.out, HE.out, df_nil, HZ.out]
          simp
        · have b16 : decide ((s.size : Int) ≤ 16) = false := by simp; omega
          go_wp2
          go_ret
          refine ⟨ret_bool ?_, rfl⟩
          rw [dyck_long (by omega)]
      · have b0 : ((h : Int) == 0) = false := by simp [h0]
        have HZ := Lib.hid h0
        clear h0
        go_wp2
        go_ret
        refine ⟨ret_bool ?_, rfl⟩
        unfold dyck
        rw [HD.out, HE.out, df_nil]
        have := HZ.out
        simp [this]
theorem isDyck_yes (s : ByteArray) (w : World) (hs : s.size ≤ 1099511627776) (h : dyck s = true) : Calls Try.prog 38 #[.string s] w fun e w' => e = .returned (.bool true) ∧ w = w' := by
  have := isDyck s w hs; rwa [h] at this
theorem isDyck_no (s : ByteArray) (w : World) (hs : s.size ≤ 1099511627776) (h : dyck s = false) : Calls Try.prog 38 #[.string s] w fun e w' => e = .returned (.bool false) ∧ w = w' := by
  have := isDyck s w hs; rwa [h] at this

/-- What SizeOf answers. -/
def sizeP (s : ByteArray) : Int := if dyck s = true then ((s.size / 2 : Nat) : Int) else -1
end Go.Proofs.Ytbdnelijfbnfnaa
end

section
namespace Go.Proofs.Ytbdnelijfbnfnaa
open Go.ChangeShapes Go.WideShapes Go.ChangeAt Go.RowKit
open Go.PlainAid (bt bt_nonneg bt_le get_bt)
set_option linter.unusedVariables false

/-- The heights before each letter and at the end, from height h on. -/
def hsL : Int → List UInt8 → List Int
  | h, [] => [h]
  | h, c :: l => h :: hsL (if c.toNat = 117 then h + 1 else h - 1) l
theorem hsL_nil (h : Int) : hsL h [] = [h] := rfl
theorem hsL_up (h : Int) (c : UInt8) (l : List UInt8) (e : c.toNat = 117) : hsL h (c :: l) = h :: hsL (h + 1) l := by rw [hsL, if_pos e]
theorem hsL_down (h : Int) (c : UInt8) (l : List UInt8) (e : c.toNat ≠ 117) : hsL h (c :: l) = h :: hsL (h - 1) l := by rw [hsL, if_neg e]
theorem hsL_len (h : Int) (l : List UInt8) : (hsL h l).length = l.length + 1 := by
  induction l generalizing h with
  | nil => rfl
  | cons c l ih => rw [hsL, List.length_cons, ih, List.length_cons]
def heightsP (s : ByteArray) : List Int := if dyck s = true then hsL 0 s.data.toList else []
theorem heightsP_yes {s : ByteArray} (h : dyck s = true) : heightsP s = hsL 0 s.data.toList := if_pos h
theorem heightsP_no {s : ByteArray} (h : dyck s = false) : heightsP s = [] := if_neg (by simp [h])
theorem heightsP_len (s : ByteArray) : (heightsP s).length ≤ 17 := by
  unfold heightsP
  split
  · rename_i h
    have := dyck_size h
    rw [hsL_len]; simp; omega
  · simp

/-- A function that answers the ints xs in memory of its own. -/
def AnsI (xs : List Int) (w : World) (e : Ending) (w' : World) : Prop := ∃ v, e = .returned v ∧ OwnI w' w.heap.size w'.heap.size v xs ∧ Below w.heap.size w w'

set_option maxRecDepth 100000 in
set_option maxHeartbeats 1600000 in
theorem heightsOf (s : ByteArray) (w : World) (hs : s.size ≤ 1099511627776) : Calls Try.prog 32 #[.string s] w (AnsI (heightsP s) w) := by
  rcases hd : dyck s with _ | _
  · have HP := Lib.hid (heightsP_no hd)
    have HD := Lib.hid hd
    clear hd
    go_enter Try.func32, Try.ntmps32
    go_wp2_with fail
    (with_reducible refine (isDyck_no s _ hs HD.out).mono ?_)
    rintro e w' ⟨rfl, rfl⟩
    go_wp2
    go_ret
    exact ⟨_, rfl, by rw [HP.out]; exact ⟨_, _, rfl, .inl rfl⟩, (Below.refl _ _).alloc (Nat.le_refl _) _⟩
  · have HP := Lib.hid (heightsP_yes hd)
    have HD := Lib.hid hd
    have h16 := dyck_size hd
    clear hd
    go_enter Try.func32, Try.ntmps32
    go_wp2_with fail
    (with_reducible refine (isDyck_yes s _ hs HD.out).mono ?_)
    rintro e w' ⟨rfl, rfl⟩
    go_wp2
    go_loopw [3, 4, 5] (fun v x y wr => ∃ (i : Nat) (h : Int) (acc : List Int), i ≤ s.size ∧ -(i : Int) ≤ h ∧ h ≤ i ∧ y = .int .i64 i ∧ x = .int .i64 h ∧ acc.length = i ∧ acc ++ hsL h (rest s i) = hsL 0 s.data.toList ∧ wr.ownsRow w.heap.size 3 1 v acc.length (acc.map (Value.int .i64)) ∧ Below w.heap.size w wr)
      (fun _ _ y _ => s.size - (intOf y).toNat)
    case atStart => exact ⟨0, 0, [], Nat.zero_le _, by omega, by omega, rfl, rfl, rfl, rfl, World.ownsRow_made w #[] 0 (Nat.le_refl _) (Nat.zero_le _) (by simp), (Below.refl _ _).alloc (Nat.le_refl _) _⟩
    case round =>
      obtain ⟨i, h, acc, hi, h1, h2, rfl, rfl, hl, ha, hown, hb⟩ := hrel
      have HA := Lib.hid ha
      have HL := Lib.hid hl
      have hl2 : acc.length ≤ 1000 := by omega
      have hB := hb.size
      clear ha hl
      by_cases hlt : i < s.size
      · have hbt := get_bt s
        have HR := Lib.hid (rest_cons s i hlt)
        have HBB := Lib.hid (bt_at s i hlt)
        by_cases e1 : bt s i = 117
        · have b1 : (bt s i == 117) = true := by simp [e1]
          have HE := Lib.hid (show s[i].toNat = 117 by have := HBB.out; omega)
          clear e1
          go_wp2_with (at_builtin; go_must (refine wpAppInt rfl _ _ rfl w.heap.size u3 _ _ rfl (hown.alloc _) wr.heap.size _ _ rfl (cell_one _ _ _) (by omega) (base_up hB) ?_); intro v' w' hown' hg')
          go_roundw
          case rel => exact ⟨i + 1, h + 1, acc ++ [h], by omega, by omega, by omega, by simp, rfl, by rw [List.length_append, HL.out]; rfl, by rw [← HA.out, HR.out, hsL_up _ _ _ HE.out]; simp, by simpa using hown', (hb.alloc hB _).grown hg' (base_up hB) (fun k hk => (hown.lt k hk).1)⟩
          case measure => simp [intOf]; omega
        · have b1 : (bt s i == 117) = false := by simp [e1]
          have HE := Lib.hid (show s[i].toNat ≠ 117 by have := HBB.out; omega)
          clear e1
          go_wp2_with (at_builtin; go_must (refine wpAppInt rfl _ _ rfl w.heap.size u3 _ _ rfl (hown.alloc _) wr.heap.size _ _ rfl (cell_one _ _ _) (by omega) (base_up hB) ?_); intro v' w' hown' hg')
          go_roundw
          case rel => exact ⟨i + 1, h - 1, acc ++ [h], by omega, by omega, by omega, by simp, rfl, by rw [List.length_append, HL.out]; rfl, by rw [← HA.out, HR.out, hsL_down _ _ _ HE.out]; simp, by simpa using hown', (hb.alloc hB _).grown hg' (base_up hB) (fun k hk => (hown.lt k hk).1)⟩
          case measure => simp [intOf]; omega
      · have HE := Lib.hid (rest_end s i (by omega))
        go_wp2_with (at_builtin; go_must (refine wpAppInt rfl _ _ rfl w.heap.size u3 _ _ rfl (hown.alloc _) wr.heap.size _ _ rfl (cell_one _ _ _) (by omega) (base_up hB) ?_); intro v' w' hown' hg')
        go_ret
        refine ⟨v', rfl, ?_, (hb.alloc hB _).grown hg' (base_up hB) (fun k hk => (hown.lt k hk).1)⟩
        have h := HA.out
        rw [HE.out, hsL_nil] at h
        rw [HP.out, ← h]
        exact OwnI.of_row hown'

end Go.Proofs.Ytbdnelijfbnfnaa
end

section
namespace Go.Proofs.Ytbdnelijfbnfnaa
open Go.ChangeShapes Go.WideShapes Go.ChangeAt Go.RowKit
set_option linter.unusedVariables false

def words6 : List ByteArray := [⟨#[]⟩, ⟨#[100, 117]⟩, ⟨#[117]⟩, ⟨#[120]⟩, ⟨#[117, 117, 117, 117, 117, 117, 117, 117, 117, 100, 100, 100, 100, 100, 100, 100, 100, 100]⟩, ⟨#[117, 117, 117, 117, 117, 117, 117, 117, 100, 100, 100, 100, 100, 100, 100, 100]⟩]
/-- The two words of the list that are longer. -/
def word9 : ByteArray := ⟨#[117, 117, 117, 117, 117, 117, 117, 117, 117, 100, 100, 100, 100, 100, 100, 100, 100, 100]⟩
def word8 : ByteArray := ⟨#[117, 117, 117, 117, 117, 117, 117, 117, 100, 100, 100, 100, 100, 100, 100, 100]⟩
/-- What is drawn: a word of at most 13 letters, or one of the two. -/
def Word (s : ByteArray) : Prop := s.size ≤ 13 ∨ s = word9 ∨ s = word8
theorem Word.size {s : ByteArray} (h : Word s) : s.size ≤ 18 := by
  rcases h with h | rfl | rfl
  · omega
  · decide
  · decide
theorem words6_in : ∀ z ∈ words6, Word z := by
  intro z hz
  simp only [words6, List.mem_cons, List.not_mem_nil, or_false] at hz
  rcases hz with rfl | rfl | rfl | rfl | rfl | rfl
  · exact .inl (by decide)
  · exact .inl (by decide)
  · exact .inl (by decide)
  · exact .inl (by decide)
  · exact .inr (.inl rfl)
  · exact .inr (.inr rfl)

set_option maxRecDepth 100000 in
set_option maxHeartbeats 3200000 in
theorem any_any (B K : Nat) (A : Option Addr) (n cap : Nat) (w : World) (hc : Code w K A n) (hK : K ≤ B) (hcur : Cur w B A n cap) :
    Calls Try.prog 35 #[.pointer (some ⟨B, 0, none⟩)] w (DrewS Word B A n cap w) := by
  have HC := Lib.hid hc
  have HU := Lib.hid hcur
  have hBlt := hcur.lt
  clear hc hcur
  go_enter Try.func35, Try.ntmps35
  go_wp2_with fail
  (with_reducible refine (path_any B K A n cap _ HC.out hK HU.out).mono ?_)
  rintro e w1 ⟨t, ht, rfl, hcur, hg⟩
  have HU1 := Lib.hid hcur
  have HG1 := Lib.hid hg
  have HC1 := Lib.hid (HC.out.keep (fun b hb => hg.block b (by omega) (by simp; omega)))
  have z1 := hg.size
  clear hcur hg
  go_wp2_with fail
  (with_reducible refine (below_any B K A n cap 12 _ HC1.out hK HU1.out (by omega) (by omega)).mono ?_)
  rintro e w2 ⟨r, hr, rfl, hcur, hg⟩
  have HU2 := Lib.hid hcur
  have HG2 := Lib.hid (grown_trans HG1.out hg)
  have HC2 := Lib.hid (HC1.out.keep (fun b hb => hg.block b (by omega) (by simp; omega)))
  have z2 := hg.size
  clear hcur hg
  obtain ⟨r0, r12⟩ := hr
  by_cases e0 : r = 0
  · subst e0
    go_wp2_with fail
    (with_reducible refine (spoil_any B K A n cap t _ HC2.out hK HU2.out (by omega)).mono ?_)
    rintro e w3 ⟨t2, ht2, rfl, hcur, hg⟩
    have HU3 := Lib.hid hcur
    have HG3 := Lib.hid (grown_trans HG2.out hg)
    clear hcur hg
    go_wp2
    go_ret
    exact ⟨t2, .inl (by omega), rfl, HU3.out, HG3.out⟩
  · have b0 : (r == 0) = false := by simp [e0]
    by_cases e1 : r = 1
    · subst e1
      go_wp2_with fail
      (with_reducible refine (pickS_any Word 6 B K w2.heap.size A n cap _ (HC2.out.keep (fun b hb => Below.heap_alloc w2 _ b (by omega))) hK (HU2.out.keep (Below.heap_alloc w2 _ B (by omega))) (by omega) (by simp) (by omega) (by omega) ?hl).mono ?_)
      case hl => exact strs_cells Word w2 words6 words6_in
      rintro e w3 ⟨t2, ht2, rfl, hcur, hg⟩
      have HU3 := Lib.hid hcur
      have HG3 := Lib.hid (grown_trans (grown_alloc HG2.out _) hg)
      clear hcur hg
      go_wp2
      go_ret
      exact ⟨t2, ht2, rfl, HU3.out, HG3.out⟩
    · have b1 : (r == 1) = false := by simp [e1]
      go_wp2
      go_ret
      exact ⟨t, .inl (by omega), rfl, HU2.out, HG2.out⟩

theorem below_alloc' (w : World) (o : Obj) : Below w.heap.size w (w.alloc o) := (Below.refl _ w).alloc (Nat.le_refl _) o
def DrawsW (w : World) (e : Ending) (w' : World) : Prop := ∃ s : ByteArray, Word s ∧ e = .returned (.string s) ∧ Below w.heap.size w w'
def DrawsWW (w : World) (e : Ending) (w' : World) : Prop := ∃ s t : ByteArray, Word s ∧ Word t ∧ e = .returned (.tuple #[.string s, .string t]) ∧ Below w.heap.size w w'
def DrawsI (m : Nat) (w : World) (e : Ending) (w' : World) : Prop := ∃ (v : Value) (xs : List Int), xs.length ≤ m ∧ e = .returned v ∧ OwnI w' w.heap.size w'.heap.size v xs ∧ Below w.heap.size w w'
theorem OwnI.grown {w w' : World} {lo hi B : Nat} {v : Value} {xs : List Int} (h : OwnI w lo hi v xs) (hg : w.grownBy w' (some B)) (hB : B < lo) (hh : hi ≤ w.heap.size) : OwnI w' lo hi v xs := by
  obtain ⟨A, cap, e, h⟩ := h
  refine ⟨A, cap, e, ?_⟩
  rcases h with h | ⟨g, C, h1, h2, h3, h4, h5⟩
  · exact .inl h
  · exact .inr ⟨g, C, h1, h2, h3, (hg.block g (by omega) (by simp; omega)).trans h4, h5⟩

end Go.Proofs.Ytbdnelijfbnfnaa
end

section
namespace Go.Proofs.Ytbdnelijfbnfnaa
open Go.ChangeShapes Go.WideShapes Go.ChangeAt Go.RowKit
set_option linter.unusedVariables false

theorem stepOf_up (w : World) : Calls Try.prog 49 #[.int .i32 117] w fun e w' => e = .returned (.int .i64 1) ∧ w = w' := by
  go_enter Try.func49, Try.ntmps49
  go_wp2
  go_ret
  exact ⟨rfl, rfl⟩
theorem stepOf_down (w : World) : Calls Try.prog 49 #[.int .i32 100] w fun e w' => e = .returned (.int .i64 (-1)) ∧ w = w' := by
  go_enter Try.func49, Try.ntmps49
  go_wp2
  go_ret
  exact ⟨rfl, rfl⟩
theorem stepOf_other (c : Int) (h1 : (c == 117) = false) (h2 : (c == 100) = false) (w : World) : Calls Try.prog 49 #[.int .i32 c] w fun e w' => e = .returned (.int .i64 0) ∧ w = w' := by
  go_enter Try.func49, Try.ntmps49
  go_wp2
  go_ret
  exact ⟨rfl, rfl⟩

/-- The next letter of a range over a string, where it is an ASCII letter. -/
theorem next_letter {P : Program} (wr : World) (k : Nat) (s : ByteArray) (i : Nat) (c : Nat) (hk : wr.heap[k]? = some (.stringIter s i)) (h : i < s.size) (hc : s[i].toNat = c) (h7 : c < 128) (ty : TypeId) :
    (Instr.next (.pointer (some ⟨k, 0, none⟩)) true ty).run P wr = .ok (.tuple #[.bool true, .int .i64 i, .int .i32 c]) (wr.iterAt k s (i + 1)) := by
  rw [Lib.run_next_ascii_at wr k s i ty hk h (by omega), hc]
/-- A rune that is no letter of a path, at a byte that is none. -/
theorem next_other {P : Program} (wr : World) (k : Nat) (s : ByteArray) (i : Nat) (hk : wr.heap[k]? = some (.stringIter s i)) (h : i < s.size) (h1 : s[i].toNat ≠ 117) (h2 : s[i].toNat ≠ 100) :
    ∃ (c : Int) (j : Nat), (c == 117) = false ∧ (c == 100) = false ∧ ∀ ty, (Instr.next (.pointer (some ⟨k, 0, none⟩)) true ty).run P wr = .ok (.tuple #[.bool true, .int .i64 i, .int .i32 c]) (wr.iterAt k s j) := by
  by_cases ha : s[i].toNat < 128
  · exact ⟨(s[i].toNat : Int), i + 1, by simp; omega, by simp; omega, fun ty => Lib.run_next_ascii_at wr k s i ty hk h ha⟩
  · have hd := (decode_high s i h (by omega)).1
    exact ⟨((Utf8.decode s i).1 : Int), i + (Utf8.decode s i).2, by simp; omega, by simp; omega, fun ty => Lib.run_next_any_at wr k s i ty hk h⟩

set_option maxRecDepth 100000 in
set_option maxHeartbeats 1600000 in
theorem isDyckI (s : ByteArray) (w : World) : Calls Try.prog 33 #[.string s] w fun e w' => e = .returned (.bool (dyck s)) ∧ Below w.heap.size w w' := by
  by_cases h16 : 16 < s.size
  · have HL := Lib.hid (dyck_long h16)
    have h16' : (16 : Int) < (s.size : Int) := by omega
    go_enter Try.func33, Try.ntmps33
    go_wp2
    go_ret
    exact ⟨ret_bool HL.out.symm, Below.refl _ _⟩
  · have h16' : s.size ≤ 16 := by omega
    have HL := Lib.hid (dyck_short h16')
    go_enter Try.func33, Try.ntmps33
    go_wp2
    go_loopw [3] (fun x wr => ∃ (i h : Nat), i ≤ s.size ∧ h ≤ i ∧ x = .int .i64 h ∧ wr.heap[w.heap.size]? = some (.stringIter s i) ∧ Below w.heap.size w wr ∧ dyckFrom 0 s.data.toList = dyckFrom h (rest s i)) (fun _ wr => s.size - wr.iterPos w.heap.size)
    case atStart => exact ⟨0, 0, Nat.zero_le _, Nat.le_refl _, rfl, World.iter_heap w s 0, (Below.refl _ _).alloc (Nat.le_refl _) _, rfl⟩
    case round =>
      obtain ⟨i, h, hi, hh, rfl, hit, hb, hd⟩ := hrel
      have HD := Lib.hid hd
      have HIT := Lib.hid hit
      have HB := Lib.hid hb
      clear hd hb
      by_cases hlt : i < s.size
      · have HR := Lib.hid (rest_cons s i hlt)
        by_cases e1 : s[i].toNat = 117
        · have hnx := next_letter (P := Try.prog) wr _ s i 117 hit hlt e1 (by omega)
          have HE := Lib.hid e1
          clear hit e1
          go_wp2_with (go_at_call 49; refine (stepOf_up _).mono ?_; rintro e w' ⟨rfl, rfl⟩)
          go_roundw
          case rel => exact ⟨i + 1, h + 1, by omega, by omega, by simp, Lib.iterAt_heap _ _ _ _ _ HIT.out, Lib.below_iterAt HB.out (Nat.le_refl _) _ _, by rw [HD.out, HR.out, df_up _ _ _ HE.out]⟩
          case measure => simp only [World.iterPos, Lib.iterAt_heap _ _ _ _ _ HIT.out, HIT.out]; omega
        · by_cases e2 : s[i].toNat = 100
          · have hnx := next_letter (P := Try.prog) wr _ s i 100 hit hlt e2 (by omega)
            have HE := Lib.hid e2
            clear hit e1 e2
            rcases h with _ | h
            · go_wp2_with (go_at_call 49; refine (stepOf_down _).mono ?_; rintro e w' ⟨rfl, rfl⟩)
              go_ret
              refine ⟨ret_bool ?_, Lib.below_iterAt HB.out (Nat.le_refl _) _ _⟩
              rw [HL.out, HD.out, HR.out, df_below _ _ HE.out]
            · go_wp2_with (go_at_call 49; refine (stepOf_down _).mono ?_; rintro e w' ⟨rfl, rfl⟩)
              go_roundw
              case rel => exact ⟨i + 1, h, by omega, by omega, by simp; omega, Lib.iterAt_heap _ _ _ _ _ HIT.out, Lib.below_iterAt HB.out (Nat.le_refl _) _ _, by rw [HD.out, HR.out, df_down _ _ _ HE.out]⟩
              case measure => simp only [World.iterPos, Lib.iterAt_heap _ _ _ _ _ HIT.out, HIT.out]; omega
          · obtain ⟨c, j, c1, c2, hnx⟩ := next_other (P := Try.prog) wr _ s i hit hlt e1 e2
            have HE := Lib.hid (And.intro e1 e2)
            clear hit e1 e2
            go_wp2_with (go_at_call 49; refine (stepOf_other _ c1 c2 _).mono ?_; rintro e w' ⟨rfl, rfl⟩)
            go_ret
            refine ⟨ret_bool ?_, Lib.below_iterAt HB.out (Nat.le_refl _) _ _⟩
            rw [HL.out, HD.out, HR.out, df_other _ _ _ HE.out.1 HE.out.2]
      · have hnx := fun ty => Lib.run_next_end_at (P := Try.prog) wr _ s i ty hit hlt
        have HE := Lib.hid (rest_end s i (by omega))
        clear hit
        go_wp2
        go_ret
        refine ⟨ret_bool ?_, HB.out⟩
        rw [HL.out, HD.out, HE.out, df_nil]
        rw [Bool.eq_iff_iff, beq_iff_eq, beq_iff_eq]
        omega

theorem isDyckI_yes (s : ByteArray) (w : World) (h : dyck s = true) : Calls Try.prog 33 #[.string s] w fun e w' => e = .returned (.bool true) ∧ Below w.heap.size w w' := by
  have := isDyckI s w; rwa [h] at this
theorem isDyckI_no (s : ByteArray) (w : World) (h : dyck s = false) : Calls Try.prog 33 #[.string s] w fun e w' => e = .returned (.bool false) ∧ Below w.heap.size w w' := by
  have := isDyckI s w; rwa [h] at this

end Go.Proofs.Ytbdnelijfbnfnaa
end

section
namespace Go.Proofs.Ytbdnelijfbnfnaa
open Go.ChangeShapes Go.WideShapes Go.ChangeAt Go.RowKit
open Go.PlainAid (bt bt_nonneg bt_le get_bt)
set_option linter.unusedVariables false

/-- How many zeros. -/
def zeros : List Int → Nat
  | [] => 0
  | x :: l => (if x = 0 then 1 else 0) + zeros l
theorem zeros_snoc (l : List Int) (x : Int) : zeros (l ++ [x]) = zeros l + if x = 0 then 1 else 0 := by
  induction l with
  | nil => simp [zeros]
  | cons y l ih => simp only [List.cons_append, zeros, ih]; omega
theorem zeros_le (l : List Int) : zeros l ≤ l.length := by
  induction l with
  | nil => simp [zeros]
  | cons y l ih => simp only [zeros, List.length_cons]; split <;> omega
theorem take_int (xs : List Int) (i : Nat) (h : i < xs.length) : xs.take (i + 1) = xs.take i ++ [xs.getD i 0] := by
  rw [List.take_succ_eq_append_getElem h, List.getD_eq_getElem?_getD, List.getElem?_eq_getElem h]; rfl
def returnsP (s : ByteArray) : Int := (zeros (heightsP s) : Int) - 1

/-- The sum of the heights before the letters u. -/
def aL : List UInt8 → List Int → Int
  | c :: l, x :: xs => (if c.toNat = 117 then x else 0) + aL l xs
  | _, _ => 0
theorem aL_up (c : UInt8) (l : List UInt8) (x : Int) (xs : List Int) (e : c.toNat = 117) : aL (c :: l) (x :: xs) = x + aL l xs := by rw [aL, if_pos e]
theorem aL_down (c : UInt8) (l : List UInt8) (x : Int) (xs : List Int) (e : c.toNat ≠ 117) : aL (c :: l) (x :: xs) = aL l xs := by rw [aL, if_neg e]; omega
theorem aL_nil (xs : List Int) : aL [] xs = 0 := by cases xs <;> rfl
theorem drop_int (xs : List Int) (i : Nat) (h : i < xs.length) : xs.drop i = xs.getD i 0 :: xs.drop (i + 1) := by
  rw [List.drop_eq_getElem_cons h, List.getD_eq_getElem?_getD, List.getElem?_eq_getElem h]; rfl
theorem hsL_bd (h : Int) (l : List UInt8) : ∀ x ∈ hsL h l, h - l.length ≤ x ∧ x ≤ h + l.length := by
  induction l generalizing h with
  | nil => intro x hx; simp [hsL] at hx; subst hx; simp
  | cons c l ih =>
    intro x hx
    rw [hsL] at hx
    simp only [List.length_cons]
    rcases List.mem_cons.1 hx with rfl | hx
    · omega
    · have := ih _ x hx
      split at this <;> omega
theorem heightsP_bd (s : ByteArray) (i : Nat) (h : i < (heightsP s).length) : -16 ≤ (heightsP s).getD i 0 ∧ (heightsP s).getD i 0 ≤ 16 := by
  have hm : (heightsP s).getD i 0 ∈ heightsP s := by
    rw [List.getD_eq_getElem?_getD, List.getElem?_eq_getElem h]; exact List.getElem_mem _
  unfold heightsP at hm ⊢
  split at hm
  · rename_i hd
    rw [if_pos hd]
    have h1 := hsL_bd 0 s.data.toList _ hm
    have h2 := dyck_size hd
    have h3 : s.data.toList.length = s.size := by simp
    omega
  · simp at hm
def areaP (s : ByteArray) : Int := if dyck s = true then aL s.data.toList (hsL 0 s.data.toList) else -1

end Go.Proofs.Ytbdnelijfbnfnaa
end
