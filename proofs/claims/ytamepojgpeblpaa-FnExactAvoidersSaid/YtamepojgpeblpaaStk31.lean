/- The program's stack of ints: push, pop, popWhile. -/
import Derived.Test.YtamepojgpeblpaaTwo31
import Derived.BigQuiet
namespace Go.Proofs.Ytamepojgpeblpaa
open Go.ChangeShapes Go.WideShapes Go.ChangeAt Go.RowKit
set_option linter.unusedVariables false

/-- A box that holds a stack: a row of ints that the call owns. -/
structure St (w : World) (B b : Nat) (v : Value) (l : List Int) : Prop where
  cell : w.cell? ⟨b, 0, none⟩ = some v
  free : w.frozen? ⟨b, 0, none⟩ = false
  lt : b < w.heap.size
  row : RowN w B v l
  apart : v.ownBlock ≠ some b
/-- What a call that works on a stack may have changed: its box and its row. -/
structure Kx (b : Nat) (o : Option Nat) (w w' : World) : Prop where
  below : Below 0 w w'
  block : ∀ i, i < w.heap.size → i ≠ b → o ≠ some i → w'.heap[i]? = w.heap[i]?
theorem Kx.refl (b : Nat) (o : Option Nat) (w : World) : Kx b o w w := ⟨Below.refl _ _, fun _ _ _ _ => rfl⟩
theorem Kx.trans {b : Nat} {o o' : Option Nat} {w w' w'' : World} (h : Kx b o w w') (k : Kx b o' w' w'') (ho : o' = o ∨ ∃ j, o' = some j ∧ w.heap.size ≤ j) : Kx b o w w'' :=
  ⟨h.below.trans k.below, fun i hi hb hn => (k.block i (Nat.lt_of_lt_of_le hi h.below.size) hb (by
    rcases ho with ho | ⟨j, ho, hj⟩
    · rw [ho]; exact hn
    · rw [ho]; intro e; simp only [Option.some.injEq] at e; omega)).trans (h.block i hi hb hn)⟩
theorem Kx.to {b B : Nat} {o : Option Nat} {w w' : World} (h : Kx b o w w') (hb : B ≤ b) (ho : ∀ k, o = some k → B ≤ k) (hB : B ≤ w.heap.size) : Below B w w' :=
  ⟨h.below.os, h.below.tape, h.below.output, h.below.size, fun i hi => h.block i (by omega) (by omega) (fun e => by have := ho i e; omega)⟩
theorem Kx.drewN {b : Nat} {o : Option Nat} {w w' : World} (h : Kx b o w w') (n : Nat) : Kx b o w (w'.drewN n) := ⟨below_drewN h.below n, h.block⟩
/-- Another row is kept. -/
theorem Kx.row {b : Nat} {w w' : World} {B : Nat} {u v : Value} {l : List Int} (h : Kx b v.ownBlock w w') (hu : RowN w B u l) (ha : Apt u v) (hb : u.ownBlock ≠ some b) : RowN w' B u l :=
  hu.keep fun g _ hlt e => h.block g hlt (fun e2 => hb (e2 ▸ e)) (ha g e)
theorem St.keep {w w' : World} {B b : Nat} {v : Value} {l : List Int} (h : St w B b v l) (hz : w.heap.size ≤ w'.heap.size) (hb : w'.heap[b]? = w.heap[b]?) (hk : ∀ g, v.ownBlock = some g → w'.heap[g]? = w.heap[g]?) : St w' B b v l :=
  ⟨(World.cell?_of_block (w := w) hb).trans h.cell, (World.frozen?_of_block (w := w) hb).trans h.free, Nat.lt_of_lt_of_le h.lt hz, h.row.keep fun g _ _ e => hk g e, h.apart⟩
theorem St.drewN {w : World} {B b : Nat} {v : Value} {l : List Int} (h : St w B b v l) (n : Nat) : St (w.drewN n) B b v l := ⟨h.cell, h.free, h.lt, h.row, h.apart⟩
theorem St.allocN {w : World} {B b : Nat} {v : Value} {l : List Int} (h : St w B b v l) (o : Obj) : St (w.alloc o) B b v l :=
  h.keep (by simp) (Below.heap_alloc _ _ _ h.lt) fun g e => Below.heap_alloc _ _ _ (World.ownsRow.lt h.row g e).2

/-- The new value lies in the box. -/
theorem St.put {w : World} {B b : Nat} {v' u : Value} {l : List Int} (hc : w.cell? ⟨b, 0, none⟩ = some u) (hf : w.frozen? ⟨b, 0, none⟩ = false) (hlt : b < w.heap.size) (hr : RowN w B v' l) (ha : v'.ownBlock ≠ some b) : St (w.setCell ⟨b, 0, none⟩ v') B b v' l :=
  ⟨by apply World.cell?_setCell_same; exact hc, by rw [World.frozen?_setCell]; exact hf, by simpa [World.setCell] using hlt, hr.other ha _, ha⟩
theorem push_end {w w' : World} {B b : Nat} {v v' u : Value} {l : List Int} {y : Int} {o : Obj} (h : St w B b v l) (hg : (w.alloc o).grownBy w' v.ownBlock) (hat : v'.ownBlock = v.ownBlock ∨ v'.ownBlock = some (w.alloc o).heap.size) (hr : RowN w' B v' (l ++ [y]))
    (hc : w'.cell? ⟨b, 0, none⟩ = some u) (hf : w'.frozen? ⟨b, 0, none⟩ = false) :
    ∃ v'', St (w'.setCell ⟨b, 0, none⟩ v') B b v'' (l ++ [y]) ∧ (v''.ownBlock = v.ownBlock ∨ ∃ k, v''.ownBlock = some k ∧ w.heap.size ≤ k) ∧ Kx b v.ownBlock w (w'.setCell ⟨b, 0, none⟩ v') := by
  have hz := hg.size
  simp only [World.size_alloc] at hz
  have hb := h.lt
  refine ⟨v', St.put hc hf (by omega) hr ?_, ?_, ?_, ?_⟩
  · rcases hat with e | e
    · rw [e]; exact h.apart
    · rw [e]; intro e2; simp at e2; omega
  · rcases hat with e | e
    · exact .inl e
    · exact .inr ⟨_, e, by simp⟩
  · exact ⟨hg.os, hg.tape, hg.output, by simp [World.setCell]; omega, fun k hk => absurd hk (Nat.not_lt_zero _)⟩
  · intro i hi hne hn
    rw [Below.heap_setCell _ _ _ _ (show i ≠ b from hne)]
    exact (hg.block i (by simp; omega) (fun e => hn e.symm)).trans (Below.heap_alloc _ _ _ hi)

theorem wpAppStk {w : World} {ops : Array Oper} {rest : List Oper} {o : Oper} {a : Act} {Q : Exit → Act → World → Prop} (hgd : o.guard = none) (s x : Operand)
    (ho : o.op = .call { callee := .builtin .append, args := #[s, x], argTypes := #[42, 42] })
    (base : Nat) (v : Value) (n : Nat) (xs : List Int) (hs : a.eval s = v) (hown : w.ownsRow base 3 1 v n (xs.map (Value.int .i64)))
    (b : Nat) (c : Nat) (y : Int) (hx : a.eval x = .slice (some ⟨b, 0, none⟩) 1 c) (hcell : w.cell? ⟨b, 0, none⟩ = some (.int .i64 y))
    (hn : n ≤ 1099511627776) (hbase : base ≤ w.heap.size)
    (h : ∀ v' w', w'.ownsRow base 3 1 v' (n + 1) ((xs ++ [y]).map (Value.int .i64)) → w.grownBy w' v.ownBlock → (v'.ownBlock = v.ownBlock ∨ v'.ownBlock = some w.heap.size) → wpList Try.prog ops Q rest (a.put o.dst v') w') : wpList Try.prog ops Q (o :: rest) a w := by
  obtain ⟨i0, hi, hz0, hz1, hz2⟩ := info_parts info3
  refine wpList_append_own_at _ hgd s x 42 ho base 3 i0 (.int .i64 0) 1 8 Try.underlying42 hi hz0 hz1 hz2 rfl (by decide) v n _ hs hown ⟨b, 0, none⟩ 1 c [.int .i64 y] hx rfl ?_ ?_ (by unfold maxLen; omega) (by omega) hbase ?_
  · intro j u hj
    match j, hj with
    | 0, hj => simp at hj; subst hj; simpa [Addr.add] using hcell
  · intro u hu; simp at hu; subst hu; rfl
  · intro v' w' h1 h2 _ h3
    exact h v' w' (by simpa using h1) h2 h3

set_option maxRecDepth 100000 in
set_option maxHeartbeats 1600000 in
theorem pushI (b B : Nat) (v : Value) (l : List Int) (y : Int) (w : World) (h : St w B b v l) (hl : l.length ≤ 1048576) (hB : B ≤ w.heap.size) :
    Calls Try.prog 48 #[.pointer (some ⟨b, 0, none⟩), .int .i64 y] w fun e w' => e = .returned (.tuple #[]) ∧ ∃ v', St w' B b v' (l ++ [y]) ∧ (v'.ownBlock = v.ownBlock ∨ ∃ k, v'.ownBlock = some k ∧ w.heap.size ≤ k) ∧ Kx b v.ownBlock w w' := by
  have HS := Lib.hid h
  have hc := h.cell
  have hf := h.free
  have hlt := h.lt
  clear h
  go_enter Try.func48, Try.ntmps48
  go_wp2_with (at_builtin; go_must (refine wpAppStk rfl _ _ rfl B v _ l rfl (HS.out.row.allocN _) _ _ y rfl (cell_one w _ _) (by omega) (by simp; omega) ?_); intro v' w' hown' hg' hat'; go_must (have HROW := Lib.hid (RowN.of_app hown'); have hat2 := Lib.hid hat'); go_must (have hc' : w'.cell? ⟨b, 0, none⟩ = some v := (hg'.cell_far _ (show b < (w.alloc (Obj.cells #[Value.int IntKind.i64 y] 3)).heap.size by simp; omega) (fun e => HS.out.apart e.symm)).trans ((Below.cell (B := w.heap.size) ((Below.refl _ w).alloc (Nat.le_refl _) _) hlt).trans hc)); go_must (have hf' : w'.frozen? ⟨b, 0, none⟩ = false := (hg'.frozen_far _ (show b < (w.alloc (Obj.cells #[Value.int IntKind.i64 y] 3)).heap.size by simp; omega) (fun e => HS.out.apart e.symm)).trans ((Below.frozen (B := w.heap.size) ((Below.refl _ w).alloc (Nat.le_refl _) _) hlt).trans hf)); go_must (obtain ⟨A5, c5, e5, hA5⟩ := HROW.out.form; obtain ⟨g5, e6, hg5⟩ := hA5 (by simp); subst e6; subst e5; clear hA5; generalize (l ++ [y]).length = m5 at *))
  go_end0
  exact ⟨rfl, push_end HS.out hg' hat2.out HROW.out hc' hf'⟩

set_option maxRecDepth 100000 in
set_option maxHeartbeats 1600000 in
theorem popI (b B : Nat) (v : Value) (l : List Int) (z : Int) (w : World) (h : St w B b v l) (h0 : 0 < l.length) (hz : l.getD (l.length - 1) 0 = z) (hl : l.length ≤ 1048576) :
    Calls Try.prog 66 #[.pointer (some ⟨b, 0, none⟩)] w fun e w' => e = .returned (.int .i64 z) ∧ ∃ v', St w' B b v' l.dropLast ∧ v'.ownBlock = v.ownBlock ∧ Kx b none w w' := by
  have HS := Lib.hid h
  have hc := h.cell
  have hf := h.free
  obtain ⟨A2, cap, e2, hA⟩ := h.row.form
  subst e2
  obtain ⟨g2, rfl, hg2, hg3, hcp⟩ := hA h0
  obtain ⟨hc2, hf2⟩ := h.row.cell (j := l.length - 1) (by omega)
  rw [hz] at hc2
  have HCUT := Lib.hid h.row.cut
  have hne : g2 ≠ b := fun e => h.apart (by simp [Value.ownBlock, e])
  clear h hA
  generalize hT : l.dropLast = T at *
  have HTT := Lib.hid hT
  clear hT hz
  generalize hL : l.length = L at *
  have HLL := Lib.hid hL
  clear hL
  obtain ⟨m, hm⟩ : ∃ m, L = m + 1 := ⟨L - 1, by omega⟩
  subst hm
  have hli : ((m + 1 : Nat) : Int) - 1 = (m : Int) := by omega
  have hlL : (m : Int) < ((m + 1 : Nat) : Int) := by omega
  have hlc : (m : Int) ≤ (cap : Int) := by omega
  rw [show m + 1 - 1 = m from rfl] at hc2 hf2 HCUT
  go_enter Try.func66, Try.ntmps66
  go_wp2
  go_ret
  refine ⟨rfl, _, St.put HS.out.cell HS.out.free HS.out.lt HCUT.out (by simp [Value.ownBlock]; exact hne), rfl, ⟨(Below.refl _ _).setCell (Nat.zero_le _) _, fun i _ hn _ => Below.heap_setCell _ _ _ _ hn⟩⟩

end Go.Proofs.Ytamepojgpeblpaa
