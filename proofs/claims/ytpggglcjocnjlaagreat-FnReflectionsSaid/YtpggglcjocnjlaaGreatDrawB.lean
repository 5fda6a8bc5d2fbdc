/- The contracts of the drawing functions for numbers and texts. -/
import Derived.Test.YtpggglcjocnjlaaGreatDrawA
import Derived.OwnWalk
namespace Go.Proofs.YtpggglcjocnjlaaGreat
open Go.ChangeShapes Go.WideShapes Go.ChangeAt Go.RowKit
set_option linter.unusedVariables false

theorem info5 : (Tryz.prog.info? 5).map (fun i => (i.zero, i.size, i.bytes)) = some (some (.int .u8 0), 1, 1) := by kernel_rfl
/-- The string of a row of bytes that the call owns. -/
theorem conv_own {w : World} {base : Nat} {v : Value} {n : Nat} {xs : List Int} (h : w.ownsRow base 5 1 v n (xs.map (Value.int .u8))) :
    (convert 22 9 v).run Tryz.prog w = .ok (.string (strOfNums xs)) w := by
  have hl : xs.length = n := by have := h.1; simpa using this
  rcases h.2 with ⟨rfl, rfl⟩ | ⟨g, cap, cur, rfl, hb, hh, hnc, hcm, hcur, htake⟩
  · obtain rfl := List.eq_nil_of_length_eq_zero hl
    rw [run_convert_bytes_nil w 22 5 Tryz.underlying22 Tryz.underlying5 0 0 9 Tryz.underlying9]
    rfl
  · refine run_convert_bytes_arg w 22 5 Tryz.underlying22 Tryz.underlying5 g 0 n cap xs hl (fun i hi => ?_) 9 Tryz.underlying9
    have := h.cells (g := g) rfl i (.int .u8 (xs.getD i 0)) (by simp [List.getD, show i < xs.length by omega])
    rw [Addr.add_lit] at this
    simpa using this
/-- One byte appended to a row of bytes that the call owns. -/
theorem wpApp1 {w : World} {ops : Array Oper} {rest : List Oper} {o : Oper} {a : Act} {Q : Exit → Act → World → Prop} (hgd : o.guard = none) (s x : Operand)
    (ho : o.op = .call { callee := .builtin .append, args := #[s, x], argTypes := #[22, 22] })
    (base : Nat) (v : Value) (n : Nat) (xs : List Int) (hs : a.eval s = v) (hown : w.ownsRow base 5 1 v n (xs.map (Value.int .u8)))
    (b : Nat) (c : Nat) (y : Int) (hx : a.eval x = .slice (some ⟨b, 0, none⟩) 1 c) (hcell : w.cell? ⟨b, 0, none⟩ = some (.int .u8 y))
    (hn : n ≤ 140737488351232) (hbase : base ≤ w.heap.size)
    (h : ∀ v' w', w'.ownsRow base 5 1 v' (n + 1) ((xs ++ [y]).map (Value.int .u8)) → w.grownBy w' v.ownBlock → wpList Tryz.prog ops Q rest (a.put o.dst v') w') : wpList Tryz.prog ops Q (o :: rest) a w := by
  obtain ⟨i0, hi, hz0, hz1, hz2⟩ := info_parts info5
  refine wpList_append_own _ hgd s x 22 ho base 5 i0 (.int .u8 0) 1 1 Tryz.underlying22 hi hz0 hz1 hz2 rfl (by decide) v n _ hs hown ⟨b, 0, none⟩ 1 c [.int .u8 y] hx rfl ?_ ?_ (by unfold maxLen; omega) (by omega) hbase ?_
  · intro j u hj
    match j, hj with
    | 0, hj => simp at hj; subst hj; simpa [Addr.add] using hcell
  · intro u hu; simp at hu; subst hu; rfl
  · intro v' w' h1 h2 _
    exact h v' w' (by simpa using h1) h2
theorem base_ok {B : Nat} {wr : World} {o : Obj} (hb : B ≤ wr.heap.size) : B ≤ (wr.alloc o).heap.size := by simp; omega
/-- New rows, and writes into rows of the call's own, leave the frame 'block B alone has changed'. -/
theorem grown_own {a b c : World} {B : Nat} {r : Option Nat} (h : a.grownBy b (some B)) (k : b.grownBy c r) (hr : ∀ g, r = some g → a.heap.size ≤ g) : a.grownBy c (some B) :=
  ⟨k.os.trans h.os, k.tape.trans h.tape, k.output.trans h.output, Nat.le_trans h.size k.size, fun i hi hne => (k.block i (Nat.lt_of_lt_of_le hi h.size) (fun e => by have := hr i e.symm; omega)).trans (h.block i hi hne)⟩
theorem grown_alloc {a b : World} {B : Nat} (h : a.grownBy b (some B)) (o : Obj) : a.grownBy (b.alloc o) (some B) := grown_own h (World.grownBy_alloc b o none) (fun g hg => by cases hg)

def InR (y : Int) : Prop := -9223372036854775808 ≤ y ∧ y ≤ 9223372036854775807

def DrewS (P : ByteArray → Prop) (B : Nat) (A : Option Addr) (n cap : Nat) (w : World) (e : Ending) (w' : World) : Prop :=
  ∃ s : ByteArray, P s ∧ e = .returned (.string s) ∧ Cur w' B A n cap ∧ w.grownBy w' (some B)
theorem ints_cells (P : Int → Prop) (w : World) (zs : List Int) (h : ∀ z ∈ zs, P z) : ∀ j, j < zs.length → ∃ v, (w.alloc (.cells (zs.map (Value.int .i64)).toArray 3)).cell? ⟨w.heap.size, j, none⟩ = some (.int .i64 v) ∧ P v := by
  intro j hj
  refine ⟨zs[j], ?_, h _ (List.getElem_mem _)⟩
  rw [World.cell?_alloc_at _ _ _ _ rfl]
  simp [hj]
theorem strs_cells (P : ByteArray → Prop) (w : World) (zs : List ByteArray) (h : ∀ z ∈ zs, P z) : ∀ j, j < zs.length → ∃ v, (w.alloc (.cells (zs.map Value.string).toArray 9)).cell? ⟨w.heap.size, j, none⟩ = some (.string v) ∧ P v := by
  intro j hj
  refine ⟨zs[j], ?_, h _ (List.getElem_mem _)⟩
  rw [World.cell?_alloc_at _ _ _ _ rfl]
  simp [hj]

theorem own_far {w : World} {base : Nat} {v : Value} {n : Nat} {xs : List Value} (h : w.ownsRow base 5 1 v n xs) {b : Nat} (hb : b < base) : some b ≠ v.ownBlock := fun e => by
  have := (h.lt b e.symm).1
  omega
/-- Where the function hands a string back: at most m bytes; the cursor's block alone has changed. -/
def DrewStr (m : Nat) (B : Nat) (A : Option Addr) (n cap : Nat) (w : World) (e : Ending) (w' : World) : Prop :=
  ∃ s : ByteArray, s.size ≤ m ∧ e = .returned (.string s) ∧ Cur w' B A n cap ∧ w.grownBy w' (some B)

set_option maxRecDepth 100000 in
set_option maxHeartbeats 3200000 in
theorem text_any (B K : Nat) (A : Option Addr) (n cap : Nat) (m : Nat) (w : World) (hc : Code w K A n) (hK : K ≤ B) (hcur : Cur w B A n cap) (hm : m ≤ 1000000) :
    Calls Tryz.prog 67 #[.pointer (some ⟨B, 0, none⟩), .int .i64 m] w (DrewStr m B A n cap w) := by
  have HC := Lib.hid hc
  have HU := Lib.hid hcur
  have hBlt := hcur.lt
  clear hc hcur
  go_enter Tryz.func67, Tryz.ntmps67
  go_wp2_with fail
  (with_reducible refine (below_any B K A n cap 4 _ (HC.out.keep (fun b hb => Below.heap_alloc w _ b (by omega))) hK (HU.out.keep (Below.heap_alloc w _ B hBlt)) (by omega) (by omega)).mono ?_)
  rintro e w1 ⟨r, hr, rfl, hcur, hg⟩
  have HU1 := Lib.hid hcur
  have HG1 := Lib.hid (grown_trans (grown_alloc (World.grownBy.refl w (some B)) _) hg)
  have HC1 := Lib.hid (HC.out.keep (fun b hb => (hg.block b (by simp; omega) (by simp; omega)).trans (Below.heap_alloc w _ b (by omega))))
  have HO1 := Lib.hid (World.ownsRow.kept (World.ownsRow_made (e := 5) (size := 1) w #[] 0 (Nat.le_refl _) (Nat.zero_le _) (by simp)) hg (.inr (by simp [Value.ownBlock]; omega)))
  obtain ⟨r0, r4⟩ := hr
  clear hcur hg
  go_wp2_with fail
  (with_reducible refine (below_any B K A n cap ((m : Int) + 1) _ HC1.out hK HU1.out (by omega) (by omega)).mono ?_)
  rintro e w2 ⟨t, ht, rfl, hcur, hg⟩
  have HU2 := Lib.hid hcur
  have HG2 := Lib.hid (grown_trans HG1.out hg)
  have HC2 := Lib.hid (HC1.out.keep (fun b hb => hg.block b (by have := HG1.out.size; omega) (by simp; omega)))
  have HO2 := Lib.hid (World.ownsRow.kept HO1.out hg (.inr (by simp [Value.ownBlock]; omega)))
  obtain ⟨t0, tm⟩ := ht
  clear hcur hg
  go_wp2
  go_loopw [5, 7] (fun v x wr => ∃ (k : Nat) (l : List Int), x = .int .i64 k ∧ l.length + k ≤ m ∧ wr.ownsRow w.heap.size 5 1 v l.length (l.map (Value.int .u8)) ∧ Code wr K A n ∧ Cur wr B A n cap ∧ w.grownBy wr (some B))
    (fun _ x _ => (intOf x).toNat)
  case atStart =>
    obtain ⟨k, rfl⟩ : ∃ k : Nat, t = k := ⟨t.toNat, by omega⟩
    exact ⟨k, [], rfl, by simp; omega, HO2.out, HC2.out, HU2.out, HG2.out⟩
  case round =>
    obtain ⟨k, l, rfl, hl, hown, hc, hu, hg0⟩ := hrel
    have HCr := Lib.hid hc
    have HUr := Lib.hid hu
    have HOr := Lib.hid hown
    have HGr := Lib.hid hg0
    have hsz := hg0.size
    clear hc hu hown hg0
    by_cases hk : 0 < k
    · go_wp2_with fail
      (with_reducible refine (byte_any B K A n cap _ HCr.out hK HUr.out).mono ?_)
      rintro e w3 ⟨y, hy, rfl, hcur, hg⟩
      have hown := World.ownsRow.kept HOr.out hg (by
        rcases hv : u5.ownBlock with _ | g
        · exact .inl rfl
        · have := (HOr.out.lt g hv).1
          exact .inr (by simp; omega))
      have HU3 := Lib.hid hcur
      have HG3 := Lib.hid (grown_trans HGr.out hg)
      have HC3 := Lib.hid (HCr.out.keep (fun b hb => hg.block b (by omega) (by simp; omega)))
      have hsz3 := hg.size
      obtain ⟨y0, y255⟩ := hy
      clear hcur hg
      by_cases e1 : r = 1
      · subst e1
        obtain ⟨q, hq, q0, q1⟩ : ∃ q : Int, y % 2 = q ∧ 0 ≤ q ∧ q ≤ 255 := ⟨_, rfl, by omega, by omega⟩
        have hq2 : y.tmod 2 = q := by rw [IntWalk.rem_in _ _ y0]; exact hq
        go_wp2_with (at_builtin; go_must (refine wpApp1 rfl _ _ rfl w.heap.size u5 _ _ rfl (hown.alloc _) w3.heap.size _ _ rfl (cell_new1 _ _ _) (by omega) (base_ok (by omega)) ?_); intro v' w' hown' hg')
        go_roundw
        case rel =>
          refine ⟨k - 1, l ++ [q], by congr 1; omega, ?_, by simpa using hown', HC3.out.keep ?_, HU3.out.keep ?_, grown_own (grown_alloc HG3.out _) hg' (fun g hg => (hown.lt g hg).1)⟩
          · simp only [List.length_append, List.length_cons, List.length_nil]; omega
          · intro b hb
            exact (hg'.block b (by simp; omega) (own_far hown (by omega))).trans (Below.heap_alloc w3 _ b (by omega))
          · exact (hg'.block B (by simp; omega) (own_far hown (by omega))).trans (Below.heap_alloc w3 _ B (by omega))
        case measure => simp [intOf]; omega
      · have b1 : (r == 1) = false := by simp [e1]
        by_cases e2 : r = 2
        · subst e2
          clear e1
          obtain ⟨q, hq, q0, q1⟩ : ∃ q : Int, y % 4 = q ∧ 0 ≤ q ∧ q ≤ 3 := ⟨_, rfl, by omega, by omega⟩
          have hq2 : y.tmod 4 = q := by rw [IntWalk.rem_in _ _ y0]; exact hq
          go_wp2_with (at_builtin; go_must (refine wpApp1 rfl _ _ rfl w.heap.size u5 _ _ rfl (hown.alloc _) w3.heap.size _ _ rfl (cell_new1 _ _ _) (by omega) (base_ok (by omega)) ?_); intro v' w' hown' hg')
          go_roundw
          case rel =>
            refine ⟨k - 1, l ++ [97 + q], by congr 1; omega, ?_, by simpa using hown', HC3.out.keep ?_, HU3.out.keep ?_, grown_own (grown_alloc HG3.out _) hg' (fun g hg => (hown.lt g hg).1)⟩
            · simp only [List.length_append, List.length_cons, List.length_nil]; omega
            · intro b hb
              exact (hg'.block b (by simp; omega) (own_far hown (by omega))).trans (Below.heap_alloc w3 _ b (by omega))
            · exact (hg'.block B (by simp; omega) (own_far hown (by omega))).trans (Below.heap_alloc w3 _ B (by omega))
          case measure => simp [intOf]; omega
        · have b2 : (r == 2) = false := by simp [e2]
          clear e1 e2
          go_wp2_with (at_builtin; go_must (refine wpApp1 rfl _ _ rfl w.heap.size u5 _ _ rfl (hown.alloc _) w3.heap.size _ _ rfl (cell_new1 _ _ _) (by omega) (base_ok (by omega)) ?_); intro v' w' hown' hg')
          go_roundw
          case rel =>
            refine ⟨k - 1, l ++ [y], by congr 1; omega, ?_, by simpa using hown', HC3.out.keep ?_, HU3.out.keep ?_, grown_own (grown_alloc HG3.out _) hg' (fun g hg => (hown.lt g hg).1)⟩
            · simp only [List.length_append, List.length_cons, List.length_nil]; omega
            · intro b hb
              exact (hg'.block b (by simp; omega) (own_far hown (by omega))).trans (Below.heap_alloc w3 _ b (by omega))
            · exact (hg'.block B (by simp; omega) (own_far hown (by omega))).trans (Below.heap_alloc w3 _ B (by omega))
          case measure => simp [intOf]; omega
    · obtain rfl : k = 0 := by omega
      have hconv := conv_own HOr.out
      go_wp2
      (try simp only [hconv])
      (try go_wp2)
      go_ret
      exact ⟨_, by rw [strOfNums_size]; omega, rfl, HUr.out, HGr.out⟩

theorem text_is (B K : Nat) (A : Option Addr) (n cap : Nat) (m : Nat) (x : Int) (hx : x = m) (w : World) (hc : Code w K A n) (hK : K ≤ B) (hcur : Cur w B A n cap) (hm : m ≤ 1000000) :
    Calls Tryz.prog 67 #[.pointer (some ⟨B, 0, none⟩), .int .i64 x] w (DrewStr m B A n cap w) := by
  subst hx; exact text_any B K A n cap m w hc hK hcur hm

/-- What a drawing function over the code answers: a number with P; nothing that was there has changed. -/
def DrawsNum (P : Int → Prop) (w : World) (e : Ending) (w' : World) : Prop := ∃ y : Int, P y ∧ e = .returned (.int .i64 y) ∧ Below w.heap.size w w'
def DrawsTwo (P Q : Int → Prop) (w : World) (e : Ending) (w' : World) : Prop := ∃ y z : Int, P y ∧ Q z ∧ e = .returned (.tuple #[.int .i64 y, .int .i64 z]) ∧ Below w.heap.size w w'
def DrawsStr (m : Nat) (w : World) (e : Ending) (w' : World) : Prop := ∃ s : ByteArray, s.size ≤ m ∧ e = .returned (.string s) ∧ Below w.heap.size w w'
theorem below_of_grown {a b c : World} {B : Nat} (h : Below a.heap.size a b) (k : b.grownBy c (some B)) (hB : a.heap.size ≤ B) : Below a.heap.size a c :=
  h.grown k h.size (fun g hg => by cases hg; exact hB)

theorem bigC (A : Option Addr) (n cap : Nat) (w : World) : Calls Tryz.prog 4 #[.slice A n cap] w fun e w' => e = .returned (.bool (decide (1048576 < n))) ∧ w = w' := by
  go_enter Tryz.func4, Tryz.ntmps4
  go_wp2
  go_ret
  exact ⟨by simp; omega, rfl⟩

end Go.Proofs.YtpggglcjocnjlaaGreat
