/- The contracts of the drawing functions over a cursor (a byte, a number below a bound): what they answer lies within its bounds; they write into the cursor alone. -/
import Derived.Test.YtpggglcjocnjlaaGreatInts
import Derived.Laws.BytesArg
import Derived.IntWalk
import Derived.Outline
import Derived.Deep.QuietTactic
import Derived.BigQuiet
import Derived.WalkSmall
import Derived.Deep.DeepMust
namespace Go.Proofs.YtpggglcjocnjlaaGreat
open Go.ChangeShapes Go.WideShapes Go.ChangeAt Go.RowKit
set_option linter.unusedVariables false

theorem cell_new1 (w : World) (x : Value) (t : TypeId) : (w.alloc (.cells #[x] t)).cell? ⟨w.heap.size, 0, none⟩ = some x := by
  rw [World.cell?_alloc_at _ _ _ _ rfl]; rfl
theorem and_bd (x m : Int) (h0 : 0 ≤ m) (h1 : m ≤ 9223372036854775807) : 0 ≤ bits .and .i64 x m ∧ bits .and .i64 x m ≤ m := by
  obtain ⟨n, rfl⟩ := Int.eq_ofNat_of_zero_le h0
  have hb : ((BitVec.ofInt 64 x &&& BitVec.ofInt 64 (n : Int)).toNat) ≤ n := by
    rw [BitVec.toNat_and]
    refine Nat.le_trans (Nat.and_le_right) ?_
    rw [BitVec.ofInt_natCast, BitVec.toNat_ofNat]
    exact Nat.mod_le _ _
  have e : bits .and .i64 x (n : Int) = IntKind.i64.wrap (((BitVec.ofInt 64 x &&& BitVec.ofInt 64 (n : Int)).toNat : Nat) : Int) := rfl
  rw [e, IntWalk.i64_in _ (by omega)]
  omega

/-- The bytes of the code: the first n of them lie behind one address, in a block below K. -/
def Code (w : World) (K : Nat) (A : Option Addr) (n : Nat) : Prop :=
  n ≤ 1048576 ∧ ∀ j, j < n → ∃ b off z, A = some ⟨b, off, none⟩ ∧ b < K ∧ w.cell? ⟨b, off + j, none⟩ = some (.int .u8 z) ∧ 0 ≤ z ∧ z ≤ 255
theorem Code.keep {w w' : World} {K : Nat} {A : Option Addr} {n : Nat} (h : Code w K A n) (hk : ∀ b, b < K → w'.heap[b]? = w.heap[b]?) : Code w' K A n :=
  ⟨h.1, fun j hj => by
    obtain ⟨b, off, z, h1, h2, h3, h4⟩ := h.2 j hj
    exact ⟨b, off, z, h1, h2, (World.cell?_of_block (hk b h2)).trans h3, h4⟩⟩
/-- Block B is a cursor over the code, at place i. -/
def Cur (w : World) (B : Nat) (A : Option Addr) (n cap : Nat) : Prop :=
  ∃ (i : Nat) (h : Int), i ≤ n ∧ w.heap[B]? = some (.cells #[.slice A n cap, .int .i64 i, .int .i64 h] 67 (0, 0))
theorem Cur.keep {w w' : World} {B : Nat} {A : Option Addr} {n cap : Nat} (h : Cur w B A n cap) (hk : w'.heap[B]? = w.heap[B]?) : Cur w' B A n cap := by
  obtain ⟨i, x, h1, h2⟩ := h
  exact ⟨i, x, h1, hk.trans h2⟩

/-- What a drawing function answers: a number with P; the cursor's block alone has changed. -/
def Drew (P : Int → Prop) (B : Nat) (A : Option Addr) (n cap : Nat) (w : World) (e : Ending) (w' : World) : Prop :=
  ∃ y : Int, P y ∧ e = .returned (.int .i64 y) ∧ Cur w' B A n cap ∧ w.grownBy w' (some B)

theorem blk_cell {w : World} {B : Nat} {cs : Array Value} {t : TypeId} (h : w.heap[B]? = some (.cells cs t (0, 0))) (j : Nat) : w.cell? ⟨B, j, none⟩ = cs[j]? := cell_of_row w B j cs t (0, 0) h
theorem blk_free {w : World} {B : Nat} {cs : Array Value} {t : TypeId} (h : w.heap[B]? = some (.cells cs t (0, 0))) (j : Nat) : w.frozen? ⟨B, j, none⟩ = false := by simp [World.frozen?, h]

theorem set_blk {w : World} {B : Nat} {cs : Array Value} {t : TypeId} (h : w.heap[B]? = some (.cells cs t (0, 0))) (j : Nat) (v : Value) :
    (w.setCell ⟨B, j, none⟩ v).heap[B]? = some (.cells (cs.setIfInBounds j v) t (0, 0)) := by simp [World.setCell, Array.getElem?_modify, h]
theorem set_grown (w : World) (B j : Nat) (v : Value) : w.grownBy (w.setCell ⟨B, j, none⟩ v) (some B) :=
  ⟨rfl, rfl, rfl, by simp [World.setCell], fun k hk hne => Below.heap_setCell w ⟨B, j, none⟩ v k (fun e => hne (by rw [show k = B from e]))⟩
theorem grown_trans {a b c : World} {B : Nat} (h : a.grownBy b (some B)) (k : b.grownBy c (some B)) : a.grownBy c (some B) :=
  ⟨k.os.trans h.os, k.tape.trans h.tape, k.output.trans h.output, Nat.le_trans h.size k.size, fun i hi hne => (k.block i (Nat.lt_of_lt_of_le hi h.size) hne).trans (h.block i hi hne)⟩
theorem grown_drewN {a b : World} {r : Option Nat} (h : a.grownBy b r) (n : Nat) : a.grownBy (b.drewN n) r := ⟨h.os, h.tape, h.output, h.size, h.block⟩
theorem Cur.lt {w : World} {B : Nat} {A : Option Addr} {n cap : Nat} (h : Cur w B A n cap) : B < w.heap.size := by
  obtain ⟨i, x, h1, h2⟩ := h
  rcases Nat.lt_or_ge B w.heap.size with hlt | hge
  · exact hlt
  · rw [Array.getElem?_eq_none hge] at h2; cases h2

set_option maxRecDepth 100000 in
set_option maxHeartbeats 1600000 in
theorem byte_any (B K : Nat) (A : Option Addr) (n cap : Nat) (w : World) (hc : Code w K A n) (hK : K ≤ B) (hcur : Cur w B A n cap) :
    Calls Tryz.prog 59 #[.pointer (some ⟨B, 0, none⟩)] w (Drew (fun y => 0 ≤ y ∧ y ≤ 255) B A n cap w) := by
  have hBlt := hcur.lt
  obtain ⟨i, h, hi, hB⟩ := hcur
  have c0 : w.cell? ⟨B, 0, none⟩ = some (.slice A n cap) := blk_cell hB 0
  have c1 : w.cell? ⟨B, 1, none⟩ = some (.int .i64 i) := blk_cell hB 1
  have c2 : w.cell? ⟨B, 2, none⟩ = some (.int .i64 h) := blk_cell hB 2
  have f1 : w.frozen? ⟨B, 1, none⟩ = false := blk_free hB 1
  have f2 : w.frozen? ⟨B, 2, none⟩ = false := blk_free hB 2
  have hn := hc.1
  by_cases hlt : i < n
  · obtain ⟨b, off, z, rfl, hb, hz, z0, z255⟩ := hc.2 i hlt
    have HB := Lib.hid hB
    have HZ := Lib.hid hz
    have HC := Lib.hid hc
    clear hB hz hc
    go_enter Tryz.func59, Tryz.ntmps59
    go_wp2
    clear c0 c1 c2 f1 f2
    generalize wrap64 (wrap64 (h * 6364136223846793005) + 1442695040888963407) = h1
    have hg1 := set_grown w B 2 (.int .i64 h1)
    have hB1 := set_blk HB.out 2 (.int .i64 h1)
    generalize w.setCell ⟨B, 2, none⟩ (.int .i64 h1) = w1 at hg1 hB1 ⊢
    have c0 : w1.cell? ⟨B, 0, none⟩ = some (.slice (some ⟨b, off, none⟩) n cap) := blk_cell hB1 0
    have c1 : w1.cell? ⟨B, 1, none⟩ = some (.int .i64 i) := blk_cell hB1 1
    have c2 : w1.cell? ⟨B, 2, none⟩ = some (.int .i64 h1) := blk_cell hB1 2
    have f1 : w1.frozen? ⟨B, 1, none⟩ = false := blk_free hB1 1
    have hz : w1.cell? ⟨b, off + i, none⟩ = some (.int .u8 z) := (World.cell?_of_block (hg1.block b (by omega) (by simp; omega))).trans HZ.out
    have HB1 := Lib.hid hB1
    have HG1 := Lib.hid hg1
    clear hB1 hg1
    have hii : (i : Int) < (n : Int) := by omega
    go_quiet (fail)
    go_wp2
    go_quiet (fail)
    go_wp2
    go_quiet (fail)
    go_wp2
    go_ret
    have hB2 := set_blk HB1.out 1 (.int .i64 ((i : Int) + 1))
    have hg2 := grown_trans HG1.out (set_grown w1 B 1 (.int .i64 ((i : Int) + 1)))
    exact ⟨_, and_bd _ 255 (by omega) (by omega), rfl, ⟨i + 1, h1, hlt, hB2⟩, ⟨hg2.os, hg2.tape, hg2.output, hg2.size, hg2.block⟩⟩
  · have HB := Lib.hid hB
    have HC := Lib.hid hc
    clear hB hc
    go_enter Tryz.func59, Tryz.ntmps59
    go_wp2
    clear c0 c1 c2 f1 f2
    generalize wrap64 (wrap64 (h * 6364136223846793005) + 1442695040888963407) = h1
    have hg1 := set_grown w B 2 (.int .i64 h1)
    have hB1 := set_blk HB.out 2 (.int .i64 h1)
    generalize w.setCell ⟨B, 2, none⟩ (.int .i64 h1) = w1 at hg1 hB1 ⊢
    have c0 : w1.cell? ⟨B, 0, none⟩ = some (.slice A n cap) := blk_cell hB1 0
    have c1 : w1.cell? ⟨B, 1, none⟩ = some (.int .i64 i) := blk_cell hB1 1
    have c2 : w1.cell? ⟨B, 2, none⟩ = some (.int .i64 h1) := blk_cell hB1 2
    have HB1 := Lib.hid hB1
    have HG1 := Lib.hid hg1
    clear hB1 hg1
    have hii : (n : Int) ≤ (i : Int) := by omega
    go_quiet (fail)
    go_wp2
    go_quiet (fail)
    go_wp2
    go_ret
    have hg2 := HG1.out
    exact ⟨_, and_bd _ 255 (by omega) (by omega), rfl, ⟨i, h1, hi, by simpa using HB1.out⟩, ⟨hg2.os, hg2.tape, hg2.output, hg2.size, hg2.block⟩⟩

theorem tmod_bd (x m : Int) (hx : 0 ≤ x) (hm : 0 < m) : 0 ≤ x.tmod m ∧ x.tmod m < m := by
  rw [IntWalk.rem_in _ _ hx]
  exact ⟨Int.emod_nonneg _ (by omega), Int.emod_lt_of_pos _ hm⟩

set_option maxRecDepth 100000 in
set_option maxHeartbeats 1600000 in
theorem below_small (B K : Nat) (A : Option Addr) (n cap : Nat) (m : Int) (w : World) (hc : Code w K A n) (hK : K ≤ B) (hcur : Cur w B A n cap) (hm0 : 0 < m) (hm : m ≤ 256) :
    Calls Tryz.prog 35 #[.pointer (some ⟨B, 0, none⟩), .int .i64 m] w (Drew (fun y => 0 ≤ y ∧ y < m) B A n cap w) := by
  have HC := Lib.hid hc
  have HU := Lib.hid hcur
  have e0 : (m == 0) = false := by simp; omega
  clear hc hcur
  go_enter Tryz.func35, Tryz.ntmps35
  go_wp2_with fail
  (with_reducible refine (byte_any B K A n cap _ HC.out hK HU.out).mono ?_)
  rintro e w1 ⟨y, hy, rfl, hcur, hg⟩
  have HU1 := Lib.hid hcur
  have HG := Lib.hid hg
  obtain ⟨y0, y255⟩ := hy
  obtain ⟨z, hz, HZ⟩ : ∃ z, y.tmod m = z ∧ Hid (y.tmod m = z) := ⟨_, rfl, rfl⟩
  have hz2 : y % m = z := by rw [← hz, IntWalk.rem_in _ _ y0]
  clear hcur hg
  go_wp2
  go_ret
  exact ⟨z, by rw [← HZ.out]; exact tmod_bd y m y0 hm0, rfl, HU1.out, HG.out⟩

set_option maxRecDepth 100000 in
set_option maxHeartbeats 1600000 in
theorem below_big (B K : Nat) (A : Option Addr) (n cap : Nat) (m : Int) (w : World) (hc : Code w K A n) (hK : K ≤ B) (hcur : Cur w B A n cap) (hm : 256 < m) (hmm : m ≤ 1000000000000) :
    Calls Tryz.prog 35 #[.pointer (some ⟨B, 0, none⟩), .int .i64 m] w (Drew (fun y => 0 ≤ y ∧ y < m) B A n cap w) := by
  have HC := Lib.hid hc
  have HU := Lib.hid hcur
  have e0 : (m == 0) = false := by simp; omega
  clear hc hcur
  go_enter Tryz.func35, Tryz.ntmps35
  go_wp2_with fail
  (with_reducible refine (byte_any B K A n cap _ HC.out hK HU.out).mono ?_)
  rintro e w1 ⟨y1, hy, rfl, hcur, hg⟩
  have HU1 := Lib.hid hcur
  have HG1 := Lib.hid hg
  have HC1 := Lib.hid (HC.out.keep (fun b hb => hg.block b (by have := HU.out.lt; omega) (by simp; omega)))
  obtain ⟨a0, a255⟩ := hy
  clear hcur hg
  go_wp2_with fail
  (with_reducible refine (byte_any B K A n cap _ HC1.out hK HU1.out).mono ?_)
  rintro e w2 ⟨y2, hy, rfl, hcur, hg⟩
  have HU2 := Lib.hid hcur
  have HG2 := Lib.hid (grown_trans HG1.out hg)
  have HC2 := Lib.hid (HC1.out.keep (fun b hb => hg.block b (by have := HU1.out.lt; omega) (by simp; omega)))
  obtain ⟨b0, b255⟩ := hy
  clear hcur hg
  go_wp2_with fail
  (with_reducible refine (byte_any B K A n cap _ HC2.out hK HU2.out).mono ?_)
  rintro e w3 ⟨y3, hy, rfl, hcur, hg⟩
  have HU3 := Lib.hid hcur
  have HG3 := Lib.hid (grown_trans HG2.out hg)
  have HC3 := Lib.hid (HC2.out.keep (fun b hb => hg.block b (by have := HU2.out.lt; omega) (by simp; omega)))
  obtain ⟨c0, c255⟩ := hy
  clear hcur hg
  go_wp2_with fail
  (with_reducible refine (byte_any B K A n cap _ HC3.out hK HU3.out).mono ?_)
  rintro e w4 ⟨y4, hy, rfl, hcur, hg⟩
  have HU4 := Lib.hid hcur
  have HG4 := Lib.hid (grown_trans HG3.out hg)
  obtain ⟨d0, d255⟩ := hy
  clear hcur hg
  obtain ⟨z, hz, HZ⟩ : ∃ z, (y1 * 16777216 + y2 * 65536 + y3 * 256 + y4).tmod m = z ∧ Hid ((y1 * 16777216 + y2 * 65536 + y3 * 256 + y4).tmod m = z) := ⟨_, rfl, rfl⟩
  have hz2 : (y1 * 16777216 + y2 * 65536 + y3 * 256 + y4) % m = z := by rw [← hz, IntWalk.rem_in _ _ (by omega)]
  go_wp2
  go_ret
  exact ⟨z, by rw [← HZ.out]; exact tmod_bd _ m (by omega) (by omega), rfl, HU4.out, HG4.out⟩

theorem below_any (B K : Nat) (A : Option Addr) (n cap : Nat) (m : Int) (w : World) (hc : Code w K A n) (hK : K ≤ B) (hcur : Cur w B A n cap) (hm0 : 0 < m) (hmm : m ≤ 1000000000000) :
    Calls Tryz.prog 35 #[.pointer (some ⟨B, 0, none⟩), .int .i64 m] w (Drew (fun y => 0 ≤ y ∧ y < m) B A n cap w) := by
  by_cases h : m ≤ 256
  · exact below_small B K A n cap m w hc hK hcur hm0 h
  · exact below_big B K A n cap m w hc hK hcur (by omega) hmm

/-- Where the function hands a string back: at most m bytes. -/
def DrewText (m : Nat) (B : Nat) (A : Option Addr) (n cap : Nat) (w : World) (e : Ending) (w' : World) : Prop :=
  ∃ s : ByteArray, s.size ≤ m ∧ e = .returned (.string s) ∧ Below w.heap.size w w' 
/-- A cursor that the call has just made. -/
def Made (A : Option Addr) (n cap : Nat) (w : World) (e : Ending) (w' : World) : Prop :=
  ∃ B, w.heap.size ≤ B ∧ e = .returned (.pointer (some ⟨B, 0, none⟩)) ∧ Cur w' B A n cap ∧ Below w.heap.size w w'

set_option maxRecDepth 100000 in
set_option maxHeartbeats 1600000 in
theorem new_any (A : Option Addr) (n cap : Nat) (w : World) (hc : Code w w.heap.size A n) :
    Calls Tryz.prog 29 #[.slice A n cap] w (Made A n cap w) := by
  have hn := hc.1
  have HC := Lib.hid hc
  clear hc
  go_enter Tryz.func29, Tryz.ntmps29
  go_wp2
  go_loop [3, 4] (fun x i => ∃ (k : Nat) (h : Int), k ≤ n ∧ i = .int .i64 k ∧ x = .int .i64 h) (fun _ i => n - (intOf i).toNat)
  case atStart => exact ⟨0, _, Nat.zero_le _, rfl, rfl⟩
  case round =>
    obtain ⟨k, h, hk, rfl, rfl⟩ := hrel
    by_cases hlt : k < n ∧ k < 4000
    · obtain ⟨h1, h2⟩ := hlt
      obtain ⟨b, off, z, rfl, hb, hz, z0, z255⟩ := HC.out.2 k h1
      go_wp2
      refine ⟨⟨k + 1, _, by omega, by simp, rfl⟩, by simp [intOf]; omega⟩
    · by_cases h1 : k < n
      · have h2 : ¬ k < 4000 := fun e => hlt ⟨h1, e⟩
        clear hlt
        go_wp2
        go_ret
        exact ⟨w.heap.size, Nat.le_refl _, rfl, ⟨0, h, Nat.zero_le _, heap_alloc_new w _⟩, (Below.refl _ _).alloc (Nat.le_refl _) _⟩
      · clear hlt
        go_wp2
        go_ret
        exact ⟨w.heap.size, Nat.le_refl _, rfl, ⟨0, h, Nat.zero_le _, heap_alloc_new w _⟩, (Below.refl _ _).alloc (Nat.le_refl _) _⟩

end Go.Proofs.YtpggglcjocnjlaaGreat
