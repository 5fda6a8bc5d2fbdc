/- The contracts of the encodings at this translation's numbers (carried over from the other seat of the same commit). -/
import Derived.Test.YtamdmflofbpjkaaDoorE
import Derived.Laws.RangeAny
import Derived.Deep.AppendLies
import Derived.Deep.RegionLaw
import Derived.BigRegion
import Derived.Lib.EndianBits
import Derived.PlainAid
namespace Go.Proofs.YtamdmflofbpjkaaDoor.Num
open Go.ChangeShapes Go.WideShapes Go.ChangeAt Go.RowKit
open Go.PlainAid (bt bt_nonneg bt_le get_bt)
open Go.RowKit
set_option linter.unusedVariables false

def inB (x lo hi : Int) : Bool := decide (lo ≤ x) && decide (x ≤ hi)
theorem l1In_yes (x lo hi : Int) (w : World) (h1 : lo ≤ x) (h2 : x ≤ hi) :
    Calls Tryd.prog 26 #[.int .i64 x, .int .i64 lo, .int .i64 hi] w fun e w' => e = .returned (.bool true) ∧ w = w' := by
  go_enter Tryd.func26, Tryd.ntmps26
  go_wp2
  go_ret
  exact ⟨rfl, rfl⟩
theorem l1In_no1 (x lo hi : Int) (w : World) (h1 : x < lo) :
    Calls Tryd.prog 26 #[.int .i64 x, .int .i64 lo, .int .i64 hi] w fun e w' => e = .returned (.bool false) ∧ w = w' := by
  go_enter Tryd.func26, Tryd.ntmps26
  go_wp2
  go_ret
  exact ⟨rfl, rfl⟩
theorem l1In_no2 (x lo hi : Int) (w : World) (h1 : lo ≤ x) (h2 : hi < x) :
    Calls Tryd.prog 26 #[.int .i64 x, .int .i64 lo, .int .i64 hi] w fun e w' => e = .returned (.bool false) ∧ w = w' := by
  go_enter Tryd.func26, Tryd.ntmps26
  go_wp2
  go_ret
  exact ⟨by simpa using h2, rfl⟩
theorem fw_yes (x : Int) (w : World) (h1 : 1 ≤ x) (h2 : x ≤ 7) :
    Calls Tryd.prog 25 #[.int .i64 x] w fun e w' => e = .returned (.bool true) ∧ w = w' := by
  go_enter Tryd.func25, Tryd.ntmps25
  go_wp2
  go_ret
  exact ⟨rfl, rfl⟩
theorem fw_no (x : Int) (w : World) (h1 : x < 1 ∨ 7 < x) :
    Calls Tryd.prog 25 #[.int .i64 x] w fun e w' => e = .returned (.bool false) ∧ w = w' := by
  rcases h1 with h1 | h1
  · go_enter Tryd.func25, Tryd.ntmps25
    go_wp2
    go_ret
    exact ⟨rfl, rfl⟩
  · have h2 : 1 ≤ x := by omega
    go_enter Tryd.func25, Tryd.ntmps25
    go_wp2
    go_ret
    exact ⟨by simpa using h1, rfl⟩
def dec (l : List UInt8) : Int := l.foldl (fun n c => n * 256 + (c.toNat : Int)) 0
theorem dec_snoc (l : List UInt8) (c : UInt8) : dec (l ++ [c]) = dec l * 256 + (c.toNat : Int) := by
  simp [dec]
theorem take_snoc (s : ByteArray) (k : Nat) (h : k < s.size) : s.data.toList.take (k + 1) = s.data.toList.take k ++ [s[k]] := by
  rw [List.take_succ_eq_append_getElem (by simpa using h)]; rfl
theorem dec_bd (l : List UInt8) : 0 ≤ dec l ∧ dec l < 256 ^ l.length := by
  have key : ∀ (l : List UInt8) (a : Int) (k : Nat), 0 ≤ a → a < 256 ^ k → 0 ≤ l.foldl (fun n c => n * 256 + (c.toNat : Int)) a ∧ l.foldl (fun n c => n * 256 + (c.toNat : Int)) a < 256 ^ (k + l.length) := by
    intro l
    induction l with
    | nil => intro a k h1 h2; exact ⟨h1, by simpa using h2⟩
    | cons c l ih =>
      intro a k h1 h2
      have hc : (c.toNat : Int) < 256 := by have := c.toNat_lt; omega
      have h := ih (a * 256 + (c.toNat : Int)) (k + 1) (by omega) (by rw [Int.pow_succ]; omega)
      simp only [List.foldl_cons, List.length_cons]
      rw [show k + (l.length + 1) = k + 1 + l.length by omega]
      exact h
  have := key l 0 0 (by omega) (by simp)
  rw [Nat.zero_add] at this
  exact this
theorem dec_bd7 (l : List UInt8) (h : l.length ≤ 6) : 0 ≤ dec l ∧ dec l ≤ 281474976710655 := by
  obtain ⟨h1, h2⟩ := dec_bd l
  have h3 : (256 : Nat) ^ l.length ≤ 256 ^ 6 := Nat.pow_le_pow_right (by omega) h
  have h4 : ((256 ^ l.length : Nat) : Int) = (256 : Int) ^ l.length := Int.natCast_pow 256 l.length
  have e : (256 : Nat) ^ 6 = 281474976710656 := by decide
  omega
theorem wraps_i64 (n : Int) (h₀ : 0 ≤ n) (h₁ : n < 2 ^ 63) : IntKind.i64.wrap n = n := IntWalk.i64_in n (by omega)
theorem or_low (a c : Int) (ha : 0 ≤ a) (hb : a ≤ 281474976710655) (hc : 0 ≤ c) (hd : c < 256) : bits .or .i64 (a * 256) c = a * 256 + c :=
  bits_join .i64 63 (by decide) wraps_i64 8 (a * 256) c (by omega) (by simp) (by omega) hc (by omega) (by omega)
theorem implDF_no (s : ByteArray) (k : Int) (w : World) (hs : s.size ≤ maxLen) (h : k < 1 ∨ 7 < k ∨ (s.size : Int) < k) :
    Calls Tryd.prog 13 #[.string s, .int .i64 k] w fun e w' => e = .returned (.tuple #[.int .i64 0, .bool false]) ∧ w = w' := by
  unfold maxLen at hs
  by_cases ha : k < 1 ∨ 7 < k
  · go_enter Tryd.func13, Tryd.ntmps13
    go_wp2_with (go_at_call 25; refine (fw_no _ _ ha).mono ?_; rintro e w' ⟨rfl, rfl⟩)
    go_ret2
    exact ⟨rfl, rfl⟩
  · have ha' : 1 ≤ k := by omega
    have hb' : k ≤ 7 := by omega
    have hc : (s.size : Int) < k := by omega
    clear ha h
    go_enter Tryd.func13, Tryd.ntmps13
    go_wp2
    go_ret2
    exact ⟨rfl, rfl⟩
theorem implDF_yes (s : ByteArray) (k : Nat) (w : World) (hs : s.size ≤ maxLen) (h1 : 1 ≤ k) (h7 : k ≤ 7) (hk : k ≤ s.size) :
    Calls Tryd.prog 13 #[.string s, .int .i64 k] w fun e w' => e = .returned (.tuple #[.int .i64 (dec (s.data.toList.take k)), .bool true]) ∧ w = w' := by
  unfold maxLen at hs
  go_enter Tryd.func13, Tryd.ntmps13
  go_wp2
  go_loop [6, 18] (fun n i => ∃ j : Nat, j ≤ k ∧ i = .int .i64 j ∧ n = .int .i64 (dec (s.data.toList.take j))) (fun _ i => k - (intOf i).toNat)
  case atStart => exact ⟨0, Nat.zero_le _, rfl, rfl⟩
  case round =>
    obtain ⟨j, hj, rfl, rfl⟩ := hrel
    by_cases hlt : j < k
    · have hd := dec_bd7 (s.data.toList.take j) (by have := List.length_take_le j s.data.toList; omega)
      have hsz : j < s.size := by omega
      have hc : (s[j].toNat : Int) < 256 := by have := s[j].toNat_lt; omega
      have HS : Hid (dec (s.data.toList.take (j + 1)) = dec (s.data.toList.take j) * 256 + (s[j].toNat : Int)) := by
        rw [take_snoc s j hsz]; exact dec_snoc _ _
      go_wp2
      go_round
      case rel => 
        refine ⟨j + 1, by omega, by go_num, ?_⟩
        rw [HS.out, or_low _ _ (by omega) (by omega) (by omega) (by omega)]
      case measure => simp [intOf]; omega
    · go_wp2
      go_ret2
      obtain rfl : j = k := by omega
      exact ⟨rfl, rfl⟩
theorem info5 : (Tryd.prog.info? 5).map (fun i => (i.zero, i.size, i.bytes)) = some (some (.int .u8 0), 1, 1) := by kernel_rfl
/-- The string of a row of bytes that the call owns. -/
theorem conv_own {w : World} {base : Nat} {v : Value} {n : Nat} {xs : List Int} (h : w.ownsRow base 5 1 v n (xs.map (Value.int .u8))) :
    (convert 22 9 v).run Tryd.prog w = .ok (.string (strOfNums xs)) w := by
  have hl : xs.length = n := by have := h.1; simpa using this
  rcases h.2 with ⟨rfl, rfl⟩ | ⟨g, cap, cur, rfl, hb, hh, hnc, hcm, hcur, htake⟩
  · obtain rfl := List.eq_nil_of_length_eq_zero hl
    rw [run_convert_bytes_nil w 22 5 Tryd.underlying22 Tryd.underlying5 0 0 9 Tryd.underlying9]
    rfl
  · refine run_convert_bytes_arg w 22 5 Tryd.underlying22 Tryd.underlying5 g 0 n cap xs hl (fun i hi => ?_) 9 Tryd.underlying9
    have := h.cells (g := g) rfl i (.int .u8 (xs.getD i 0)) (by simp [List.getD, show i < xs.length by omega])
    rw [Addr.add_lit] at this
    simpa using this
theorem cell_new1 (w : World) (x : Value) (t : TypeId) : (w.alloc (.cells #[x] t)).cell? ⟨w.heap.size, 0, none⟩ = some x := by
  rw [World.cell?_alloc_at _ _ _ _ rfl]; rfl
theorem base_ok {w wr : World} {o : Obj} (hb : Below w.heap.size w wr) : w.heap.size ≤ (wr.alloc o).heap.size := by
  have := hb.size; simp; omega
def vr (n : Nat) : List Int := if h : n < 128 then [(n : Int)] else ((n % 128 + 128 : Nat) : Int) :: vr (n / 128)
termination_by n
decreasing_by omega
theorem vr_low {n : Nat} (h : n < 128) : vr n = [(n : Int)] := by rw [vr]; simp [h]
theorem vr_high {n : Nat} (h : 128 ≤ n) : vr n = ((n % 128 + 128 : Nat) : Int) :: vr (n / 128) := by
  rw [vr, dif_neg (by omega)]
theorem vr_len : ∀ (k n : Nat), n < 128 ^ (k + 1) → (vr n).length ≤ k + 1 := by
  intro k
  induction k with
  | zero => intro n h; rw [vr_low (by simpa using h)]; simp
  | succ k ih =>
    intro n h
    by_cases hl : n < 128
    · rw [vr_low hl]; simp
    · rw [vr_high (by omega)]
      have := ih (n / 128) (by rw [Nat.div_lt_iff_lt_mul (by omega)]; rwa [← Nat.pow_succ])
      simp only [List.length_cons]; omega
theorem vr_len7 (n : Nat) (h : n ≤ 562949953421311) : (vr n).length ≤ 7 := vr_len 6 n (by
  have : (128 : Nat) ^ (6 + 1) = 562949953421312 := by decide
  omega)
theorem vr_pos (n : Nat) : 1 ≤ (vr n).length := by
  by_cases h : n < 128
  · rw [vr_low h]; simp
  · rw [vr_high (by omega)]; simp
/-- One byte appended to a row of bytes that the call owns. -/
theorem wpApp1 {w : World} {ops : Array Oper} {rest : List Oper} {o : Oper} {a : Act} {Q : Exit → Act → World → Prop} (hgd : o.guard = none) (s x : Operand)
    (ho : o.op = .call { callee := .builtin .append, args := #[s, x], argTypes := #[22, 22] })
    (base : Nat) (v : Value) (n : Nat) (xs : List Int) (hs : a.eval s = v) (hown : w.ownsRow base 5 1 v n (xs.map (Value.int .u8)))
    (b : Nat) (c : Nat) (y : Int) (hx : a.eval x = .slice (some ⟨b, 0, none⟩) 1 c) (hcell : w.cell? ⟨b, 0, none⟩ = some (.int .u8 y))
    (hn : n ≤ 140737488351232) (hbase : base ≤ w.heap.size)
    (h : ∀ v' w', w'.ownsRow base 5 1 v' (n + 1) ((xs ++ [y]).map (Value.int .u8)) → w.grownBy w' v.ownBlock → wpList Tryd.prog ops Q rest (a.put o.dst v') w') : wpList Tryd.prog ops Q (o :: rest) a w := by
  obtain ⟨i0, hi, hz0, hz1, hz2⟩ := info_parts info5
  refine wpList_append_own _ hgd s x 22 ho base 5 i0 (.int .u8 0) 1 1 Tryd.underlying22 hi hz0 hz1 hz2 rfl (by decide) v n _ hs hown ⟨b, 0, none⟩ 1 c [.int .u8 y] hx rfl ?_ ?_ (by unfold maxLen; omega) (by omega) hbase ?_
  · intro j u hj
    match j, hj with
    | 0, hj => simp at hj; subst hj; simpa [Addr.add] using hcell
  · intro u hu; simp at hu; subst hu; rfl
  · intro v' w' h1 h2 _
    exact h v' w' (by simpa using h1) h2
set_option maxRecDepth 100000 in
set_option maxHeartbeats 800000 in
theorem implEV_yes (n : Nat) (w : World) (h : n ≤ 562949953421311) :
    Calls Tryd.prog 9 #[.int .i64 n] w fun e w' => e = .returned (.string (strOfNums (vr n))) ∧ Below w.heap.size w w' := by
  obtain ⟨i0, hi, hz0, hz1, hz2⟩ := info_parts info5
  have hlen := vr_len7 n h
  go_enter Tryd.func9, Tryd.ntmps9
  go_wp2
  go_loopw [0, 3] (fun x v wr => ∃ (acc : List Int) (m : Nat), x = .int .i64 m ∧ m ≤ n ∧ acc ++ vr m = vr n ∧ wr.ownsRow w.heap.size 5 1 v acc.length (acc.map (Value.int .u8)) ∧ Below w.heap.size w wr)
    (fun x _ _ => (intOf x).toNat)
  case atStart =>
    refine ⟨[], n, rfl, Nat.le_refl _, rfl, ?_, Below.refl _ _⟩
    exact World.ownsRow_nil _ _ _ _
  case round =>
    obtain ⟨acc, m, rfl, hm, hacc, hown, hb⟩ := hrel
    have hal : acc.length + (vr m).length ≤ 7 := by rw [← hacc] at hlen; simpa using hlen
    have hp := vr_pos m
    have HA := Lib.hid hacc
    clear hacc
    by_cases hlt : m < 128
    · go_wp2_with (at_builtin; go_must (refine wpApp1 rfl _ _ rfl w.heap.size u3 _ _ rfl (hown.alloc _) wr.heap.size _ _ rfl (cell_new1 _ _ _) (by omega) (base_ok hb) ?_); intro v' w' hown' hg')
      have hconv := conv_own hown'
      go_wp2
      simp only [hconv]
      go_wp2
      go_ret
      refine ⟨?_, ?_⟩
      · rw [← HA.out, vr_low hlt]
        simp
      · exact (hb.alloc hb.size _).grown hg' (by simp; have := hb.size; omega) (fun k hk => (hown.lt k hk).1)
    · go_wp2_with (at_builtin; go_must (refine wpApp1 rfl _ _ rfl w.heap.size u3 _ _ rfl (hown.alloc _) wr.heap.size _ _ rfl (cell_new1 _ _ _) (by omega) (base_ok hb) ?_); intro v' w' hown' hg')
      go_roundw
      case rel => 
        refine ⟨acc ++ [((m % 128 + 128 : Nat) : Int)], m / 128, by simp, by omega, ?_, ?_, ?_⟩
        · rw [← HA.out, vr_high (n := m) (by omega)]; simp
        · rw [show ((m % 128 + 128 : Nat) : Int) = (m : Int) % 128 + 128 from by omega]
          simpa using hown'
        · exact (hb.alloc hb.size _).grown hg' (by simp; have := hb.size; omega) (fun k hk => (hown.lt k hk).1)
      case measure => simp [intOf]; omega
theorem implEV_no (n : Int) (w : World) (h : n < 0 ∨ 562949953421311 < n) :
    Calls Tryd.prog 9 #[.int .i64 n] w fun e w' => e = .returned (.string (strOfNums [])) ∧ Below w.heap.size w w' := by
  rcases h with h | h
  · go_enter Tryd.func9, Tryd.ntmps9
    go_wp2
    go_ret
    exact ⟨rfl, Below.refl _ _⟩
  · have h0 : 0 ≤ n := by omega
    go_enter Tryd.func9, Tryd.ntmps9
    go_wp2
    go_ret
    exact ⟨rfl, Below.refl _ _⟩
def hd (k : Nat) : Int := if k < 10 then 48 + k else 87 + k
def hexL (l : List UInt8) : List Int := l.flatMap fun c => [hd (c.toNat / 16), hd (c.toNat % 16)]
theorem hexL_snoc (l : List UInt8) (c : UInt8) : hexL (l ++ [c]) = hexL l ++ [hd (c.toNat / 16), hd (c.toNat % 16)] := by
  simp [hexL]
theorem hexL_len (l : List UInt8) : (hexL l).length = 2 * l.length := by
  induction l with
  | nil => rfl
  | cons c l ih => simp only [hexL, List.flatMap_cons, List.length_append, List.length_cons, List.length_nil] at *; omega
theorem hd_at (k : Nat) (h : k < 16) : (((⟨#[48, 49, 50, 51, 52, 53, 54, 55, 56, 57, 97, 98, 99, 100, 101, 102]⟩ : ByteArray)[k]'h).toNat : Int) = hd k := by
  have e : ∀ j : Fin 16, (((⟨#[48, 49, 50, 51, 52, 53, 54, 55, 56, 57, 97, 98, 99, 100, 101, 102]⟩ : ByteArray)[j.val]'(by have := j.isLt; exact this)).toNat : Int) = hd j.val := by decide
  exact e ⟨k, h⟩
/-- Two bytes appended to a row of bytes that the call owns, as one step of a region that draws. -/
theorem stepApp2 {w : World} {ops : Array Oper} {o : Oper} {a : Act} {K : Act → World → Prop} {Q : Exit → Act → World → Prop} {E : Prop} (hgd : o.guard = none) (s x : Operand)
    (ho : o.op = .call { callee := .builtin .append, args := #[s, x], argTypes := #[22, 22] })
    (base : Nat) (v : Value) (n : Nat) (xs : List Int) (hs : a.eval s = v) (hown : w.ownsRow base 5 1 v n (xs.map (Value.int .u8)))
    (b : Nat) (c : Nat) (y z : Int) (hx : a.eval x = .slice (some ⟨b, 0, none⟩) 2 c) (hc0 : w.cell? ⟨b, 0, none⟩ = some (.int .u8 y)) (hc1 : w.cell? ⟨b, 1, none⟩ = some (.int .u8 z))
    (hn : n ≤ 140737488351232) (hbase : base ≤ w.heap.size)
    (h : ∀ g cap w', w'.ownsRow base 5 1 (.slice (some ⟨g, 0, none⟩) (n + 2) cap) (n + 2) ((xs ++ [y, z]).map (Value.int .u8)) → w.grownBy w' v.ownBlock → K (a.put o.dst (.slice (some ⟨g, 0, none⟩) (n + 2) cap)) w') :
    if Region.wanted o (yielded ops a.tmps) = true then Oper.wp Tryd.prog o a w K Q else E := by
  obtain ⟨i0, hi, hz0, hz1, hz2⟩ := info_parts info5
  refine step_append_lies w hgd s x 22 ho base 5 i0 (.int .u8 0) 1 1 Tryd.underlying22 hi hz0 hz1 hz2 rfl (by decide) v n _ hs hown ⟨b, 0, none⟩ 2 c [.int .u8 y, .int .u8 z] hx rfl ?_ ?_ (by decide) (by unfold maxLen; omega) (by omega) hbase _ rfl ?_
  · intro j u hj
    match j, hj with
    | 0, hj => simp at hj; subst hj; simpa [Addr.add] using hc0
    | 1, hj => simp at hj; subst hj; simpa [Addr.add] using hc1
  · intro u hu; simp at hu; rcases hu with rfl | rfl <;> rfl
  · intro g cap w' h1 h2 _ _
    exact h g cap w' (by simpa using h1) h2
theorem ret_str {a b : ByteArray} (h : a = b) : Ending.returned (.string a) = .returned (.string b) := by rw [h]
theorem hex_step {w : World} {B : Nat} {v : Value} {s : ByteArray} {k q r : Nat} (h : k < s.size) (HQ : Hid (q = s[k].toNat / 16)) (HR : Hid (r = s[k].toNat % 16))
    (ho : w.ownsRow B 5 1 v (2 * k + 2) ((hexL (s.data.toList.take k) ++ [hd q, hd r]).map (Value.int .u8))) :
    w.ownsRow B 5 1 v (2 * (k + 1)) ((hexL (s.data.toList.take (k + 1))).map (Value.int .u8)) := by
  rw [show 2 * (k + 1) = 2 * k + 2 by omega, take_snoc s k h, hexL_snoc, ← HQ.out, ← HR.out]; exact ho
theorem cell_new2a (w : World) (x y : Value) (t : TypeId) : (w.alloc (.cells #[x, y] t)).cell? ⟨w.heap.size, 0, none⟩ = some x := by
  rw [World.cell?_alloc_at _ _ _ _ rfl]; rfl
theorem cell_new2b (w : World) (x y : Value) (t : TypeId) : (w.alloc (.cells #[x, y] t)).cell? ⟨w.heap.size, 1, none⟩ = some y := by
  rw [World.cell?_alloc_at _ _ _ _ rfl]; rfl
set_option maxRecDepth 100000 in
set_option maxHeartbeats 800000 in
theorem implEH (s : ByteArray) (w : World) (hs : s.size ≤ 1048576) :
    Calls Tryd.prog 15 #[.string s] w fun e w' => e = .returned (.string (strOfNums (hexL s.data.toList))) ∧ Below w.heap.size w w' := by
  obtain ⟨i0, hi, hz0, hz1, hz2⟩ := info_parts info5
  go_enter Tryd.func15, Tryd.ntmps15
  go_wp2_with (at_make; go_must (refine wpList_make_own _ rfl _ _ 22 rfl w.heap.size 5 i0 (.int .u8 0) 1 Tryd.underlying22 hi hz0 hz1 .i64 .i64 (2 * (s.size : Int)) (2 * s.size) rfl rfl (by omega) (by rw [hz2]; omega) (by unfold maxLen; omega) (Nat.le_refl _) ?_); intro w1 hown hgrow)
  go_loopw [3, 11] (fun v i wr => ∃ k : Nat, k ≤ s.size ∧ i = .int .i64 k ∧ wr.ownsRow w.heap.size 5 1 v (2 * k) ((hexL (s.data.toList.take k)).map (Value.int .u8)) ∧ Below w.heap.size w wr)
    (fun _ i _ => s.size - (intOf i).toNat)
  case atStart => exact ⟨0, Nat.zero_le _, rfl, hown, (Below.refl _ _).grown hgrow (Nat.le_refl _) (fun j hj => by cases hj)⟩
  case round =>
    obtain ⟨k, hk, rfl, hown, hb⟩ := hrel
    by_cases hlt : k < s.size
    · have hc : s[k].toNat < 256 := s[k].toNat_lt
      obtain ⟨q, hq, hq6, HQ⟩ : ∃ q : Nat, IntKind.u8.wrap ((s[k].toNat : Int) / 16) = (q : Int) ∧ q < 16 ∧ Hid (q = s[k].toNat / 16) :=
        ⟨s[k].toNat / 16, by rw [IntWalk.u8_in _ (by omega)]; omega, by omega, rfl⟩
      obtain ⟨r, hr, hr6, HR⟩ : ∃ r : Nat, (s[k].toNat : Int).tmod 16 = (r : Int) ∧ r < 16 ∧ Hid (r = s[k].toNat % 16) :=
        ⟨s[k].toNat % 16, by rw [IntWalk.rem_in _ _ (by omega)]; omega, by omega, rfl⟩
      have hA := hd_at q hq6
      have hB := hd_at r hr6
      have hqi : (q : Int) < 16 := by omega
      have hri : (r : Int) < 16 := by omega
      go_wp2
      go_region_law (refine stepApp2 rfl _ _ rfl w.heap.size u3 _ _ rfl (hown.alloc _) wr.heap.size _ _ _ rfl (cell_new2a _ _ _ _) (cell_new2b _ _ _ _) (by omega) (base_ok hb) ?_; intro g cap w' hown' hg')
      all_goals go_wp2
      all_goals go_roundw
      all_goals first
        | (case rel => exact ⟨k + 1, by omega, by go_num, hex_step hlt HQ HR hown', (hb.alloc hb.size _).drew.grown hg' (base_ok hb) (fun j hj => (hown.lt j hj).1)⟩)
        | skip
      all_goals (simp [intOf]; omega)
    · go_wp2
      have hconv := conv_own hown
      simp only [hconv]
      go_wp2
      go_ret
      exact ⟨ret_str (by rw [List.take_of_length_le (by simp; omega)]), hb⟩
/-- The value of a hexadecimal digit, -1 of any other byte. -/
def hv (c : Int) : Int := if 48 ≤ c ∧ c ≤ 57 then c - 48 else if 97 ≤ c ∧ c ≤ 102 then c - 87 else -1
theorem hv_le (c : Int) : -1 ≤ hv c ∧ hv c ≤ 15 := by unfold hv; split <;> (try split) <;> omega
theorem hv_hd (k : Nat) (h : k < 16) : hv (hd k) = k := by
  unfold hv hd; split <;> split <;> (try split) <;> omega
theorem hd_hv (c : Int) (h : 0 ≤ hv c) : ∃ k : Nat, k < 16 ∧ hd k = c ∧ hv c = k := by
  unfold hv at h ⊢
  split at h
  · exact ⟨(c - 48).toNat, by omega, by unfold hd; rw [if_pos (by omega)]; omega, by rw [if_pos ‹_›]; omega⟩
  · split at h
    · exact ⟨(c - 87).toNat, by omega, by unfold hd; rw [if_neg (by omega)]; omega, by rw [if_neg ‹_›, if_pos ‹_›]; omega⟩
    · omega
theorem hv_none (c : Int) (h : ∀ j, j < 16 → hd j ≠ c) : hv c = -1 := by
  by_cases hp : 0 ≤ hv c
  · obtain ⟨k, hk, he, _⟩ := hd_hv c hp
    exact absurd he (h k hk)
  · have := hv_le c; omega
theorem ret_int {k : IntKind} {a b : Int} (h : a = b) : Ending.returned (.int k a) = .returned (.int k b) := by rw [h]
/-- The bytes that the first 2 m digits spell. -/
def bytesOf (s : ByteArray) (m : Nat) : List Int := (List.range m).map fun j => 16 * hv (bt s (2 * j)) + hv (bt s (2 * j + 1))
theorem bytesOf_succ (s : ByteArray) (m : Nat) : bytesOf s (m + 1) = bytesOf s m ++ [16 * hv (bt s (2 * m)) + hv (bt s (2 * m + 1))] := by
  simp [bytesOf, List.range_succ]
def dhB (s : ByteArray) : Bool := s.size % 2 == 0 && (List.range s.size).all fun i => decide (0 ≤ hv (bt s i))
def dhS (s : ByteArray) : ByteArray := if dhB s then strOfNums (bytesOf s (s.size / 2)) else ⟨#[]⟩
theorem dh_ok {s : ByteArray} (h : s.size % 2 = 0) (hg : ∀ i, i < s.size → 0 ≤ hv (bt s i)) : dhB s = true ∧ dhS s = strOfNums (bytesOf s (s.size / 2)) := by
  have hb : dhB s = true := by simp [dhB, h]; exact hg
  exact ⟨hb, by simp [dhS, hb]⟩
theorem dh_odd {s : ByteArray} (h : s.size % 2 = 1) : dhB s = false ∧ dhS s = ⟨#[]⟩ := by
  have hb : dhB s = false := by simp [dhB, h]
  exact ⟨hb, by simp [dhS, hb]⟩
theorem dh_bad {s : ByteArray} {i : Nat} (h : i < s.size) (hg : hv (bt s i) < 0) : dhB s = false ∧ dhS s = ⟨#[]⟩ := by
  have hb : dhB s = false := by
    simp only [dhB, Bool.and_eq_false_iff, List.all_eq_false]
    exact .inr ⟨i, by simpa using h, by simpa using hg⟩
  exact ⟨hb, by simp [dhS, hb]⟩
theorem ret_dh {s : ByteArray} {a : ByteArray} {b : Bool} (h : dhB s = b ∧ dhS s = a) : Ending.returned (.tuple #[.string a, .bool b]) = .returned (.tuple #[.string (dhS s), .bool (dhB s)]) := by
  rw [h.1, h.2]
theorem ret_hx {a b : Int} {x y : Bool} (h : a = b) (h' : x = y) : Ending.returned (.tuple #[.int .u8 a, .bool x]) = .returned (.tuple #[.int .u8 b, .bool y]) := by rw [h, h']
theorem hexV_yes (r : Int) (w : World) (h : 0 ≤ hv r) : Calls Tryd.prog 27 #[.int .i32 r] w fun e w' => e = .returned (.tuple #[.int .u8 (hv r), .bool true]) ∧ w = w' := by
  have H := Lib.hid h
  rcases (show (48 ≤ r ∧ r ≤ 57) ∨ (97 ≤ r ∧ r ≤ 102) by unfold hv at h; split at h <;> (try split at h) <;> omega) with ⟨h1, h2⟩ | ⟨h1, h2⟩
  · have hx : hv r = r - 48 := by unfold hv; rw [if_pos ⟨h1, h2⟩]
    have HX := Lib.hid hx
    clear hx h
    go_enter Tryd.func27, Tryd.ntmps27
    go_wp2
    go_ret2
    exact ⟨ret_hx HX.out.symm rfl, rfl⟩
  · have hx : hv r = r - 87 := by unfold hv; rw [if_neg (by omega), if_pos ⟨h1, h2⟩]
    have HX := Lib.hid hx
    clear hx h
    have h48 : 48 ≤ r := by omega
    have hd1 : decide (r ≤ 57) = false := by simp; omega
    go_enter Tryd.func27, Tryd.ntmps27
    go_wp2
    go_ret2
    exact ⟨ret_hx (by rw [HX.out]; omega) rfl, rfl⟩
theorem hexV_no (r : Int) (w : World) (h : hv r < 0) : Calls Tryd.prog 27 #[.int .i32 r] w fun e w' => e = .returned (.tuple #[.int .u8 0, .bool false]) ∧ w = w' := by
  rcases (show r < 48 ∨ (58 ≤ r ∧ r < 97) ∨ 102 < r by unfold hv at h; split at h <;> (try split at h) <;> omega) with h1 | ⟨h1, h2⟩ | h1
  · clear h
    go_enter Tryd.func27, Tryd.ntmps27
    go_wp2
    go_ret2
    exact ⟨rfl, rfl⟩
  · clear h
    have h48 : 48 ≤ r := by omega
    have hd1 : decide (r ≤ 57) = false := by simp; omega
    go_enter Tryd.func27, Tryd.ntmps27
    go_wp2
    go_ret2
    exact ⟨rfl, rfl⟩
  · clear h
    have h48 : 48 ≤ r := by omega
    have h97 : 97 ≤ r := by omega
    have hd1 : decide (r ≤ 57) = false := by simp; omega
    have hd2 : decide (r ≤ 102) = false := by simp; omega
    go_enter Tryd.func27, Tryd.ntmps27
    go_wp2
    go_ret2
    exact ⟨rfl, rfl⟩
/-- Byte j of the row behind k digits. -/
def part (s : ByteArray) (k j : Nat) : Int := if 2 * j + 1 < k then 16 * hv (bt s (2 * j)) + hv (bt s (2 * j + 1)) else if 2 * j < k then hv (bt s (2 * j)) else 0
theorem part_zero (s : ByteArray) (j : Nat) : part s 0 j = 0 := by unfold part; rw [if_neg (by omega), if_neg (by omega)]
theorem part_far (s : ByteArray) (k j : Nat) (h : j ≠ k / 2) : part s (k + 1) j = part s k j := by
  unfold part
  by_cases h1 : 2 * j + 1 < k
  · rw [if_pos h1, if_pos (by omega)]
  · rw [if_neg h1, if_neg (by omega)]
    by_cases h2 : 2 * j < k
    · omega
    · rw [if_neg h2, if_neg (by omega)]
theorem part_at (s : ByteArray) (k : Nat) (hg : ∀ i, i < k → 0 ≤ hv (bt s i)) : part s (k + 1) (k / 2) = part s k (k / 2) * 16 + hv (bt s k) ∧ 0 ≤ part s k (k / 2) ∧ part s k (k / 2) ≤ 15 := by
  unfold part
  rcases Nat.mod_two_eq_zero_or_one k with h | h
  · rw [if_neg (by omega), if_pos (by omega), if_neg (by omega), if_neg (by omega)]
    rw [show 2 * (k / 2) = k by omega]; omega
  · rw [if_pos (by omega), if_neg (by omega), if_pos (by omega)]
    rw [show 2 * (k / 2) + 1 = k by omega]
    have h1 := hg (2 * (k / 2)) (by omega)
    have h2 := hv_le (bt s (2 * (k / 2)))
    omega
theorem iter_setCell (w : World) (s : ByteArray) (p : Nat) (a : Addr) (v : Value) (h : a.block < w.heap.size) : (w.iter s p).setCell a v = (w.setCell a v).iter s p := by
  simp only [World.iter, World.alloc, World.setCell]
  congr 1
  apply Array.ext
  · simp
  · intro i h1 h2
    simp only [Array.size_modify, Array.size_push] at h1
    rw [Array.getElem_modify, Array.getElem_push, Array.getElem_push]
    by_cases hi : i < w.heap.size
    · simp only [Array.size_modify, hi, dite_true, Array.getElem_modify]
    · have : a.block ≠ i := by omega
      simp [hi, this]
/-- Block g of the world is a row of m bytes, byte j being f j. -/
def RowOf (w : World) (g m : Nat) (f : Nat → Int) : Prop := ∃ C : Array Value, w.heap[g]? = some (.cells C 5 (0, 0)) ∧ C.size = m ∧ ∀ j, j < m → C[j]? = some (.int .u8 (f j))
theorem RowOf.cell {w : World} {g m : Nat} {f : Nat → Int} (h : RowOf w g m f) {j : Nat} (hj : j < m) : w.cell? ⟨g, j, none⟩ = some (.int .u8 (f j)) := by
  obtain ⟨C, h1, h2, h3⟩ := h
  rw [cell_of_row w g j C 5 (0, 0) h1]
  exact h3 j hj
theorem RowOf.free {w : World} {g m : Nat} {f : Nat → Int} (h : RowOf w g m f) (j : Nat) : w.frozen? ⟨g, j, none⟩ = false := by
  obtain ⟨C, h1, h2, h3⟩ := h
  simp [World.frozen?, h1]
theorem RowOf.iter {w : World} {g m : Nat} {f : Nat → Int} (h : RowOf w g m f) (s : ByteArray) (p : Nat) : RowOf (w.iter s p) g m f := by
  obtain ⟨C, h1, h2, h3⟩ := h
  have hlt : g < w.heap.size := by
    rcases Nat.lt_or_ge g w.heap.size with h | h
    · exact h
    · rw [Array.getElem?_eq_none h] at h1; cases h1
  exact ⟨C, (Below.heap_alloc w _ g hlt).trans h1, h2, h3⟩
theorem RowOf.lt {w : World} {g m : Nat} {f : Nat → Int} (h : RowOf w g m f) : g < w.heap.size := by
  obtain ⟨C, h1, h2, h3⟩ := h
  rcases Nat.lt_or_ge g w.heap.size with h | h
  · exact h
  · rw [Array.getElem?_eq_none h] at h1; cases h1
theorem RowOf.set {w : World} {g m : Nat} {f : Nat → Int} (h : RowOf w g m f) (q : Nat) (y : Int) (f' : Nat → Int) (hq : f' q = y) (ho : ∀ j, j ≠ q → f' j = f j) :
    RowOf (w.setCell ⟨g, q, none⟩ (.int .u8 y)) g m f' := by
  obtain ⟨C, h1, h2, h3⟩ := h
  refine ⟨C.setIfInBounds q (.int .u8 y), by simp [World.setCell, Array.getElem?_modify, h1], by simpa using h2, fun j hj => ?_⟩
  by_cases e : j = q
  · subst e
    rw [Array.getElem?_setIfInBounds_self_of_lt (by omega), hq]
  · rw [Array.getElem?_setIfInBounds_ne (by omega), h3 j hj, ho j e]
theorem RowOf.made {w : World} {base m : Nat} (h : w.ownsRow base 5 1 (.slice (some ⟨base, 0, none⟩) m m) m (madeCells (Value.int .u8 0).cells (m * 1)).toList) : RowOf w base m fun _ => 0 := by
  rcases h.2 with ⟨h1, _⟩ | ⟨g, cap, cur, hv, hb, hh, hnc, hcm, hcur, htake⟩
  · cases h1
  · simp only [Value.slice.injEq, Option.some.injEq, Addr.mk.injEq] at hv
    obtain ⟨⟨rfl, _, _⟩, _, rfl⟩ := hv
    refine ⟨cur, hh, by simpa using hcur, fun j hj => ?_⟩
    have e : cur.toList[j]? = (cur.toList.take (m * 1))[j]? := by rw [List.getElem?_take, if_pos (by omega)]
    rw [← Array.getElem?_toList, e, htake, show (Value.int IntKind.u8 0).cells = #[Value.int .u8 0] from rfl, toList_madeCells_one]
    simp [hj]
theorem RowOf.conv {w : World} {g m : Nat} {f : Nat → Int} (h : RowOf w g m f) : (convert 22 9 (.slice (some ⟨g, 0, none⟩) m m)).run Tryd.prog w = .ok (.string (strOfNums ((List.range m).map f))) w := by
  refine run_convert_bytes_arg w 22 5 Tryd.underlying22 Tryd.underlying5 g 0 m m _ (by simp) (fun i hi => ?_) 9 Tryd.underlying9
  rw [Nat.zero_add, h.cell hi]
  simp [List.getD, hi]
set_option maxRecDepth 100000 in
set_option maxHeartbeats 1600000 in
theorem implDH (s : ByteArray) (w : World) (hs : s.size ≤ 1048576) :
    Calls Tryd.prog 16 #[.string s] w fun e w' => e = .returned (.tuple #[.string (dhS s), .bool (dhB s)]) ∧ Below w.heap.size w w' := by
  by_cases hodd : s.size % 2 = 1
  · have H := Lib.hid hodd
    have h1 : ((s.size : Int) % 2 != 0) = true := by simp; omega
    clear hodd
    go_enter Tryd.func16, Tryd.ntmps16
    go_wp2
    go_ret2
    exact ⟨ret_dh (dh_odd H.out), Below.refl _ _⟩
  · obtain ⟨i0, hi, hz0, hz1, hz2⟩ := info_parts info5
    have h1 : ((s.size : Int) % 2 != 0) = false := by simp; omega
    obtain ⟨m, hm⟩ : ∃ m, s.size = 2 * m := ⟨s.size / 2, by omega⟩
    have hm2 : (s.size : Int) / 2 = (m : Int) := by omega
    have hm3 : m ≤ 1048576 := by omega
    have HM := Lib.hid hm
    clear hodd hm
    go_enter Tryd.func16, Tryd.ntmps16
    go_wp2_with (at_make; go_must (refine wpList_make_full _ rfl _ _ 22 rfl w.heap.size 5 i0 (.int .u8 0) 1 Tryd.underlying22 hi hz0 hz1 .i64 .i64 (m : Int) (m : Int) m rfl rfl rfl rfl (by rw [hz2]; omega) (by unfold maxLen; omega) (Nat.le_refl _) ?_); intro w1 hown hgrow)
    have hb1 : Below w.heap.size w w1 := (Below.refl _ _).grown hgrow (Nat.le_refl _) (fun j hj => by cases hj)
    have hrow := RowOf.made hown
    clear hown hgrow
    go_loopw [19] (fun _ wr => ∃ (k : Nat) (w2 : World), wr = w2.iter s k ∧ k ≤ s.size ∧ w2.heap.size = w1.heap.size ∧ (∀ i, i < k → 0 ≤ hv (bt s i)) ∧ RowOf w2 w.heap.size m (part s k) ∧ Below w.heap.size w w2)
      (fun _ wr => s.size - wr.iterPos w1.heap.size)
    case atStart => 
      refine ⟨0, w1, rfl, Nat.zero_le _, rfl, fun i hi => by omega, ?_, hb1⟩
      obtain ⟨C, c1, c2, c3⟩ := hrow
      exact ⟨C, c1, c2, fun j hj => by rw [c3 j hj, part_zero]⟩
    case round =>
      obtain ⟨k, w2, rfl, hk, hsz, hg, hr, hb⟩ := hrel
      have hbt := get_bt s
      have HG := Lib.hid hg
      clear hg
      have hglt : w.heap.size < w2.heap.size := hr.lt
      by_cases hlt : k < s.size
      · by_cases hv0 : hv (bt s k) < 0
        · have hnx := fun ty => run_next_any (P := Tryd.prog) w2 s k ty hlt
          rw [hsz] at hnx
          obtain ⟨r, hr1, hr2⟩ : ∃ r : Int, ((Utf8.decode s k).1 : Int) = r ∧ hv r < 0 := by
            refine ⟨_, rfl, ?_⟩
            by_cases ha : s[k].toNat < 128
            · rw [decode_ascii s k hlt ha, get_bt s k hlt]; exact hv0
            · have := (decode_high s k hlt (by omega)).1
              unfold hv; rw [if_neg (by omega), if_neg (by omega)]; omega
          rw [hr1] at hnx
          have HV := Lib.hid hv0
          clear hv0 hr1
          go_wp2_with fail
          (with_reducible refine (hexV_no _ _ hr2).mono ?_)
          rintro e w' ⟨rfl, rfl⟩
          go_wp2
          go_ret2
          exact ⟨ret_dh (dh_bad hlt HV.out), hb.alloc hb.size _⟩
        · have hp : 0 ≤ hv (bt s k) := by omega
          have ha : s[k].toNat < 128 := by
            have h1 := get_bt s k hlt
            by_cases hc : s[k].toNat < 128
            · exact hc
            · exfalso
              have : hv (bt s k) = -1 := by rw [← h1]; unfold hv; rw [if_neg (by omega), if_neg (by omega)]
              omega
          have hnx := fun ty => run_next_ascii (P := Tryd.prog) w2 s k ty hlt ha
          rw [hsz, get_bt s k hlt] at hnx
          clear ha hv0
          obtain ⟨q, HQ, hqm⟩ : ∃ q, Hid (q = k / 2) ∧ q < m := ⟨k / 2, rfl, by have := HM.out; omega⟩
          have hq : (k : Int) / 2 = (q : Int) := by rw [HQ.out]; omega
          have hqi : (q : Int) < (m : Int) := by omega
          obtain ⟨e1, f0, f15⟩ := part_at s k HG.out
          obtain ⟨f, hf, HF⟩ : ∃ f, part s k q = f ∧ Hid (part s k q = f) := ⟨_, rfl, rfl⟩
          have hcell := (hr.iter s (k + 1)).cell hqm
          have hfree := (hr.iter s (k + 1)).free q
          rw [hf] at hcell
          rw [← HQ.out, HF.out] at f0 f15
          have E1 := Lib.hid e1
          clear e1 hf
          obtain ⟨d, hd0, HD, d0, d15⟩ : ∃ d, hv (bt s k) = d ∧ Hid (hv (bt s k) = d) ∧ 0 ≤ d ∧ d ≤ 15 := ⟨_, rfl, rfl, hp, (hv_le _).2⟩
          go_wp2_with fail
          (with_reducible refine (hexV_yes _ _ hp).mono ?_)
          rintro e w' ⟨rfl, rfl⟩
          go_wp2
          rw [iter_setCell w2 s (k + 1) ⟨w.heap.size, q, none⟩ _ hglt]
          have hsz' : (w2.setCell ⟨w.heap.size, q, none⟩ (.int .u8 (f * 16 + d))).heap.size = w1.heap.size := by simpa [World.setCell] using hsz
          refine ⟨⟨k + 1, _, rfl, by omega, hsz', ?_, ?_, hb.setCell (Nat.le_refl _) _⟩, ?_⟩
          · intro i hi
            rcases Nat.lt_or_ge i k with h | h
            · exact HG.out i h
            · obtain rfl : i = k := by omega
              rw [HD.out]; exact d0
          · refine hr.set q _ _ ?_ ?_
            · have h := E1.out
              rw [← HQ.out, HF.out, HD.out] at h
              exact h
            · intro j hj
              exact part_far s k j (by rw [← HQ.out]; exact hj)
          · rw [← hsz', World.iterPos_iter, hsz', ← hsz, World.iterPos_iter]
            omega
      · have hnx := fun ty => run_next_end (P := Tryd.prog) w2 s k ty hlt
        rw [hsz] at hnx
        have hconv := (hr.iter s k).conv
        go_wp2
        go_ret2
        obtain rfl : k = s.size := by omega
        refine ⟨ret_dh ?_, hb.alloc hb.size _⟩
        have hm := HM.out
        have h := dh_ok (by omega) HG.out
        have e : bytesOf s (s.size / 2) = (List.range m).map (part s s.size) := by
          rw [show s.size / 2 = m by omega]
          unfold bytesOf
          refine List.map_congr_left fun j hj => ?_
          have : j < m := by simpa using hj
          unfold part
          rw [if_pos (by omega)]
        rw [e] at h
        exact h
/-- The last k bytes of n, most significant first. -/
def be : Nat → Nat → List Int
  | 0, _ => []
  | k + 1, n => ((n / 256 ^ k % 256 : Nat) : Int) :: be k n
theorem be_len (k n : Nat) : (be k n).length = k := by induction k with
  | zero => rfl
  | succ k ih => simp [be, ih]
theorem conv1 (w : World) (y : Int) : (convert 22 9 (.slice (some ⟨w.heap.size, 0, none⟩) 1 1)).run Tryd.prog (w.alloc (.cells #[.int .u8 y] 5)) = .ok (.string (strOfNums [y])) (w.alloc (.cells #[.int .u8 y] 5)) := by
  refine run_convert_bytes_arg _ 22 5 Tryd.underlying22 Tryd.underlying5 w.heap.size 0 1 1 [y] rfl (fun i hi => ?_) 9 Tryd.underlying9
  obtain rfl : i = 0 := by omega
  exact cell_new1 w _ _
theorem str_cons (y : Int) (l : List Int) : strOfNums [y] ++ strOfNums l = strOfNums (y :: l) := by
  unfold strOfNums
  rw [ByteArray.mk_append_mk]
  simp
def efS (n k : Nat) : ByteArray := if n / 256 ^ k = 0 then strOfNums (be k n) else ⟨#[]⟩
theorem efS_yes {n k : Nat} (h : n / 256 ^ k = 0) : efS n k = strOfNums (be k n) := if_pos h
theorem efS_no {n k : Nat} (h : ¬ n / 256 ^ k = 0) : efS n k = ⟨#[]⟩ := if_neg h
theorem be_succ (j n m : Nat) (h : n / 256 ^ j = m) : be (j + 1) n = ((m % 256 : Nat) : Int) :: be j n := by rw [be, h]
set_option maxRecDepth 100000 in
set_option maxHeartbeats 800000 in
theorem specEF (n k : Nat) (w : World) (h1 : 1 ≤ k) (h7 : k ≤ 7) (hn : n ≤ 9223372036854775807) :
    Calls Tryd.prog 14 #[.int .i64 n, .int .i64 k] w fun e w' => e = .returned (.string (efS n k)) ∧ Below w.heap.size w w' := by
  go_enter Tryd.func14, Tryd.ntmps14
  go_wp2_with (go_at_call 26; refine (l1In_yes _ _ _ _ (by omega) (by omega)).mono ?_; rintro e w' ⟨rfl, rfl⟩)
  go_loopw [0, 5, 6] (fun x o i wr => ∃ (j : Nat), x = .int .i64 ((n / 256 ^ j : Nat) : Int) ∧ j ≤ k ∧ i = .int .i64 j ∧ o = .string (strOfNums (be j n)) ∧ Below w.heap.size w wr)
    (fun _ _ i _ => k - (intOf i).toNat)
  case atStart => exact ⟨0, by simp, by omega, rfl, rfl, Below.refl _ _⟩
  case round =>
    obtain ⟨j, rfl, hj, rfl, rfl, hb⟩ := hrel
    obtain ⟨m, HM, hm, hm2⟩ : ∃ m, Hid (n / 256 ^ j = m) ∧ ((n / 256 ^ j : Nat) : Int) = m ∧ m ≤ 9223372036854775807 := ⟨_, rfl, rfl, Nat.le_trans (Nat.div_le_self _ _) hn⟩
    rw [hm]
    clear hm
    by_cases hlt : j < k
    · have hconv := fun y => conv1 wr y
      have hs1 : ∀ y : Int, (strOfNums [y]).size = 1 := fun y => strOfNums_size [y]
      have hs2 : (strOfNums (be j n)).size = j := by rw [strOfNums_size, be_len]
      go_wp2
      refine ⟨⟨j + 1, ?_, by omega, by go_num, ?_, hb.alloc hb.size _⟩, by simp [intOf]; omega⟩
      · rw [Nat.pow_succ, ← Nat.div_div_eq_div_mul, HM.out]; simp
      · rw [str_cons, be_succ j n m HM.out]; simp
    · obtain rfl : j = k := by omega
      by_cases hm0 : m = 0
      · have HZ := Lib.hid hm0
        have hm1 : ¬ 0 < m := by omega
        clear hm0
        go_wp2
        go_ret
        exact ⟨ret_str (efS_yes (HM.out.trans HZ.out)).symm, hb⟩
      · have hm1 : 0 < m := by omega
        go_wp2
        go_ret
        exact ⟨ret_str (efS_no (by rw [HM.out]; exact hm0)).symm, hb⟩
theorem be_range (n : Nat) : ∀ k, (List.range k).map (fun i => ((n / 256 ^ (k - 1 - i) % 256 : Nat) : Int)) = be k n := by
  intro k
  induction k with
  | zero => rfl
  | succ k ih =>
    rw [List.range_succ_eq_map, List.map_cons, List.map_map, be, ← ih]
    simp only [Nat.add_sub_cancel, Nat.sub_zero, List.cons.injEq, true_and]
    refine List.map_congr_left fun i hi => ?_
    simp only [Function.comp]
    rw [show k - (i + 1) = k - 1 - i by omega]
/-- Byte i of the row behind j rounds. -/
def rowF (n k j i : Nat) : Int := if k ≤ i + j then ((n / 256 ^ (k - 1 - i) % 256 : Nat) : Int) else 0
theorem rowF_far {n k j q i : Nat} (h : q + j + 1 = k) (hi : i ≠ q) : rowF n k (j + 1) i = rowF n k j i := by
  unfold rowF
  by_cases h1 : k ≤ i + j
  · rw [if_pos h1, if_pos (by omega)]
  · rw [if_neg h1, if_neg (by omega)]
theorem rowF_at {n k j q m : Nat} (h : q + j + 1 = k) (hm : n / 256 ^ j = m) : rowF n k (j + 1) q = ((m % 256 : Nat) : Int) := by
  unfold rowF
  rw [if_pos (by omega), show k - 1 - q = j by omega, hm]
theorem rowF_all (n k : Nat) : (List.range k).map (rowF n k k) = be k n := by
  rw [← be_range]
  refine List.map_congr_left fun i hi => ?_
  unfold rowF
  rw [if_pos (by omega)]
theorem pow_byte (k : Nat) (h1 : 1 ≤ k) (h7 : k ≤ 7) : ∃ P : Nat, wrap64 ((2 : Int) ^ (8 * k)) = (P : Int) ∧ Hid (P = 256 ^ k) := by
  rcases (show k = 1 ∨ k = 2 ∨ k = 3 ∨ k = 4 ∨ k = 5 ∨ k = 6 ∨ k = 7 by omega) with rfl | rfl | rfl | rfl | rfl | rfl | rfl
  · exact ⟨256, by unfold wrap64; decide, rfl⟩
  · exact ⟨65536, by unfold wrap64; decide, rfl⟩
  · exact ⟨16777216, by unfold wrap64; decide, rfl⟩
  · exact ⟨4294967296, by unfold wrap64; decide, rfl⟩
  · exact ⟨1099511627776, by unfold wrap64; decide, rfl⟩
  · exact ⟨281474976710656, by unfold wrap64; decide, rfl⟩
  · exact ⟨72057594037927936, by unfold wrap64; decide, rfl⟩
set_option maxRecDepth 100000 in
set_option maxHeartbeats 800000 in
theorem implEF (n k : Nat) (w : World) (h1 : 1 ≤ k) (h7 : k ≤ 7) (hn : n ≤ 9223372036854775807) :
    Calls Tryd.prog 12 #[.int .i64 n, .int .i64 k] w fun e w' => e = .returned (.string (efS n k)) ∧ Below w.heap.size w w' := by
  obtain ⟨i0, hi, hz0, hz1, hz2⟩ := info_parts info5
  obtain ⟨P, hP, HP⟩ := pow_byte k h1 h7
  by_cases hlt : n < P
  · have hn0 : 0 ≤ (n : Int) := by omega
    have hd1 : decide ((n : Int) < 0) = false := by simp
    have hd2 : decide ((P : Int) ≤ (n : Int)) = false := by simp; omega
    have HE := Lib.hid (show n / 256 ^ k = 0 by rw [← HP.out]; exact Nat.div_eq_of_lt hlt)
    go_enter Tryd.func12, Tryd.ntmps12
    go_wp2_with (first
      | (go_at_call 25; refine (fw_yes _ _ (by omega) (by omega)).mono ?_; rintro e w' ⟨rfl, rfl⟩)
      | (at_make; go_must (refine wpList_make_full _ rfl _ _ 22 rfl w.heap.size 5 i0 (.int .u8 0) 1 Tryd.underlying22 hi hz0 hz1 .i64 .i64 (k : Int) (k : Int) k rfl rfl rfl rfl (by rw [hz2]; omega) (by unfold maxLen; omega) (Nat.le_refl _) ?_); rotate_right; intro w1 hown hgrow))
    have hb1 : Below w.heap.size w w1 := (Below.refl _ _).grown hgrow (Nat.le_refl _) (fun j hj => by cases hj)
    have hrow := RowOf.made hown
    clear hown hgrow
    go_loopw [0, 6] (fun x i wr => ∃ (j : Nat) (y : Int), x = .int .i64 ((n / 256 ^ j : Nat) : Int) ∧ j ≤ k ∧ y + j + 1 = k ∧ i = .int .i64 y ∧ RowOf wr w.heap.size k (rowF n k j) ∧ Below w.heap.size w wr)
      (fun _ i _ => (intOf i + 1).toNat)
    case atStart =>
      refine ⟨0, (k : Int) - 1, by simp, by omega, by omega, by simp, ?_, hb1⟩
      obtain ⟨C, c1, c2, c3⟩ := hrow
      exact ⟨C, c1, c2, fun j hj => by rw [c3 j hj]; unfold rowF; rw [if_neg (by omega)]⟩
    case round =>
      obtain ⟨j, y, rfl, hj, hy, rfl, hr, hb⟩ := hrel
      obtain ⟨m, HM, hm, hm2⟩ : ∃ m, Hid (n / 256 ^ j = m) ∧ ((n / 256 ^ j : Nat) : Int) = m ∧ m ≤ 9223372036854775807 := ⟨_, rfl, rfl, Nat.le_trans (Nat.div_le_self _ _) hn⟩
      rw [hm]
      clear hm
      by_cases hjk : j < k
      · obtain ⟨q, hq, hqk⟩ : ∃ q : Nat, y = q ∧ Hid (q + j + 1 = k) := ⟨y.toNat, by omega, show _ = _ by omega⟩
        subst hq
        have hqlt : q < k := by have := hqk.out; omega
        have hfree := hr.free q
        have hcell := hr.cell hqlt
        clear hy
        go_wp2
        refine ⟨⟨j + 1, (q : Int) - 1, ?_, by omega, by have := hqk.out; omega, rfl, ?_, hb.setCell (Nat.le_refl _) _⟩, by simp [intOf]⟩
        · rw [Nat.pow_succ, ← Nat.div_div_eq_div_mul, HM.out]; simp
        · exact hr.set q _ _ (by rw [rowF_at hqk.out HM.out]; simp) (fun i hi => rowF_far hqk.out hi)
      · obtain rfl : j = k := by omega
        obtain rfl : y = -1 := by omega
        have hconv := hr.conv
        clear hy
        go_wp2
        go_ret
        exact ⟨ret_str (by rw [rowF_all, efS_yes HE.out]), hb⟩
  · have hge : (P : Int) ≤ (n : Int) := by omega
    have hd1 : decide ((n : Int) < 0) = false := by simp
    have HE := Lib.hid (show ¬ n / 256 ^ k = 0 by rw [← HP.out, Nat.div_eq_zero_iff]; have := HP.out; have : 0 < 256 ^ k := Nat.pow_pos (by omega); omega)
    go_enter Tryd.func12, Tryd.ntmps12
    go_wp2_with (go_at_call 25; refine (fw_yes _ _ (by omega) (by omega)).mono ?_; rintro e w' ⟨rfl, rfl⟩)
    go_ret
    exact ⟨ret_str (efS_no HE.out).symm, Below.refl _ _⟩
theorem specEF_no (n k : Int) (w : World) (h : k < 1 ∨ 7 < k ∨ n < 0) :
    Calls Tryd.prog 14 #[.int .i64 n, .int .i64 k] w fun e w' => e = .returned (.string ⟨#[]⟩) ∧ Below w.heap.size w w' := by
  by_cases ha : k < 1
  · clear h
    go_enter Tryd.func14, Tryd.ntmps14
    go_wp2_with (go_at_call 26; refine (l1In_no1 _ _ _ _ ha).mono ?_; rintro e w' ⟨rfl, rfl⟩)
    go_ret
    exact ⟨rfl, Below.refl _ _⟩
  · by_cases hb : 7 < k
    · have ha' : 1 ≤ k := by omega
      clear h
      go_enter Tryd.func14, Tryd.ntmps14
      go_wp2_with (go_at_call 26; refine (l1In_no2 _ _ _ _ ha' hb).mono ?_; rintro e w' ⟨rfl, rfl⟩)
      go_ret
      exact ⟨rfl, Below.refl _ _⟩
    · have hc : n < 0 := by omega
      have ha' : 1 ≤ k := by omega
      have hb' : k ≤ 7 := by omega
      clear h
      go_enter Tryd.func14, Tryd.ntmps14
      go_wp2_with (go_at_call 26; refine (l1In_yes _ _ _ _ ha' hb').mono ?_; rintro e w' ⟨rfl, rfl⟩)
      go_ret
      exact ⟨rfl, Below.refl _ _⟩
theorem implEF_no (n k : Int) (w : World) (h : k < 1 ∨ 7 < k ∨ n < 0) :
    Calls Tryd.prog 12 #[.int .i64 n, .int .i64 k] w fun e w' => e = .returned (.string ⟨#[]⟩) ∧ Below w.heap.size w w' := by
  by_cases ha : k < 1 ∨ 7 < k
  · clear h
    go_enter Tryd.func12, Tryd.ntmps12
    go_wp2_with (go_at_call 25; refine (fw_no _ _ ha).mono ?_; rintro e w' ⟨rfl, rfl⟩)
    go_ret
    exact ⟨rfl, Below.refl _ _⟩
  · have hc : n < 0 := by omega
    have ha' : 1 ≤ k := by omega
    have hb' : k ≤ 7 := by omega
    clear h
    go_enter Tryd.func12, Tryd.ntmps12
    go_wp2_with (go_at_call 25; refine (fw_yes _ _ ha' hb').mono ?_; rintro e w' ⟨rfl, rfl⟩)
    go_ret
    exact ⟨rfl, Below.refl _ _⟩
/-- The low seven bits of byte k. -/
def low7 (s : ByteArray) (k : Nat) : Nat := (bt s k).toNat % 128
def val (s : ByteArray) : Nat → Nat
  | 0 => 0
  | k + 1 => val s k + low7 s k * 128 ^ k
theorem low7_lt (s : ByteArray) (k : Nat) : low7 s k < 128 := Nat.mod_lt _ (by omega)
theorem val_lt (s : ByteArray) (k : Nat) : val s k < 128 ^ k := by
  induction k with
  | zero => simp [val]
  | succ k ih =>
    have h := low7_lt s k
    rw [val, Nat.pow_succ]
    have : low7 s k * 128 ^ k ≤ 127 * 128 ^ k := Nat.mul_le_mul_right _ (by omega)
    omega
theorem val_le (s : ByteArray) (k : Nat) (h : k ≤ 7) : val s k ≤ 562949953421311 := by
  have h1 := val_lt s k
  have h2 : (128 : Nat) ^ k ≤ 128 ^ 7 := Nat.pow_le_pow_right (by omega) h
  have h3 : (128 : Nat) ^ 7 = 562949953421312 := by decide
  omega
/-- The first k bytes as numbers. -/
def front (s : ByteArray) (k : Nat) : List Int := (List.range k).map fun i => bt s i
theorem front_get {s : ByteArray} {k i : Nat} (h : i < k) : (front s k)[i]? = some (bt s i) := by simp [front, h]
theorem front_len (s : ByteArray) (k : Nat) : (front s k).length = k := by simp [front]
theorem vr_shape : ∀ (m n : Nat), n < 2 ^ m → ∀ (i : Nat) (y : Int), (vr n)[i]? = some y → (i + 1 = (vr n).length ∧ y < 128) ∨ (i + 1 < (vr n).length ∧ 128 ≤ y) := by
  intro m
  induction m with
  | zero =>
    intro n h i y hy
    rw [vr_low (by simp at h; omega)] at hy ⊢
    rcases i with _ | i
    · left; simp at hy; simp; omega
    · simp at hy
  | succ m ih =>
    intro n h i y hy
    by_cases hl : n < 128
    · rw [vr_low hl] at hy ⊢
      rcases i with _ | i
      · left; simp at hy; simp; omega
      · simp at hy
    · rw [vr_high (by omega)] at hy ⊢
      rcases i with _ | i
      · right
        have := vr_pos (n / 128)
        simp at hy
        simp only [List.length_cons]
        omega
      · have := ih (n / 128) (by rw [Nat.pow_succ] at h; omega) i y (by simpa using hy)
        simp only [List.length_cons]
        omega
/-- The first k bytes are the shortest form of what they spell. -/
def G (s : ByteArray) (k : Nat) : Prop := vr (val s k) = front s k
theorem G_last {s : ByteArray} {k : Nat} (h : G s (k + 1)) : bt s k < 128 := by
  have h1 := vr_shape _ (val s (k + 1)) Nat.lt_two_pow_self k (bt s k) (by rw [h, front_get (by omega)])
  rw [h, front_len] at h1
  omega
theorem G_inner {s : ByteArray} {k i : Nat} (h : G s k) (hi : i + 1 < k) : 128 ≤ bt s i := by
  have h1 := vr_shape _ (val s k) Nat.lt_two_pow_self i (bt s i) (by rw [h, front_get (by omega)])
  rw [h, front_len] at h1
  omega
/-- What DecodeVarint answers. -/
def DV (s : ByteArray) (a b : Int) : Prop :=
  (∃ k, 1 ≤ k ∧ k ≤ 7 ∧ k ≤ s.size ∧ G s k ∧ a = (val s k : Nat) ∧ b = (k : Nat)) ∨ ((∀ k, 1 ≤ k → k ≤ 7 → k ≤ s.size → ¬ G s k) ∧ a = 0 ∧ b = 0)
theorem G_one {s : ByteArray} {k l : Nat} (hk : 1 ≤ k) (hl : 1 ≤ l) (h : G s k) (h' : G s l) : k = l := by
  rcases Nat.lt_trichotomy k l with hh | hh | hh
  · obtain ⟨k, rfl⟩ : ∃ j, k = j + 1 := ⟨k - 1, by omega⟩
    have h1 := G_last h
    have h2 := G_inner (i := k) h' (by omega)
    omega
  · exact hh
  · obtain ⟨l, rfl⟩ : ∃ j, l = j + 1 := ⟨l - 1, by omega⟩
    have h1 := G_last h'
    have h2 := G_inner (i := l) h (by omega)
    omega
theorem DV_one {s : ByteArray} {a b c d : Int} (h : DV s a b) (h' : DV s c d) : a = c ∧ b = d := by
  rcases h with ⟨k, k1, k2, k3, k4, rfl, rfl⟩ | ⟨k1, rfl, rfl⟩ <;> rcases h' with ⟨l, l1, l2, l3, l4, rfl, rfl⟩ | ⟨l1, rfl, rfl⟩
  · obtain rfl := G_one k1 l1 k4 l4
    exact ⟨rfl, rfl⟩
  · exact absurd k4 (l1 k k1 k2 k3)
  · exact absurd l4 (k1 l l1 l2 l3)
  · exact ⟨rfl, rfl⟩
theorem DV_none {s : ByteArray} {i : Nat} (hi : ∀ j, j < i → 128 ≤ bt s j) (he : ¬ (i < s.size ∧ i < 7)) : DV s 0 0 := by
  refine .inr ⟨fun k h1 h2 h3 hg => ?_, rfl, rfl⟩
  obtain ⟨k, rfl⟩ : ∃ j, k = j + 1 := ⟨k - 1, by omega⟩
  have := G_last hg
  have := hi k (by omega)
  omega
theorem DV_not {s : ByteArray} {i : Nat} (hi : ∀ j, j < i → 128 ≤ bt s j) (hl : bt s i < 128) (he : ¬ G s (i + 1)) : DV s 0 0 := by
  refine .inr ⟨fun k h1 h2 h3 hg => ?_, rfl, rfl⟩
  obtain ⟨k, rfl⟩ : ∃ j, k = j + 1 := ⟨k - 1, by omega⟩
  rcases Nat.lt_trichotomy k i with hh | hh | hh
  · have := G_last hg
    have := hi k hh
    omega
  · subst hh; exact he hg
  · have := G_inner (i := i) hg (by omega)
    omega
theorem ext_front (s : ByteArray) (k : Nat) (h : k ≤ s.size) : s.extract 0 k = strOfNums (front s k) := by
  apply ByteArray.ext
  apply Array.ext'
  rw [strOfNums_data]
  apply List.ext_getElem?
  intro i
  rw [List.getElem?_map]
  by_cases hi : i < k
  · rw [front_get hi]
    have h1 := get_bt s i (by omega)
    simp only [ByteArray.data_extract, Array.toList_extract, Option.map_some, ← h1]
    rw [List.extract_eq_take_drop]
    simp [hi]
    rw [Array.getElem?_eq_getElem (show i < s.data.size from by show i < s.size; omega)]
    rfl
  · simp only [ByteArray.data_extract, Array.toList_extract]
    rw [List.extract_eq_take_drop]
    rw [List.getElem?_eq_none (by simp; omega), List.getElem?_eq_none (by rw [front_len]; omega)]
    rfl
theorem num_inj {a b : List Int} (ha : ∀ y ∈ a, 0 ≤ y ∧ y ≤ 255) (hb : ∀ y ∈ b, 0 ≤ y ∧ y ≤ 255) (h : strOfNums a = strOfNums b) : a = b := by
  have h1 : (strOfNums a).data.toList = (strOfNums b).data.toList := by rw [h]
  rw [strOfNums_data, strOfNums_data] at h1
  have h2 := congrArg (List.map fun c : UInt8 => (c.toNat : Int)) h1
  simp only [List.map_map] at h2
  have key : ∀ l : List Int, (∀ y ∈ l, 0 ≤ y ∧ y ≤ 255) → l.map ((fun c : UInt8 => (c.toNat : Int)) ∘ fun n : Int => UInt8.ofNat n.toNat) = l := by
    intro l hl
    conv => rhs; rw [← List.map_id l]
    refine List.map_congr_left fun y hy => ?_
    have := hl y hy
    simp only [Function.comp, UInt8.toNat_ofNat', id]
    omega
  rwa [key a ha, key b hb] at h2
theorem vr_byte : ∀ (m n : Nat), n < 2 ^ m → ∀ y ∈ vr n, 0 ≤ y ∧ y ≤ 255 := by
  intro m
  induction m with
  | zero => intro n h y hy; rw [vr_low (by simp at h; omega)] at hy; simp at hy; simp at h; omega
  | succ m ih =>
    intro n h y hy
    by_cases hl : n < 128
    · rw [vr_low hl] at hy; simp at hy; omega
    · rw [vr_high (by omega)] at hy
      rcases List.mem_cons.1 hy with rfl | hy
      · omega
      · exact ih (n / 128) (by rw [Nat.pow_succ] at h; omega) y hy
theorem front_byte (s : ByteArray) (k : Nat) : ∀ y ∈ front s k, 0 ≤ y ∧ y ≤ 255 := by
  intro y hy
  simp only [front, List.mem_map] at hy
  obtain ⟨i, _, rfl⟩ := hy
  exact ⟨bt_nonneg _ _, bt_le _ _⟩
theorem G_iff (s : ByteArray) (k : Nat) (h : k ≤ s.size) : strOfNums (vr (val s k)) = s.extract 0 k ↔ G s k := by
  rw [ext_front s k h]
  exact ⟨fun e => num_inj (vr_byte _ _ Nat.lt_two_pow_self) (front_byte s k) e, fun e => by rw [show vr (val s k) = front s k from e]⟩
/-- The model adds the groups from the last one down. -/
theorem val_down {s : ByteArray} {k q n : Nat} (h : n * 128 ^ (q + 1) + val s (q + 1) = val s k) : (n * 128 + low7 s q) * 128 ^ q + val s q = val s k := by
  rw [← h, val, Nat.pow_succ, Nat.add_mul, Nat.mul_assoc, Nat.mul_comm 128 (128 ^ q)]
  omega
theorem val_top {s : ByteArray} {k q n : Nat} (h : n * 128 ^ q + val s q = val s k) : n ≤ val s k := by
  have : n * 1 ≤ n * 128 ^ q := Nat.mul_le_mul_left n (Nat.pow_pos (by omega))
  omega
theorem str_same {a b : ByteArray} (h : a = b) : (a.toList == b.toList) = true := by simp [h]
theorem str_other {a b : ByteArray} (h : ¬ a = b) : (a.toList == b.toList) = false := by
  rw [beq_eq_false_iff_ne]
  intro e
  rw [ByteArray.toList_eq, ByteArray.toList_eq] at e
  exact h (ByteArray.ext (Array.toList_inj.1 e))
theorem eq_yes {s : ByteArray} {n k : Nat} (hn : n = val s k) (h : k ≤ s.size) (hg : G s k) : ((strOfNums (vr n)).toList == (s.extract 0 k).toList) = true :=
  str_same (by rw [hn]; exact (G_iff s k h).2 hg)
theorem eq_no {s : ByteArray} {n k : Nat} (hn : n = val s k) (h : k ≤ s.size) (hg : ¬ G s k) : ((strOfNums (vr n)).toList == (s.extract 0 k).toList) = false :=
  str_other (by rw [hn]; exact fun e => hg ((G_iff s k h).1 e))
/-- A pair of numbers that is what DecodeVarint answers. -/
def SaysDV (s : ByteArray) (w : World) (e : Ending) (w' : World) : Prop := ∃ a b : Int, DV s a b ∧ e = .returned (.tuple #[.int .i64 a, .int .i64 b]) ∧ Below w.heap.size w w'
theorem shift7 (d i : Nat) (hd : d ≤ 127) (hi : i ≤ 6) : ∃ X : Nat, wrap64 ((d : Int) * 2 ^ (7 * i)) = (X : Int) ∧ Hid (X = d * 128 ^ i) ∧ X ≤ 562949953421311 := by
  have h1 : d * 128 ^ i ≤ 127 * 128 ^ 6 := Nat.mul_le_mul hd (Nat.pow_le_pow_right (by omega) hi)
  have h2 : (127 : Nat) * 128 ^ 6 ≤ 562949953421311 := by decide
  have h3 : (128 : Nat) ^ i = 2 ^ (7 * i) := by rw [Nat.pow_mul]
  refine ⟨d * 128 ^ i, ?_, rfl, by omega⟩
  have h4 : (d : Int) * 2 ^ (7 * i) = ((d * 128 ^ i : Nat) : Int) := by rw [h3, Int.natCast_mul, Int.natCast_pow]; rfl
  rw [h4, IntWalk.wrap64_in _ (by omega)]
theorem or_up (n X d i : Nat) (hi : i ≤ 6) (hn : n < 128 ^ i) (hX : X = d * 128 ^ i) (hX2 : X ≤ 562949953421311) : bits .or .i64 (n : Int) (X : Int) = ((n + X : Nat) : Int) := by
  have h3 : (128 : Nat) ^ i = 2 ^ (7 * i) := by rw [Nat.pow_mul]
  have h5 : (128 : Nat) ^ i ≤ 128 ^ 6 := Nat.pow_le_pow_right (by omega) hi
  have h6 : (128 : Nat) ^ 6 ≤ 562949953421311 := by decide
  have h7 : ((2 ^ (7 * i) : Nat) : Int) = (2 : Int) ^ (7 * i) := Int.natCast_pow 2 (7 * i)
  have h8 : X % 2 ^ (7 * i) = 0 := by rw [hX, h3]; exact Nat.mul_mod_left _ _
  rw [bits_join_low .i64 63 (by decide) wraps_i64 (7 * i) (n : Int) (X : Int) (by omega) (by rw [← h7]; omega) (by omega) (by omega) (by rw [← h7]; omega) (by omega)]
  simp
set_option maxRecDepth 100000 in
set_option maxHeartbeats 1600000 in
theorem implDV (s : ByteArray) (w : World) (hs : s.size ≤ 1048576) : Calls Tryd.prog 10 #[.string s] w (SaysDV s w) := by
  go_enter Tryd.func10, Tryd.ntmps10
  go_wp2
  go_loopw [4, 5] (fun x y wr => ∃ i : Nat, i ≤ 7 ∧ i ≤ s.size ∧ y = .int .i64 i ∧ x = .int .i64 (val s i : Nat) ∧ (∀ j, j < i → 128 ≤ bt s j) ∧ Below w.heap.size w wr)
    (fun _ y _ => 8 - (intOf y).toNat)
  case atStart => exact ⟨0, by omega, by omega, rfl, rfl, fun j h1 => by omega, Below.refl _ _⟩
  case round =>
    obtain ⟨i, i7, is, rfl, rfl, hn, hb⟩ := hrel
    have HN := Lib.hid hn
    clear hn
    by_cases hk : i < s.size ∧ i < 7
    · obtain ⟨his, hi7⟩ := hk
      have hvl := val_le s i i7
      have hvl1 := val_le s (i + 1) (by omega)
      have hvlt := val_lt s i
      obtain ⟨d, hd, HD, hd7⟩ : ∃ d : Nat, bt s i % 128 = (d : Int) ∧ Hid (low7 s i = d) ∧ d ≤ 127 := ⟨low7 s i, by have := bt_nonneg s i; unfold low7; omega, rfl, by have := low7_lt s i; omega⟩
      have hbn := bt_nonneg s i
      have hbl := bt_le s i
      obtain ⟨X, hX, HX, hXl⟩ := shift7 d i hd7 (by omega)
      obtain ⟨N, hN, HNN, hNl⟩ : ∃ N : Nat, bits .or .i64 ((val s i : Nat) : Int) (X : Int) = (N : Int) ∧ Hid (N = val s (i + 1)) ∧ N ≤ 562949953421311 := by
        refine ⟨val s (i + 1), ?_, rfl, hvl1⟩
        rw [or_up (val s i) X d i (by omega) hvlt HX.out hXl, val, HD.out, HX.out]
      have hbt := get_bt s
      have hd2 : (bt s i).tmod 128 = (d : Int) := by rw [IntWalk.rem_in _ _ hbn]; exact hd
      clear hvl hvl1 hvlt
      by_cases h128 : 128 ≤ bt s i
      · go_wp2
        refine ⟨⟨i + 1, by omega, by omega, by simp, by rw [HNN.out], fun j hj => ?_, hb⟩, by simp [intOf]; omega⟩
        rcases Nat.lt_or_ge j i with h | h
        · exact HN.out j h
        · obtain rfl : j = i := by omega
          exact h128
      · have hlo : bt s i < 128 := by omega
        have h10 : (0 : Int) ≤ (i : Int) + 1 := by omega
        have h11 : (i : Int) + 1 ≤ (s.size : Int) := by omega
        have h12 : IntKind.i64.wrap ((i : Int) + 1) = (i : Int) + 1 := IntWalk.i64_in _ (by omega)
        have h13 : ((i : Int) + 1).toNat = i + 1 := by omega
        by_cases hg : G s (i + 1)
        · have hEq := eq_yes HNN.out (by omega) hg
          go_wp2
          go_region_law (go_simp; go_at_call 9; (with_reducible refine (implEV_yes N _ hNl).mono ?_); rintro e w' ⟨rfl, hb1⟩)
          all_goals go_wp2
          all_goals go_ret2
          all_goals exact ⟨_, _, .inl ⟨i + 1, by omega, by omega, his, hg, by rw [HNN.out], by simp⟩, rfl, hb.drew.trans (hb1.mono hb.size)⟩
        · have hEq := eq_no HNN.out (by omega) hg
          have HG := Lib.hid hg
          clear hg
          go_wp2
          go_region_law (go_simp; go_at_call 9; (with_reducible refine (implEV_yes N _ hNl).mono ?_); rintro e w' ⟨rfl, hb1⟩)
          all_goals go_wp2
          all_goals go_ret2
          all_goals exact ⟨0, 0, DV_not HN.out hlo HG.out, rfl, hb.drew.trans (hb1.mono hb.size)⟩
    · have HE := Lib.hid hk
      by_cases his : i < s.size
      · have hi7 : ¬ i < 7 := fun h => hk ⟨his, h⟩
        clear hk
        go_wp2
        go_ret2
        exact ⟨0, 0, DV_none HN.out HE.out, rfl, hb⟩
      · clear hk
        go_wp2
        go_ret2
        exact ⟨0, 0, DV_none HN.out HE.out, rfl, hb⟩

end Go.Proofs.YtamdmflofbpjkaaDoor.Num
