/- The contracts of both EncodeHex. -/
import Derived.Test.YtamdmflofbpjkaaB
import Derived.Deep.AppendLies
import Derived.Deep.RegionLaw
import Derived.BigRegion
namespace Go.Proofs.Ytamdmflofbpjkaa
open Go.ChangeShapes Go.WideShapes Go.ChangeAt Go.RowKit
set_option linter.unusedVariables false

def hd (k : Nat) : Int := if k < 10 then 48 + k else 87 + k
def hexL (l : List UInt8) : List Int := l.flatMap fun c => [hd (c.toNat / 16), hd (c.toNat % 16)]
theorem hexL_snoc (l : List UInt8) (c : UInt8) : hexL (l ++ [c]) = hexL l ++ [hd (c.toNat / 16), hd (c.toNat % 16)] := by
  simp [hexL]
theorem hexL_len (l : List UInt8) : (hexL l).length = 2 * l.length := by
  induction l with
  | nil => rfl
  | cons c l ih => simp only [hexL, List.flatMap_cons, List.length_append, List.length_cons, List.length_nil] at *; omega

theorem hd_at (k : Nat) (h : k < 16) : (((⟨#[48, 49, 50, 51, 52, 53, 54, 55, 56, 57, 97, 98, 99, 100, 101, 102]⟩ : ByteArray)[k]'h).toNat : Int) = hd k := by
  have e : ∀ j : Fin 16, (((⟨#[48, 49, 50, 51, 52, 53, 54, 55, 56, 57, 97, 98, 99, 100, 101, 102]⟩ : ByteArray)[j.val]'(by have := j.isLt; exact this)).toNat : Int) = hd j.val := by decide
  exact e ⟨k, h⟩

theorem digit_any (k : Nat) (w : World) (h : k < 16) : Calls Try.prog 23 #[.int .i64 k] w fun e w' => e = .returned (.int .u8 (hd k)) ∧ w = w' := by
  go_enter Try.func23, Try.ntmps23
  go_wp2
  go_ret
  exact ⟨by rw [← hd_at k h]; rfl, rfl⟩

/-- Two bytes appended to a row of bytes that the call owns, as one step of a region that draws. -/
theorem stepApp2 {w : World} {ops : Array Oper} {o : Oper} {a : Act} {K : Act → World → Prop} {Q : Exit → Act → World → Prop} {E : Prop} (hgd : o.guard = none) (s x : Operand)
    (ho : o.op = .call { callee := .builtin .append, args := #[s, x], argTypes := #[36, 36] })
    (base : Nat) (v : Value) (n : Nat) (xs : List Int) (hs : a.eval s = v) (hown : w.ownsRow base 5 1 v n (xs.map (Value.int .u8)))
    (b : Nat) (c : Nat) (y z : Int) (hx : a.eval x = .slice (some ⟨b, 0, none⟩) 2 c) (hc0 : w.cell? ⟨b, 0, none⟩ = some (.int .u8 y)) (hc1 : w.cell? ⟨b, 1, none⟩ = some (.int .u8 z))
    (hn : n ≤ 140737488351232) (hbase : base ≤ w.heap.size)
    (h : ∀ g cap w', w'.ownsRow base 5 1 (.slice (some ⟨g, 0, none⟩) (n + 2) cap) (n + 2) ((xs ++ [y, z]).map (Value.int .u8)) → w.grownBy w' v.ownBlock → K (a.put o.dst (.slice (some ⟨g, 0, none⟩) (n + 2) cap)) w') :
    if Region.wanted o (yielded ops a.tmps) = true then Oper.wp Try.prog o a w K Q else E := by
  obtain ⟨i0, hi, hz0, hz1, hz2⟩ := info_parts info5
  refine step_append_lies w hgd s x 36 ho base 5 i0 (.int .u8 0) 1 1 Try.underlying36 hi hz0 hz1 hz2 rfl (by decide) v n _ hs hown ⟨b, 0, none⟩ 2 c [.int .u8 y, .int .u8 z] hx rfl ?_ ?_ (by decide) (by unfold maxLen; omega) (by omega) hbase _ rfl ?_
  · intro j u hj
    match j, hj with
    | 0, hj => simp at hj; subst hj; simpa [Addr.add] using hc0
    | 1, hj => simp at hj; subst hj; simpa [Addr.add] using hc1
  · intro u hu; simp at hu; rcases hu with rfl | rfl <;> rfl
  · intro g cap w' h1 h2 _ _
    exact h g cap w' (by simpa using h1) h2
theorem ret_str {a b : ByteArray} (h : a = b) : Ending.returned (.string a) = .returned (.string b) := by rw [h]
theorem hex_step {w : World} {B : Nat} {v : Value} {s : ByteArray} {k q r : Nat} (h : k < s.size) (HQ : Hid (q = s[k].toNat / 16)) (HR : Hid (r = s[k].toNat % 16))
    (ho : w.ownsRow B 5 1 v (2 * k + 2) ((hexL (s.data.toList.take k) ++ [hd q, hd r]).map (Value.int .u8))) :
    w.ownsRow B 5 1 v (2 * (k + 1)) ((hexL (s.data.toList.take (k + 1))).map (Value.int .u8)) := by
  rw [show 2 * (k + 1) = 2 * k + 2 by omega, take_snoc s k h, hexL_snoc, ← HQ.out, ← HR.out]; exact ho
theorem cell_new2a (w : World) (x y : Value) (t : TypeId) : (w.alloc (.cells #[x, y] t)).cell? ⟨w.heap.size, 0, none⟩ = some x := by
  rw [World.cell?_alloc_at _ _ _ _ rfl]; rfl
theorem cell_new2b (w : World) (x y : Value) (t : TypeId) : (w.alloc (.cells #[x, y] t)).cell? ⟨w.heap.size, 1, none⟩ = some y := by
  rw [World.cell?_alloc_at _ _ _ _ rfl]; rfl

set_option maxRecDepth 100000 in
set_option maxHeartbeats 800000 in
theorem implEH (s : ByteArray) (w : World) (hs : s.size ≤ 1048576) :
    Calls Try.prog 18 #[.string s] w fun e w' => e = .returned (.string (strOfNums (hexL s.data.toList))) ∧ Below w.heap.size w w' := by
  obtain ⟨i0, hi, hz0, hz1, hz2⟩ := info_parts info5
  go_enter Try.func18, Try.ntmps18
  go_wp2_with (at_make; go_must (refine wpList_make_own _ rfl _ _ 36 rfl w.heap.size 5 i0 (.int .u8 0) 1 Try.underlying36 hi hz0 hz1 .i64 .i64 (2 * (s.size : Int)) (2 * s.size) rfl rfl (by omega) (by rw [hz2]; omega) (by unfold maxLen; omega) (Nat.le_refl _) ?_); intro w1 hown hgrow)
  go_loopw [3, 11] (fun v i wr => ∃ k : Nat, k ≤ s.size ∧ i = .int .i64 k ∧ wr.ownsRow w.heap.size 5 1 v (2 * k) ((hexL (s.data.toList.take k)).map (Value.int .u8)) ∧ Below w.heap.size w wr)
    (fun _ i _ => s.size - (intOf i).toNat)
  case atStart => exact ⟨0, Nat.zero_le _, rfl, hown, (Below.refl _ _).grown hgrow (Nat.le_refl _) (fun j hj => by cases hj)⟩
  case round =>
    obtain ⟨k, hk, rfl, hown, hb⟩ := hrel
    by_cases hlt : k < s.size
    · have hc : s[k].toNat < 256 := s[k].toNat_lt
      obtain ⟨q, hq, hq6, HQ⟩ : ∃ q : Nat, IntKind.u8.wrap ((s[k].toNat : Int) / 16) = (q : Int) ∧ q < 16 ∧ Hid (q = s[k].toNat / 16) :=
        ⟨s[k].toNat / 16, by rw [IntWalk.u8_in _ (by omega)]; omega, by omega, rfl⟩
      obtain ⟨r, hr, hr6, HR⟩ : ∃ r : Nat, (s[k].toNat : Int).tmod 16 = (r : Int) ∧ r < 16 ∧ Hid (r = s[k].toNat % 16) :=
        ⟨s[k].toNat % 16, by rw [IntWalk.rem_in _ _ (by omega)]; omega, by omega, rfl⟩
      have hA := hd_at q hq6
      have hB := hd_at r hr6
      have hqi : (q : Int) < 16 := by omega
      have hri : (r : Int) < 16 := by omega
      go_wp2
      go_region_law (refine stepApp2 rfl _ _ rfl w.heap.size u3 _ _ rfl (hown.alloc _) wr.heap.size _ _ _ rfl (cell_new2a _ _ _ _) (cell_new2b _ _ _ _) (by omega) (base_ok hb) ?_; intro g cap w' hown' hg')
      all_goals go_wp2
      all_goals go_roundw
      all_goals first
        | (case rel => exact ⟨k + 1, by omega, by go_num, hex_step hlt HQ HR hown', (hb.alloc hb.size _).drew.grown hg' (base_ok hb) (fun j hj => (hown.lt j hj).1)⟩)
        | skip
      all_goals (simp [intOf]; omega)
    · go_wp2
      have hconv := conv_own hown
      simp only [hconv]
      go_wp2
      go_ret
      exact ⟨ret_str (by rw [List.take_of_length_le (by simp; omega)]), hb⟩

set_option maxRecDepth 100000 in
set_option maxHeartbeats 1600000 in
theorem specEH (s : ByteArray) (w : World) (hs : s.size ≤ 1048576) :
    Calls Try.prog 17 #[.string s] w fun e w' => e = .returned (.string (strOfNums (hexL s.data.toList))) ∧ Below w.heap.size w w' := by
  go_enter Try.func17, Try.ntmps17
  go_wp2
  go_loopw [3, 4] (fun v i wr => ∃ k : Nat, k ≤ s.size ∧ i = .int .i64 k ∧ wr.ownsRow w.heap.size 5 1 v (2 * k) ((hexL (s.data.toList.take k)).map (Value.int .u8)) ∧ Below w.heap.size w wr)
    (fun _ i _ => s.size - (intOf i).toNat)
  case atStart => exact ⟨0, Nat.zero_le _, rfl, World.ownsRow_made w #[] 0 (Nat.le_refl _) (Nat.zero_le _) (by simp), (Below.refl _ _).alloc (Nat.le_refl _) _⟩
  case round =>
    obtain ⟨k, hk, rfl, hown, hb⟩ := hrel
    by_cases hlt : k < s.size
    · have hc : s[k].toNat < 256 := s[k].toNat_lt
      have hw := IntWalk.i64_in (s[k].toNat : Int) (by omega)
      obtain ⟨q, HQ, hq6⟩ : ∃ q : Nat, Hid (q = s[k].toNat / 16) ∧ q < 16 := ⟨s[k].toNat / 16, rfl, by omega⟩
      obtain ⟨r, HR, hr6⟩ : ∃ r : Nat, Hid (r = s[k].toNat % 16) ∧ r < 16 := ⟨s[k].toNat % 16, rfl, by omega⟩
      have hq1 : (s[k].toNat : Int) / 16 = (q : Int) := by rw [HQ.out]; omega
      have hr1 : (s[k].toNat : Int) % 16 = (r : Int) := by rw [HR.out]; omega
      have hq2 : IntKind.i64.wrap (q : Int) = (q : Int) := IntWalk.i64_in _ (by omega)
      have hr2 : (s[k].toNat : Int).tmod 16 = (r : Int) := by rw [IntWalk.rem_in _ _ (by omega), hr1]
      go_wp2
      go_region_law (first
        | (refine stepApp2 rfl _ _ rfl w.heap.size u3 _ _ rfl (hown.alloc _) wr.heap.size _ _ _ rfl (cell_new2a _ _ _ _) (cell_new2b _ _ _ _) (by omega) (base_ok hb) ?_; intro g cap w' hown' hg')
        | (go_simp; go_at_call 23; (with_reducible refine (digit_any q _ hq6).mono ?_); rintro e w' ⟨rfl, rfl⟩)
        | (go_simp; go_at_call 23; (with_reducible refine (digit_any r _ hr6).mono ?_); rintro e w' ⟨rfl, rfl⟩))
      all_goals go_wp2
      all_goals go_roundw
      all_goals first
        | (case rel => exact ⟨k + 1, by omega, by go_num, hex_step hlt HQ HR hown', (hb.alloc hb.size _).drew.grown hg' (base_ok hb) (fun j hj => (hown.lt j hj).1)⟩)
        | skip
      all_goals (simp [intOf]; omega)
    · go_wp2
      have hconv := conv_own hown
      simp only [hconv]
      go_wp2
      go_ret
      exact ⟨ret_str (by rw [List.take_of_length_le (by simp; omega)]), hb⟩

end Go.Proofs.Ytamdmflofbpjkaa
