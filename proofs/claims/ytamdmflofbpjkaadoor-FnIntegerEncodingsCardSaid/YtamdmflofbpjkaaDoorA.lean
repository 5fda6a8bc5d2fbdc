/- The contracts of both FormatInt (the model's and the program's): for every int both give its decimal numeral. -/
import Derived.Test.YtamdmflofbpjkaaDoorRows
import Derived.Test.YtamdmflofbpjkaaDoorShelf
import Derived.WalkKit
import Derived.ProofKit
import Derived.OpenShut
import Derived.ShutString
import Derived.Lib.Hide
import Derived.Lib.LaidTab
import Derived.Lib.AppendIntMem
import Derived.Laws.BytesArg
import Derived.IntWalk
import Derived.Outline
namespace Go.Proofs.YtamdmflofbpjkaaDoor
open Go.ChangeShapes Go.WideShapes Go.ChangeAt Go.RowKit
set_option linter.unusedVariables false

theorem gTab : Tryd.prog.globalNamed "internal/strconv.uint64pow10" = some 0 := by kernel_rfl
/-- The table of powers of ten holds what its initialiser lays. -/
def Tab (w : World) : Prop := Lib.TabIs Tryd.prog w "internal/strconv.uint64pow10" .u64 Lib.pow10Tab
theorem Tab.lt {w : World} (h : Tab w) : 0 < w.heap.size := by
  unfold Tab Lib.TabIs World.var? at h
  simp only [gTab, Option.bind_some] at h
  rcases Nat.eq_zero_or_pos w.heap.size with h0 | h0
  · rw [Array.getElem?_eq_none (by omega)] at h; cases h
  · exact h0
theorem Tab.below {w w' : World} {B : Nat} (h : Tab w) (hb : Below B w w') (hB : 0 < B) : Tab w' := by
  unfold Tab Lib.TabIs World.var? at h ⊢
  simp only [gTab, Option.bind_some] at h ⊢
  rw [hb.block 0 hB]
  exact h

theorem cell_new1 (w : World) (x : Value) (t : TypeId) : (w.alloc (.cells #[x] t)).cell? ⟨w.heap.size, 0, none⟩ = some x := by
  rw [World.cell?_alloc_at _ _ _ _ rfl]; rfl
theorem conv1 (w : World) (y : Int) : (convert 22 9 (.slice (some ⟨w.heap.size, 0, none⟩) 1 1)).run Tryd.prog (w.alloc (.cells #[.int .u8 y] 5)) = .ok (.string (strOfNums [y])) (w.alloc (.cells #[.int .u8 y] 5)) := by
  refine run_convert_bytes_arg _ 22 5 Tryd.underlying22 Tryd.underlying5 w.heap.size 0 1 1 [y] rfl (fun i hi => ?_) 9 Tryd.underlying9
  obtain rfl : i = 0 := by omega
  exact cell_new1 w _ _
theorem str_cons (r : Nat) (l : List UInt8) : strOfNums [48 + (r : Int)] ++ ⟨l.toArray⟩ = ⟨(UInt8.ofNat (48 + r) :: l).toArray⟩ := by
  unfold strOfNums
  rw [ByteArray.mk_append_mk]
  have : (48 + (r : Int)).toNat = 48 + r := by omega
  simp [this]
theorem ret_str {a b : ByteArray} (h : a = b) : Ending.returned (.string a) = .returned (.string b) := by rw [h]

/-- The digits ahead of what has been written. -/
def D (m : Nat) : List UInt8 := if m = 0 then [] else Lib.decDigits m
theorem D_step (m : Nat) (h : m ≠ 0) (l : List UInt8) : D m ++ l = D (m / 10) ++ UInt8.ofNat (48 + m % 10) :: l := by
  unfold D
  rw [if_neg h, Lib.decDigits]
  by_cases h1 : m < 10
  · rw [dif_pos h1, if_pos (by omega), Nat.mod_eq_of_lt h1]; rfl
  · rw [dif_neg h1, if_neg (by omega)]; simp

theorem dec_small {u : Nat} (h : u < 10) : Lib.decDigits u = [UInt8.ofNat (48 + u)] := Lib.decDigits_one h
theorem dec_big {u : Nat} (h : 10 ≤ u) : Lib.decDigits u = Lib.decDigits (u / 10) ++ [UInt8.ofNat (48 + u % 10)] := by rw [Lib.decDigits, dif_neg (by omega)]
theorem dec_len_k : ∀ (k u : Nat), u < 10 ^ (k + 1) → (Lib.decDigits u).length ≤ k + 1 := by
  intro k
  induction k with
  | zero => intro u h; rw [dec_small (by simpa using h)]; simp
  | succ k ih =>
    intro u h
    by_cases hl : u < 10
    · rw [dec_small hl]; simp
    · rw [dec_big (by omega)]
      have := ih (u / 10) (by rw [Nat.pow_succ] at h; omega)
      simp only [List.length_append, List.length_cons, List.length_nil]; omega
theorem dec_len (u : Nat) (h : u ≤ 9223372036854775808) : (Lib.decDigits u).length ≤ 21 := by
  have e : (10 : Nat) ^ (20 + 1) = 1000000000000000000000 := by decide
  have := dec_len_k 20 u (by omega)
  omega
theorem D_len {m u : Nat} {l : List UInt8} (hu : u ≤ 9223372036854775808) (h : D m ++ l = Lib.decDigits u) : l.length ≤ 21 := by
  have h1 := dec_len u hu
  rw [← h] at h1
  simp only [List.length_append] at h1
  omega

set_option maxRecDepth 100000 in
set_option maxHeartbeats 800000 in
theorem specFI_pos (u : Nat) (w : World) (h0 : 0 < u) (h1 : u ≤ 9223372036854775807) :
    Calls Tryd.prog 19 #[.int .i64 u] w fun e w' => e = .returned (.string ⟨(Lib.itoa u).toArray⟩) ∧ Below w.heap.size w w' := by
  have e1 : ((u : Int) == 0) = false := by simp; omega
  have e3 : decide ((u : Int) < 0) = false := by simp
  go_enter Tryd.func19, Tryd.ntmps19
  go_wp2
  go_loopw [0, 3] (fun x o wr => ∃ (m : Nat) (l : List UInt8), x = .int .i64 m ∧ m ≤ u ∧ o = .string ⟨l.toArray⟩ ∧ D m ++ l = Lib.decDigits u ∧ Below w.heap.size w wr)
    (fun x _ _ => (intOf x).toNat)
  case atStart => exact ⟨u, [], rfl, Nat.le_refl _, rfl, by unfold D; rw [if_neg (by omega)]; simp, Below.refl _ _⟩
  case round =>
    obtain ⟨m, l, rfl, hm, rfl, hd, hb⟩ := hrel
    have hl := D_len (by omega) hd
    have HD := Lib.hid hd
    clear hd
    by_cases hm0 : m = 0
    · have e2 : ((m : Int) != 0) = false := by simp [hm0]
      have HM := Lib.hid hm0
      clear hm0
      go_wp2
      go_ret
      refine ⟨ret_str ?_, hb⟩
      have h := HD.out
      rw [HM.out, D, if_pos rfl, List.nil_append] at h
      rw [h, Lib.itoa_nonneg]
    · have e2 : ((m : Int) != 0) = true := by simp [hm0]
      have hconv := fun y => conv1 wr y
      have hs1 : ∀ y : Int, (strOfNums [y]).size = 1 := fun y => strOfNums_size [y]
      have HM := Lib.hid hm0
      clear hm0
      go_wp2
      refine ⟨⟨m / 10, UInt8.ofNat (48 + m % 10) :: l, by simp, by omega, ?_, ?_, hb.alloc hb.size _⟩, by have := HM.out; simp [intOf]; omega⟩
      · rw [← str_cons]; simp
      · rw [← D_step m HM.out]; exact HD.out

set_option maxRecDepth 100000 in
set_option maxHeartbeats 800000 in
theorem specFI_neg (u : Nat) (w : World) (h0 : 0 < u) (h1 : u ≤ 9223372036854775808) :
    Calls Tryd.prog 19 #[.int .i64 (-(u : Int))] w fun e w' => e = .returned (.string ⟨(Lib.itoa (-(u : Int))).toArray⟩) ∧ Below w.heap.size w w' := by
  obtain ⟨n, hn⟩ : ∃ n : Int, n = -(u : Int) := ⟨_, rfl⟩
  rw [← hn]
  have e1 : (n == 0) = false := by simp; omega
  have e3 : n < 0 := by omega
  have HN := Lib.hid hn
  clear hn
  go_enter Tryd.func19, Tryd.ntmps19
  go_wp2
  go_loopw [0, 3] (fun x o wr => ∃ (m : Nat) (y : Int) (l : List UInt8), x = .int .i64 y ∧ y + m = 0 ∧ m ≤ u ∧ o = .string ⟨l.toArray⟩ ∧ D m ++ l = Lib.decDigits u ∧ Below w.heap.size w wr)
    (fun x _ _ => (- intOf x).toNat)
  case atStart => exact ⟨u, n, [], rfl, by have := HN.out; omega, Nat.le_refl _, rfl, by unfold D; rw [if_neg (by omega)]; simp, Below.refl _ _⟩
  case round =>
    obtain ⟨m, y, l, rfl, hy, hm, rfl, hd, hb⟩ := hrel
    have hl := D_len h1 hd
    have HD := Lib.hid hd
    clear hd
    by_cases hm0 : m = 0
    · have e2 : (y != 0) = false := by simp; omega
      have HM := Lib.hid hm0
      clear hm0 hy
      go_wp2
      go_ret
      refine ⟨ret_str ?_, hb⟩
      have h := HD.out
      rw [HM.out, D, if_pos rfl, List.nil_append] at h
      rw [HN.out, Lib.itoa_neg u h0, ← h]
      exact ByteArray.mk_append_mk [45] l
    · have e2 : (y != 0) = true := by simp; omega
      have hconv := fun y => conv1 wr y
      have hs1 : ∀ y : Int, (strOfNums [y]).size = 1 := fun y => strOfNums_size [y]
      obtain ⟨r, HR, hr9⟩ : ∃ r : Nat, Hid (r = m % 10) ∧ r ≤ 9 := ⟨m % 10, rfl, by omega⟩
      obtain ⟨t, ht, HT⟩ : ∃ t : Int, y.tmod 10 = t ∧ Hid (t = -(r : Int)) := ⟨_, rfl, by
        show _ = _
        obtain rfl : y = -(m : Int) := by omega
        rw [Int.neg_tmod, HR.out, Int.tmod_eq_emod_of_nonneg (by omega)]; simp⟩
      obtain ⟨q, hq, HQ⟩ : ∃ q : Int, IntKind.i64.wrap (y.tdiv 10) = q ∧ Hid (q + ((m / 10 : Nat) : Int) = 0) := ⟨_, rfl, by
        show _ + _ = _
        obtain rfl : y = -(m : Int) := by omega
        rw [IntWalk.i64_quo' _ _ (by omega), Int.neg_tdiv]
        simp
        omega⟩
      have HM := Lib.hid hm0
      have HY := Lib.hid hy
      clear hm0 hy
      by_cases hr0 : r = 0
      · obtain rfl : t = 0 := by have := HT.out; omega
        go_wp2
        refine ⟨⟨m / 10, q, UInt8.ofNat (48 + m % 10) :: l, rfl, HQ.out, by omega, ?_, ?_, hb.alloc hb.size _⟩, by have := HM.out; have := HY.out; have := HQ.out; simp only [intOf]; omega⟩
        · rw [← HR.out, hr0]; exact congrArg Value.string (str_cons 0 l)
        · rw [← D_step m HM.out]; exact HD.out
      · have ht0 : t < 0 := by have := HT.out; omega
        have ht9 : -9 ≤ t := by have := HT.out; omega
        clear hr0
        go_wp2
        refine ⟨⟨m / 10, q, UInt8.ofNat (48 + m % 10) :: l, rfl, HQ.out, by omega, ?_, ?_, hb.alloc hb.size _⟩, by have := HM.out; have := HY.out; have := HQ.out; simp only [intOf]; omega⟩
        · rw [← HR.out, ← str_cons r l, HT.out]; simp
        · rw [← D_step m HM.out]; exact HD.out

theorem specFI (n : Int) (w : World) (h0 : -9223372036854775808 ≤ n) (h1 : n ≤ 9223372036854775807) :
    Calls Tryd.prog 19 #[.int .i64 n] w fun e w' => e = .returned (.string ⟨(Lib.itoa n).toArray⟩) ∧ Below w.heap.size w w' := by
  rcases (show n = 0 ∨ 0 < n ∨ n < 0 by omega) with rfl | h | h
  · go_enter Tryd.func19, Tryd.ntmps19
    go_wp2
    go_ret
    exact ⟨ret_str (by rw [show (0 : Int) = ((0 : Nat) : Int) from rfl, Lib.itoa_nonneg, dec_small (by omega)]; rfl), Below.refl _ _⟩
  · obtain ⟨u, rfl⟩ : ∃ u : Nat, n = u := ⟨n.toNat, by omega⟩
    exact specFI_pos u w (by omega) (by omega)
  · obtain ⟨u, rfl⟩ : ∃ u : Nat, n = -(u : Int) := ⟨(-n).toNat, by omega⟩
    exact specFI_neg u w (by omega) (by omega)

theorem implFI (n : Int) (w : World) (h0 : -9223372036854775808 ≤ n) (h1 : n ≤ 9223372036854775807) (ht : Tab w) :
    Calls Tryd.prog 17 #[.int .i64 n] w fun e w' => e = .returned (.string ⟨(Lib.itoa n).toArray⟩) ∧ Below w.heap.size w w' := by
  have HT := Lib.hid ht
  clear ht
  go_enter Tryd.func17, Tryd.ntmps17
  go_wp2_with fail
  refine (Tryd.strconv_Itoa n h0 h1 w HT.out).mono ?_
  rintro e w' ⟨rfl, k, os, rfl⟩
  have hb := Lib.below_grow w.heap.size w (Nat.le_refl _) k os
  generalize Go.Sort.grow (w.drewN k) os = w1 at hb ⊢
  go_wp2
  go_ret
  exact ⟨rfl, hb⟩

end Go.Proofs.YtamdmflofbpjkaaDoor
