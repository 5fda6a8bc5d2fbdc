/- Merged by program out of: Impl3N Arr16 Impl3Q Spec3F Impl3R0 Paths3 Count18 Fact18R Draw18 Same Rep0 RepG18. -/
import Derived.Laws.Tables
import Derived.Laws.CopyOwn
import Derived.Lib.BufferWrite
import Derived.Lib.SlBuf
import Derived.Test.YtbdnelijfbnfnaaRows
import Derived.WalkKit
import Derived.ProofKit
import Derived.Below
import Derived.Laws.StructEq
import Derived.Laws.BytesArg
import Derived.Deep.LoopGhost
import Derived.BigQuiet
import Derived.Test.YtbdnelijfbnfnaaShelfB
import Derived.Lib.RepeatB
import Derived.Laws.Cover1
import Derived.Lib.Hide
import Derived.Test.YtbdnelijfbnfnaaKA
import Derived.Test.YtbdnelijfbnfnaaKB
import Derived.Test.YtbdnelijfbnfnaaKC
section
namespace Go.Proofs.Ytbdnelijfbnfnaa
open Go.ChangeShapes Go.WideShapes Go.ChangeAt Go.RowKit
set_option linter.unusedVariables false

def cU : List UInt8 → Nat
  | [] => 0
  | c :: l => (if c.toNat = 117 then 1 else 0) + cU l
def cD : List UInt8 → Nat
  | [] => 0
  | c :: l => (if c.toNat = 117 then 0 else 1) + cD l
theorem c_len (l : List UInt8) : cU l + cD l = l.length := by
  induction l with
  | nil => rfl
  | cons c l ih => rw [cU, cD, List.length_cons]; split <;> omega
theorem ends_cnt : ∀ (l : List UInt8) (h u d : Nat), ends h u d l → u = cU l ∧ d = cD l := by
  intro l
  induction l with
  | nil =>
    intro h u d he
    have := he.2.2
    simp only [List.length_nil] at this
    exact ⟨by rw [cU]; omega, by rw [cD]; omega⟩
  | cons c l ih =>
    intro h u d he
    by_cases e : c.toNat = 117
    · obtain ⟨h1, h2⟩ := ends_up he e
      obtain ⟨i1, i2⟩ := ih _ _ _ h2
      rw [cU, cD, if_pos e, if_pos e]; omega
    · obtain ⟨h1, h2, h3⟩ := ends_down he e
      obtain ⟨i1, i2⟩ := ih _ _ _ h3
      rw [cU, cD, if_neg e, if_neg e]; omega
theorem suf_any {s : ByteArray} (hd : dyck s = true) : ∀ j, j ≤ s.size → ∃ h u d, ends h u d (rest s j) := by
  intro j
  induction j with
  | zero => intro _; exact ⟨_, _, _, ends_start hd⟩
  | succ j ih =>
    intro hj
    obtain ⟨h, u, d, he⟩ := ih (by omega)
    rw [rest_cons s j hj] at he
    by_cases e : s[j].toNat = 117
    · exact ⟨_, _, _, (ends_up he e).2⟩
    · exact ⟨_, _, _, (ends_down he e).2.2⟩
theorem suf_ends {s : ByteArray} (hd : dyck s = true) (j : Nat) (hj : j ≤ s.size) : ∃ h, ends h (cU (rest s j)) (cD (rest s j)) (rest s j) := by
  obtain ⟨h, u, d, he⟩ := suf_any hd j hj
  obtain ⟨e1, e2⟩ := ends_cnt _ _ _ _ he
  rw [e1, e2] at he
  exact ⟨h, he⟩
theorem c_start {s : ByteArray} (hd : dyck s = true) : cU (rest s 0) = s.size / 2 ∧ cD (rest s 0) = s.size / 2 := by
  obtain ⟨e1, e2⟩ := ends_cnt _ _ _ _ (ends_start hd)
  exact ⟨e1.symm, e2.symm⟩
theorem cD_mono (s : ByteArray) : ∀ j, cD (rest s j) ≤ cD (rest s 0) := by
  intro j
  induction j with
  | zero => exact Nat.le_refl _
  | succ j ih =>
    by_cases h : j < s.size
    · rw [rest_cons s j h, cD] at ih; omega
    · rw [rest_end s (j + 1) (by omega)]; exact Nat.zero_le _
theorem byte_eq {a : UInt8} {n : Nat} (h : a.toNat = n) (hn : n < 256) : a = UInt8.ofNat n := by
  apply UInt8.toNat_inj.1
  rw [h]
  simp
  omega
/-- The next word behind the whole of s, out of that behind a suffix. -/
theorem nx_lift {s : ByteArray} {i : Nat} {x : List UInt8} (hd : dyck s = true) (hi : i ≤ s.size) (hx : nxL (rest s i) (cU (rest s i)) (cD (rest s i)) = some x) :
    ∀ k, k ≤ i → nxL (rest s (i - k)) (cU (rest s (i - k))) (cD (rest s (i - k))) = some ((rest s (i - k)).take k ++ x) := by
  intro k
  induction k with
  | zero => intro _; simpa using hx
  | succ k ih =>
    intro hk
    have h1 := ih (by omega)
    obtain ⟨j, hj⟩ : ∃ j, j = i - (k + 1) := ⟨_, rfl⟩
    rw [← hj]
    rw [show i - k = j + 1 by omega] at h1
    have hl := dyck_letter hd j (by omega)
    rw [rest_cons s j (by omega), List.take_succ_cons]
    rcases hl with e | e
    · rw [nxL_up _ _ _ _ e, cU, cD, if_pos e, if_pos e, show 1 + cU (rest s (j + 1)) - 1 = cU (rest s (j + 1)) by omega, Nat.zero_add, h1, byte_eq e (by omega)]; rfl
    · have e' : s[j].toNat ≠ 117 := by omega
      rw [nxL_down _ _ _ _ e', cU, cD, if_neg e', if_neg e', show 1 + cD (rest s (j + 1)) - 1 = cD (rest s (j + 1)) by omega, Nat.zero_add, h1, byte_eq e (by omega)]; rfl
/-- What nextLetters answers: the next word, or the word itself. -/
def nxS (s : ByteArray) : List UInt8 := (nxL (rest s 0) (cU (rest s 0)) (cD (rest s 0))).getD (rest s 0)

def lrow (l : List UInt8) (q : Nat) : Int := ((l.getD q 0).toNat : Int)
def cells16 (l : List UInt8) : Array Value := ((List.range 16).map fun q => Value.int .u8 (lrow l q)).toArray
theorem cells16_size (l : List UInt8) : (cells16 l).size = 16 := by simp [cells16]
theorem cells16_get (l : List UInt8) (q : Nat) (h : q < 16) : (cells16 l)[q]? = some (.int .u8 (lrow l q)) := by simp [cells16, h]
theorem cells16_one (l : List UInt8) : (cells16 l).all (·.oneCell') = true := Array.all_eq_true_iff_forall_mem.2 (fun v hv => by
  simp only [cells16, List.mem_toArray, List.mem_map] at hv
  obtain ⟨q, -, rfl⟩ := hv
  rfl)
theorem cells16_eq {C : Array Value} {l : List UInt8} (h : C.size = 16) (hc : ∀ q, q < 16 → C[q]? = some (.int .u8 (lrow l q))) : C = cells16 l := by
  apply Array.ext (by rw [h, cells16_size])
  intro i hi hi'
  have e1 := hc i (by omega)
  have e2 := cells16_get l i (by omega)
  rw [Array.getElem?_eq_getElem hi] at e1
  rw [Array.getElem?_eq_getElem hi'] at e2
  rw [← e2] at e1
  exact Option.some.inj e1
/-- Block g holds the letters l, the places behind them 0. -/
def TabL (w : World) (g : Nat) (l : List UInt8) : Prop := w.heap[g]? = some (.cells (cells16 l) 97 (0, 0))
theorem sizeL : (Try.prog.info? 97).map (·.size) = some 16 := by kernel_rfl
theorem TabL.cell {w : World} {g : Nat} {l : List UInt8} (h : TabL w g l) {q : Nat} (hq : q < 16) : w.cell? ⟨g, q, none⟩ = some (.int .u8 (lrow l q)) ∧ w.frozen? ⟨g, q, none⟩ = false := by
  refine ⟨?_, by unfold TabL at h; simp [World.frozen?, h]⟩
  rw [cell_of_row w g q _ _ (0, 0) h]
  exact cells16_get l q hq

/-- The row when place j has become d and the rest has been copied behind it. -/
theorem next_row {s : ByteArray} {j : Nat} {R : List UInt8} (hj : j < s.size) (h16 : s.size ≤ 16) (hR : j + 1 + R.length = s.size) :
    ((((cells16 s.data.toList).setIfInBounds j (.int .u8 100)).toList.take (j + 1) ++ Lib.byteCells R ++ ((cells16 s.data.toList).setIfInBounds j (.int .u8 100)).toList.drop (j + 1 + R.length)).toArray) = cells16 (s.data.toList.take j ++ (100 :: R)) := by
  have hS : s.data.toList.length = s.size := by simp
  have hc := cells16_size s.data.toList
  apply cells16_eq
  · simp [Lib.byteCells_length, hc]; omega
  · intro q hq
    have hget : ∀ q, q < 16 → ((cells16 s.data.toList).setIfInBounds j (.int .u8 100)).toList[q]? = some (.int .u8 (if q = j then 100 else lrow s.data.toList q)) := by
      intro q hq
      rw [Array.getElem?_toList]
      by_cases e : q = j
      · subst e
        rw [Array.getElem?_setIfInBounds_self_of_lt (by omega), if_pos rfl]
      · rw [Array.getElem?_setIfInBounds_ne (by omega), cells16_get _ _ hq, if_neg e]
    rw [List.getElem?_toArray]
    have hl1 : (((cells16 s.data.toList).setIfInBounds j (.int .u8 100)).toList.take (j + 1)).length = j + 1 := by simp [hc]; omega
    have hlb := Lib.byteCells_length R
    by_cases h1 : q < j + 1
    · rw [List.append_assoc, List.getElem?_append_left (by omega), List.getElem?_take, if_pos h1, hget q hq]
      congr 2
      unfold lrow
      by_cases e : q = j
      · subst e
        rw [if_pos rfl, List.getD_eq_getElem?_getD, List.getElem?_append_right (by simp; omega)]
        simp [show min q s.size = q by omega]
      · rw [if_neg e, List.getD_eq_getElem?_getD, List.getD_eq_getElem?_getD, List.getElem?_append_left (by simp; omega), List.getElem?_take, if_pos (by omega)]
    · by_cases h2 : q < j + 1 + R.length
      · rw [List.append_assoc, List.getElem?_append_right (by omega), hl1, List.getElem?_append_left (by omega)]
        unfold Lib.byteCells lrow
        rw [List.getElem?_map, List.getD_eq_getElem?_getD, List.getElem?_append_right (by simp; omega)]
        rw [show (s.data.toList.take j).length = j by simp; omega, show q - j = (q - (j + 1)) + 1 by omega, List.getElem?_cons_succ, List.getElem?_eq_getElem (by omega)]
        rfl
      · rw [List.append_assoc, List.getElem?_append_right (by omega), hl1, List.getElem?_append_right (by omega), List.getElem?_drop, hlb]
        rw [show j + 1 + R.length + (q - (j + 1) - R.length) = q by omega, hget q hq, if_neg (by omega)]
        congr 2
        unfold lrow
        rw [List.getD_eq_getElem?_getD, List.getD_eq_getElem?_getD, List.getElem?_eq_none (by omega), List.getElem?_eq_none (by simp; omega)]

theorem zeroL (w : World) : (zeroValue 97).run Try.prog w = .ok (.agg (cells16 [])) w := by kernel_rfl

set_option maxRecDepth 100000 in
set_option maxHeartbeats 3200000 in
theorem nextLetters (s : ByteArray) (w : World) (hd : dyck s = true) : Calls Try.prog 75 #[.agg (cells16 s.data.toList), .int .i64 s.size] w fun e w' => e = .returned (.agg (cells16 (nxS s))) ∧ Below w.heap.size w w' := by
  have h16 := dyck_size hd
  have hz := zeroL
  have HD := Lib.hid hd
  clear hd
  generalize hcs : cells16 s.data.toList = cs
  generalize hzz : cells16 [] = zz at hz
  have HCS := Lib.hid hcs
  have HZZ := Lib.hid hzz
  clear hcs hzz
  go_enter Try.func75, Try.ntmps75
  go_wp2
  have HG := Lib.hid (show ((w.alloc (.cells cs 97)).alloc (.cells zz 97)).heap[w.heap.size]? = some (.cells cs 97 (0, 0)) from heap_alloc2_old w _ _)
  have HR := Lib.hid (show ((w.alloc (.cells cs 97)).alloc (.cells zz 97)).heap[w.heap.size + 1]? = some (.cells zz 97 (0, 0)) from heap_alloc2_new w _ _)
  have HB := Lib.hid (((Below.refl w.heap.size w).alloc (Nat.le_refl _) (.cells cs 97)).alloc (by simp) (.cells zz 97))
  have hz2 : ((w.alloc (.cells cs 97)).alloc (.cells zz 97)).heap.size = w.heap.size + 2 := by simp
  have HZ2 := Lib.hid hz2
  clear hz2 hz
  generalize (w.alloc (.cells cs 97)).alloc (.cells zz 97) = W0 at *
  have HZS := Lib.hid (show zz.size = 16 by rw [← HZZ.out]; exact cells16_size _)
  go_loop [5, 6, 7] (fun x y z => ∃ (i : Nat) (a : Int), a + 1 = i ∧ i ≤ s.size ∧ z = .int .i64 a ∧ x = .int .i64 (cU (rest s i)) ∧ y = .int .i64 (cD (rest s i)) ∧ nxL (rest s i) (cU (rest s i)) (cD (rest s i)) = none) (fun _ _ z => (intOf z + 1).toNat)
  case atStart => exact ⟨s.size, (s.size : Int) - 1, by omega, Nat.le_refl _, rfl, by rw [rest_end s _ (Nat.le_refl _)]; rfl, by rw [rest_end s _ (Nat.le_refl _)]; rfl, by rw [rest_end s _ (Nat.le_refl _)]; rfl⟩
  case round =>
    obtain ⟨i, a, ha, hi, rfl, rfl, rfl, hn⟩ := hrel
    have HN := Lib.hid hn
    have hcl := c_len (rest s i)
    have hrl : (rest s i).length = s.size - i := by unfold rest; simp
    have HRL := Lib.hid hrl
    have hu8 : cU (rest s i) ≤ 16 := by omega
    have hd8 : cD (rest s i) ≤ 16 := by omega
    clear hn hrl hcl
    by_cases h0 : i = 0
    · have hneg : ¬ (0 : Int) ≤ a := by omega
      have HX := Lib.hid (show nxS s = s.data.toList by unfold nxS; rw [h0] at HN; rw [HN.out]; rfl)
      clear h0
      go_wp2_with (first
        | (refine wpList_load_row rfl _ _ rfl w.heap.size rfl 97 cs (0, 0) _ HG.out Try.underlying97 rfl (by rw [← HCS.out, cells16_size]; exact sizeL) ?_)
        | (refine wpList_store_row rfl _ _ _ rfl (w.heap.size + 1) cs rfl rfl 97 zz HR.out (by rw [← HCS.out, cells16_size]; exact sizeL) (by rw [HZS.out, ← HCS.out, cells16_size]) (by rw [← HCS.out]; exact cells16_one _) ?_))
      refine bodyPost_ret (v := .agg cs) (results_cell_row Try.results75 _ _ (w.heap.size + 1) 97 cs (0, 0) _ rfl (setRow_heap _ _ zz _ _ (0, 0) HR.out) Try.underlying97 rfl (by rw [← HCS.out, cells16_size]; exact sizeL)) rfl ⟨by rw [HX.out, HCS.out], below_setRow HB.out (by omega) _⟩
    · obtain ⟨j, rfl⟩ : ∃ j, i = j + 1 := ⟨i - 1, by omega⟩
      obtain rfl : a = (j : Int) := by omega
      clear ha
      have hjs : j < s.size := by omega
      have hl := dyck_letter HD.out j hjs
      have hcell : W0.cell? ⟨w.heap.size, j, none⟩ = some (.int .u8 (s[j].toNat : Int)) := by
        rw [cell_of_row W0 w.heap.size j cs _ (0, 0) HG.out, ← HCS.out, cells16_get _ _ (by omega)]
        unfold lrow
        rw [List.getD_eq_getElem?_getD, List.getElem?_eq_getElem (by simpa using hjs), Option.getD_some, at_list s j hjs]
      have hf : W0.frozen? ⟨w.heap.size, j, none⟩ = false := by simp [World.frozen?, HG.out]
      have HC := Lib.hid (rest_cons s j hjs)
      have hj16 : (j : Int) < 16 := by omega
      rcases hl with e1 | e1
      · have HU := Lib.hid (show cU (rest s j) = cU (rest s (j + 1)) + 1 by rw [HC.out, cU, if_pos e1]; omega)
        have HDD := Lib.hid (show cD (rest s j) = cD (rest s (j + 1)) by rw [HC.out, cD, if_pos e1]; omega)
        have HE := Lib.hid (show nxL (rest s j) (cU (rest s j)) (cD (rest s j)) = if cU (rest s j) < cD (rest s j) then some (100 :: frL (cU (rest s j)) (cD (rest s j) - 1)) else none by
          conv => lhs; rw [HC.out]
          rw [nxL_up _ _ _ _ e1, ← HC.out, HU.out, Nat.add_sub_cancel, HDD.out, HN.out])
        rw [e1] at hcell
        have HE1 := Lib.hid e1
        clear e1
        by_cases hlt : cU (rest s (j + 1)) + 1 < cD (rest s (j + 1))
        · have hlti : (cU (rest s (j + 1)) : Int) + 1 < (cD (rest s (j + 1)) : Int) := by omega
          have hU8 : cU (rest s (j + 1)) + 1 ≤ 8 := by
            have := c_start HD.out
            obtain ⟨h, he⟩ := suf_ends HD.out j (by omega)
            have h1 := he.2.1
            have h2 := he.2.2
            have h3 : (rest s j).length = s.size - j := by unfold rest; simp
            have h4 := HU.out
            omega
          have hD8 : cD (rest s (j + 1)) - 1 ≤ 8 := by
            obtain ⟨h, u, d, he⟩ := suf_any HD.out 0 (by omega)
            have := c_start HD.out
            have hmono : cD (rest s (j + 1)) ≤ cD (rest s 0) := cD_mono s (j + 1)
            omega
          have hRl : j + 1 + (cU (rest s (j + 1)) + 1 + (cD (rest s (j + 1)) - 1)) = s.size := by
            have h1 := c_len (rest s (j + 1))
            have h2 := HRL.out
            omega
          have HX := Lib.hid (show nxS s = s.data.toList.take j ++ (100 :: frL (cU (rest s (j + 1)) + 1) (cD (rest s (j + 1)) - 1)) by
            have h1 := nx_lift HD.out (by omega) (show nxL (rest s j) (cU (rest s j)) (cD (rest s j)) = some _ by rw [HE.out, HU.out, HDD.out, if_pos hlt]) j (Nat.le_refl _)
            rw [Nat.sub_self] at h1
            unfold nxS
            rw [h1]; rfl)
          have hdm : (cD (rest s (j + 1)) : Int) - 1 = ((cD (rest s (j + 1)) - 1 : Nat) : Int) := by omega
          have HNR := Lib.hid (next_row (s := s) (j := j) (R := frL (cU (rest s (j + 1)) + 1) (cD (rest s (j + 1)) - 1)) hjs h16 (by rw [frL_len]; exact hRl))
          have HFL := Lib.hid (frL_len (cU (rest s (j + 1)) + 1) (cD (rest s (j + 1)) - 1))
          have HFR := Lib.hid (show (repS 117 (cU (rest s (j + 1)) + 1) ++ repS 100 (cD (rest s (j + 1)) - 1)).data.toList = frL (cU (rest s (j + 1)) + 1) (cD (rest s (j + 1)) - 1) by
            unfold repS frL
            simp)
          have HL1 := Lib.hid (show (repS 117 (cU (rest s (j + 1)) + 1)).size ≤ 8 by unfold repS; rw [Lib.size_eq]; simp [Lib.repeatL_length]; omega)
          have HL2 := Lib.hid (show (repS 100 (cD (rest s (j + 1)) - 1)).size ≤ 8 by unfold repS; rw [Lib.size_eq]; simp [Lib.repeatL_length]; omega)
          generalize hUU : cU (rest s (j + 1)) = U at *
          generalize hDD2 : cD (rest s (j + 1)) = D at *
          clear hUU hDD2
          go_wp2_with fail
          refine (repU (U + 1) _ hU8).mono ?_
          rintro e w1 ⟨rfl, hb1⟩
          have HB1 := Lib.hid hb1
          have hw2 : IntKind.i64.wrap ((D : Int) - 1) = ((D - 1 : Nat) : Int) := by rw [hdm]; exact IntWalk.i64_in _ (by omega)
          clear hb1
          go_wp2_with fail
          refine (repD (D - 1) _ hD8).mono ?_
          rintro e w2 ⟨rfl, hb2⟩
          have HB2 := Lib.hid hb2
          clear hb2
          have hlen12 : ((repS 117 (U + 1)).size + (repS 100 (D - 1)).size) = U + 1 + (D - 1) := by
            have h1 := HFL.out
            rw [← HFR.out] at h1
            simpa using h1
          generalize repS 117 (U + 1) = R1 at *
          generalize repS 100 (D - 1) = R2 at *
          have hR12 := HL1.out
          have hR22 := HL2.out
          have hsum : ¬ 9223372036854775807 < R1.size + R2.size := by omega
          have HRS := Lib.hid (show (R1 ++ R2).size = U + 1 + (D - 1) by rw [ByteArray.size_append]; exact hlen12)
          have HRL2 := Lib.hid hRl
          have hg1 : (W0.setCell ⟨w.heap.size, j, none⟩ (.int .u8 100)).heap[w.heap.size]? = some (.cells (cs.setIfInBounds j (.int .u8 100)) 97 (0, 0)) := by
            simp [World.setCell, Array.getElem?_modify, HG.out]
          have hr1 : (W0.setCell ⟨w.heap.size, j, none⟩ (.int .u8 100)).heap[w.heap.size + 1]? = some (.cells zz 97 (0, 0)) := by
            simp [World.setCell, Array.getElem?_modify, HR.out]
          have hz1 : (W0.setCell ⟨w.heap.size, j, none⟩ (.int .u8 100)).heap.size = w.heap.size + 2 := by simp [World.setCell, HZ2.out]
          have HB3 := Lib.hid (HB1.out.trans (HB2.out.mono HB1.out.size))
          have HG2 := Lib.hid ((HB3.out.block w.heap.size (by rw [hz1]; omega)).trans hg1)
          have HR2 := Lib.hid ((HB3.out.block (w.heap.size + 1) (by rw [hz1]; omega)).trans hr1)
          have HB4 := Lib.hid ((HB.out.setCell (p := ⟨w.heap.size, j, none⟩) (Nat.le_refl _) (.int .u8 100)).trans (HB3.out.mono (by rw [hz1]; omega)))
          clear hdm hw2 hRl hg1 hr1 hz1 hlen12 hR12 hR22
          have hj17 : (j : Int) + 1 ≤ 16 := by omega
          have hj18 : (0 : Int) ≤ (j : Int) + 1 := by omega
          have hj19 : ((j : Int) + 1).toNat = j + 1 := by omega
          have hj20 : j + 1 < 16 := by have := HRL2.out; omega
          have hj21 : ¬ (16 = j + 1) := by omega
          have hj22 : ¬ (j + 1 = 16) := by omega
          have hcopy : (Builtin.copy_ #[22, 9] 3 #[.slice (some ⟨w.heap.size, j + 1, none⟩) (15 - j) (15 - j), .string (R1 ++ R2)]).run Try.prog w2 = .ok (goInt (R1 ++ R2).size) (w2.setRow w.heap.size (cells16 (s.data.toList.take j ++ (100 :: frL (U + 1) (D - 1))))) := by
            have h := Lib.run_copy_row_string (P := Try.prog) w2 22 9 3 5 w.heap.size (j + 1) (15 - j) (15 - j) (R1 ++ R2) _ 97 Try.underlying22 (by kernel_rfl) HG2.out (by rw [HRS.out]; have := HRL2.out; omega) (by rw [HRS.out, ← HCS.out]; have := cells16_size s.data.toList; have := HRL2.out; simp; omega)
            rw [h, HFR.out, HRS.out, ← HFL.out, ← HCS.out, HNR.out]
          have HCP := Lib.hid (show nxS s = s.data.toList.take j ++ (100 :: frL (U + 1) (D - 1)) from HX.out)
          have HX1 := Lib.hid (cells16_size (s.data.toList.take j ++ (100 :: frL (U + 1) (D - 1))))
          have HX2 := Lib.hid (cells16_one (s.data.toList.take j ++ (100 :: frL (U + 1) (D - 1))))
          have HX3 := Lib.hid (show cells16 (nxS s) = cells16 (s.data.toList.take j ++ (100 :: frL (U + 1) (D - 1))) by rw [HCP.out])
          generalize cells16 (s.data.toList.take j ++ (100 :: frL (U + 1) (D - 1))) = xs at hcopy HX1 HX2 HX3
          have HL := Lib.hid (setRow_heap w2 w.heap.size _ xs _ _ HG2.out)
          have HO := Lib.hid ((setRow_other w2 w.heap.size (w.heap.size + 1) xs (by omega)).trans HR2.out)
          have HB5 := Lib.hid (below_setRow HB4.out (Nat.le_refl _) xs)
          go_wp2_with (first
            | (refine wpList_load_row rfl _ _ rfl w.heap.size rfl 97 xs (0, 0) _ HL.out Try.underlying97 rfl (by rw [HX1.out]; exact sizeL) ?_)
            | (refine wpList_store_row rfl _ _ _ rfl (w.heap.size + 1) xs rfl rfl 97 zz HO.out (by rw [HX1.out]; exact sizeL) (by rw [HZS.out, HX1.out]) HX2.out ?_))
          refine bodyPost_ret (v := .agg xs) (results_cell_row Try.results75 _ _ (w.heap.size + 1) 97 xs (0, 0) _ rfl (setRow_heap _ _ zz _ _ (0, 0) HO.out) Try.underlying97 rfl (by rw [HX1.out]; exact sizeL)) rfl ⟨by rw [HX3.out], below_setRow HB5.out (by omega) _⟩
        · have HX := Lib.hid (show nxL (rest s j) (cU (rest s j)) (cD (rest s j)) = none by rw [HE.out, HU.out, HDD.out, if_neg hlt])
          have hlti : ¬ ((cU (rest s (j + 1)) : Int) + 1 < (cD (rest s (j + 1)) : Int)) := by omega
          go_wp2
          refine ⟨⟨j, (j : Int) - 1, by omega, by omega, rfl, by rw [HU.out]; simp, by rw [HDD.out], HX.out⟩, by simp [intOf]⟩
      · have e2 : s[j].toNat ≠ 117 := by omega
        have HU := Lib.hid (show cU (rest s j) = cU (rest s (j + 1)) by rw [HC.out, cU, if_neg e2]; omega)
        have HDD := Lib.hid (show cD (rest s j) = cD (rest s (j + 1)) + 1 by rw [HC.out, cD, if_neg e2]; omega)
        have HX := Lib.hid (show nxL (rest s j) (cU (rest s j)) (cD (rest s j)) = none by
          conv => lhs; rw [HC.out]
          rw [nxL_down _ _ _ _ e2, ← HC.out, HDD.out, Nat.add_sub_cancel, HU.out, HN.out])
        rw [e1] at hcell
        clear e1 e2
        go_wp2
        refine ⟨⟨j, (j : Int) - 1, by omega, by omega, rfl, by rw [HU.out], by rw [HDD.out]; simp, HX.out⟩, by simp [intOf]⟩

end Go.Proofs.Ytbdnelijfbnfnaa
end

section
namespace Go.Proofs.Ytbdnelijfbnfnaa
open Go.ChangeShapes Go.WideShapes Go.ChangeAt Go.RowKit
theorem cell16 (cs : Array Value) (v : Value) (q : Nat) (hv : cs[q]? = some v) (w : World) : (part 5 cs q).run Try.prog w = .ok v w := by
  simp [part, Try.isAgg5, hv, Sem.run_bind, go_sem]
theorem eqInt (d : Nat) (a b : Int) (w : World) : (Op.equalIn (d + 1) 5 (.int .u8 a) (.int .u8 b)).run Try.prog w = .ok (a == b) w := run_equalIn_int w d 5 .u8 .u8 a b Try.underlying5
theorem eqL (d : Nat) (xs ys : Array Value) (w : World) (f g : Nat → Int) (L : List Nat) (hx : ∀ q ∈ L, xs[q]? = some (.int .u8 (f q))) (hy : ∀ q ∈ L, ys[q]? = some (.int .u8 (g q))) :
    (forIn (m := Sem) L ((none : Option Bool), ()) fun i __s => do
            let __do_lift ← part 5 xs i
            let __do_lift_1 ← part 5 ys i
            let __do_lift ← Op.equalIn (d + 1) 5 __do_lift __do_lift_1
            if __do_lift = false then pure (ForInStep.done (some false, ())) else pure (ForInStep.yield (none, ()))).run Try.prog w =
      .ok (if (L.all fun q => f q == g q) = true then (none, ()) else (some false, ())) w := by
  induction L with
  | nil => simp
  | cons q L ih =>
    have h1 := cell16 xs _ q (hx q (by simp)) w
    have h2 := cell16 ys _ q (hy q (by simp)) w
    have ih' := ih (fun p hp => hx p (by simp [hp])) (fun p hp => hy p (by simp [hp]))
    rw [List.forIn_cons]
    by_cases e : f q = g q
    · simp only [Sem.run_bind, h1, h2, Result.andThen_ok, eqInt, e, List.all_cons, beq_self_eq_true, Bool.true_and]
      simp only [Bool.true_eq_false, if_false, Sem.run_pure, Result.andThen_ok]
      exact ih'
    · have e' : (f q == g q) = false := by simp [e]
      simp only [Sem.run_bind, h1, h2, Result.andThen_ok, eqInt, e', List.all_cons, Bool.false_and]
      simp
theorem eq16 (d : Nat) (xs ys : Array Value) (w : World) (f g : Nat → Int) (hx : ∀ q, q < 16 → xs[q]? = some (.int .u8 (f q))) (hy : ∀ q, q < 16 → ys[q]? = some (.int .u8 (g q))) :
    (Op.equalIn (d + 2) 97 (.agg xs) (.agg ys)).run Try.prog w = .ok ((List.range' 0 16).all fun q => f q == g q) w := by
  have hz := Try.sizeOf5
  have hL := eqL d xs ys w f g (List.range' 0 16) (fun q hq => hx q (by simp [List.mem_range'] at hq; omega)) (fun q hq => hy q (by simp [List.mem_range'] at hq; omega))
  rw [Op.equalIn]
  simp only [Sem.run_bind, run_underlying Try.underlying97, Result.andThen_ok, hz]
  simp only [Std.Legacy.Range.forIn_eq_forIn_range', Std.Legacy.Range.size]
  simp only [Nat.mul_one, Bool.not_eq_true', Nat.sub_zero, Nat.reduceAdd, Nat.reduceSub, Nat.div_one]
  rw [hL]
  simp only [Result.andThen_ok]
  cases (List.range' 0 16).all fun q => f q == g q <;> rfl
theorem eqlArr (xs ys : Array Value) (w : World) (f g : Nat → Int) (hx : ∀ q, q < 16 → xs[q]? = some (.int .u8 (f q))) (hy : ∀ q, q < 16 → ys[q]? = some (.int .u8 (g q))) :
    (binOp .eql 97 (.agg xs) (.agg ys)).run Try.prog w = .ok (.bool ((List.range' 0 16).all fun q => f q == g q)) w := by
  rw [run_eql_struct, show (10000 : Nat) = 9998 + 2 from rfl, eq16 9998 xs ys w f g hx hy]
  rfl
end Go.Proofs.Ytbdnelijfbnfnaa
end

section
namespace Go.Proofs.Ytbdnelijfbnfnaa
open Go.ChangeShapes Go.WideShapes Go.ChangeAt Go.RowKit
set_option linter.unusedVariables false

theorem nx_ne : ∀ (l : List UInt8) (u d : Nat) (x : List UInt8), nxL l u d = some x → x ≠ l := by
  intro l
  induction l with
  | nil => intro u d x h; rw [nxL] at h; cases h
  | cons c l ih =>
    intro u d x h
    by_cases e : c.toNat = 117
    · rw [nxL_up _ _ _ _ e] at h
      rcases hx : nxL l (u - 1) d with _ | y
      · rw [hx] at h
        by_cases hlt : u < d
        · simp only [hlt, if_true, Option.some.injEq] at h
          subst h
          intro hh
          simp only [List.cons.injEq] at hh
          rw [← hh.1] at e
          exact absurd e (by decide)
        · simp [hlt] at h
      · rw [hx] at h
        simp only [Option.some.injEq] at h
        subst h
        intro hh
        simp only [List.cons.injEq] at hh
        exact ih _ _ _ hx hh.2
    · rw [nxL_down _ _ _ _ e] at h
      rcases hx : nxL l u (d - 1) with _ | y
      · rw [hx] at h; cases h
      · rw [hx] at h
        simp only [Option.some.injEq] at h
        subst h
        intro hh
        simp only [List.cons.injEq] at hh
        exact ih _ _ _ hx hh.2
theorem nx_len : ∀ (l : List UInt8) (h u d : Nat) (x : List UInt8), ends h u d l → nxL l u d = some x → x.length = l.length := by
  intro l
  induction l with
  | nil => intro h u d x _ hx; rw [nxL] at hx; cases hx
  | cons c l ih =>
    intro h u d x he hx
    have hlen := he.2.2
    by_cases e : c.toNat = 117
    · obtain ⟨h1, h2⟩ := ends_up he e
      rw [nxL_up _ _ _ _ e] at hx
      rcases hy : nxL l (u - 1) d with _ | y
      · rw [hy] at hx
        by_cases hlt : u < d
        · simp only [hlt, if_true, Option.some.injEq] at hx
          subst hx
          rw [List.length_cons, frL_len]
          rw [List.length_cons] at hlen ⊢
          omega
        · simp [hlt] at hx
      · rw [hy] at hx
        simp only [Option.some.injEq] at hx
        subst hx
        rw [List.length_cons, List.length_cons, ih _ _ _ _ h2 hy]
    · obtain ⟨h1, h2, h3⟩ := ends_down he e
      rw [nxL_down _ _ _ _ e] at hx
      rcases hy : nxL l u (d - 1) with _ | y
      · rw [hy] at hx; cases hx
      · rw [hy] at hx
        simp only [Option.some.injEq] at hx
        subst hx
        rw [List.length_cons, List.length_cons, ih _ _ _ _ h3 hy]
theorem next_none {s : ByteArray} (hd : dyck s = true) (h : nxL (rest s 0) (cU (rest s 0)) (cD (rest s 0)) = none) : nextOk s = false ∧ nextP s = ⟨#[]⟩ ∧ nxS s = s.data.toList := by
  obtain ⟨c1, c2⟩ := c_start hd
  have h16 := dyck_size hd
  have hx : nxS s = s.data.toList := by unfold nxS; rw [h]; rfl
  rw [c1, c2] at h
  have hr := (nx_rank _ _ _ _ (ends_start hd) (by omega) (by omega)).1 h
  have hrk : rankP s = rkL (rest s 0) (s.size / 2) (s.size / 2) := if_pos hd
  have hno := unr_no (n := ((s.size / 2 : Nat) : Int)) (k := rankP s + 1) (fun hg => by
    have := hg.2.2.2
    rw [hrk] at this
    simp only [Int.toNat_natCast] at this
    omega)
  exact ⟨by unfold nextOk; rw [if_pos hd]; exact hno.1, by unfold nextP; rw [if_pos hd]; exact hno.2, hx⟩
theorem next_some {s : ByteArray} {x : List UInt8} (hd : dyck s = true) (h : nxL (rest s 0) (cU (rest s 0)) (cD (rest s 0)) = some x) : nextOk s = true ∧ nextP s = ⟨x.toArray⟩ ∧ nxS s = x ∧ x ≠ s.data.toList ∧ x.length = s.size := by
  obtain ⟨c1, c2⟩ := c_start hd
  have h16 := dyck_size hd
  have hx : nxS s = x := by unfold nxS; rw [h]; rfl
  have hne := nx_ne _ _ _ _ h
  rw [c1, c2] at h
  have hl := nx_len _ _ _ _ _ (ends_start hd) h
  obtain ⟨r1, r2⟩ := (nx_rank _ _ _ _ (ends_start hd) (by omega) (by omega)).2 x h
  have hrk : rankP s = rkL (rest s 0) (s.size / 2) (s.size / 2) := if_pos hd
  have h0 := (rankP_bd hd).1
  have hyes := unr_yes (n := ((s.size / 2 : Nat) : Int)) (k := rankP s + 1) ⟨by omega, by omega, by omega, by simp only [Int.toNat_natCast]; rw [hrk]; exact r1⟩
  refine ⟨by unfold nextOk; rw [if_pos hd]; exact hyes.1, ?_, hx, hne, by rw [hl, rest_zero]; simp⟩
  unfold nextP
  rw [if_pos hd, hyes.2]
  simp only [Int.toNat_natCast]
  rw [hrk, r2]
theorem first_row {s : ByteArray} (h16 : s.size ≤ 16) : ((cells16 []).toList.take 0 ++ Lib.byteCells s.data.toList ++ (cells16 []).toList.drop (0 + s.size)).toArray = cells16 s.data.toList := by
  have hS : s.data.toList.length = s.size := by simp
  have hlb := Lib.byteCells_length s.data.toList
  have hc := cells16_size []
  apply cells16_eq
  · simp [Lib.byteCells_length, hc]; omega
  · intro q hq
    rw [List.getElem?_toArray, List.take_zero, List.nil_append]
    by_cases h : q < s.size
    · rw [List.getElem?_append_left (by omega)]
      unfold Lib.byteCells lrow
      rw [List.getElem?_map, List.getD_eq_getElem?_getD, List.getElem?_eq_getElem (by omega)]
      rfl
    · rw [List.getElem?_append_right (by omega), List.getElem?_drop, hlb, hS, show 0 + s.size + (q - s.size) = q by omega, Array.getElem?_toList, cells16_get _ _ hq]
      congr 2
      unfold lrow
      rw [List.getD_eq_getElem?_getD, List.getD_eq_getElem?_getD, List.getElem?_eq_none (by simp), List.getElem?_eq_none (by omega)]
theorem all_same (l : List UInt8) : ((List.range' 0 16).all fun q => lrow l q == lrow l q) = true := by simp
theorem all_other {x l : List UInt8} (hne : x ≠ l) (h1 : x.length = l.length) (h2 : l.length ≤ 16) : ((List.range' 0 16).all fun q => lrow x q == lrow l q) = false := by
  rw [Bool.eq_false_iff]
  intro h
  apply hne
  rw [List.all_eq_true] at h
  apply List.ext_getElem h1
  intro i hi hi'
  have := h i (by simp [List.mem_range']; omega)
  simp only [beq_iff_eq, lrow] at this
  rw [List.getD_eq_getElem?_getD, List.getD_eq_getElem?_getD, List.getElem?_eq_getElem hi, List.getElem?_eq_getElem hi'] at this
  simp only [Option.getD_some] at this
  exact UInt8.toNat_inj.1 (by omega)
theorem out_str {x : List UInt8} : strOfNums ((List.range x.length).map (lrow x)) = ⟨x.toArray⟩ := by
  unfold strOfNums
  congr 2
  apply List.ext_getElem (by simp)
  intro i h1 h2
  simp [lrow, h2]
theorem TabL.conv {w : World} {g n : Nat} {x : List UInt8} (h : TabL w g x) (hl : x.length = n) (hn : n ≤ 16) (c : Nat) : (convert 22 9 (.slice (some ⟨g, 0, none⟩) n c)).run Try.prog w = .ok (.string ⟨x.toArray⟩) w := by
  rw [← out_str, hl]
  refine run_convert_bytes_arg w 22 5 Try.underlying22 Try.underlying5 g 0 n c _ (by simp) (fun i hi => ?_) 9 Try.underlying9
  rw [Nat.zero_add, (h.cell (by omega)).1]
  simp [List.getD, hi]

set_option maxRecDepth 100000 in
set_option maxHeartbeats 3200000 in
theorem nextPathI (s : ByteArray) (w : World) : Calls Try.prog 72 #[.string s] w fun e w' => e = .returned (.tuple #[.string (nextP s), .bool (nextOk s)]) ∧ Below w.heap.size w w' := by
  rcases hd : dyck s with _ | _
  · have HP := Lib.hid (show nextOk s = false ∧ nextP s = ⟨#[]⟩ by unfold nextOk nextP; rw [hd]; exact ⟨rfl, rfl⟩)
    have HD := Lib.hid hd
    clear hd
    go_enter Try.func72, Try.ntmps72
    go_wp2_with fail
    (with_reducible refine (isDyckI_no s _ HD.out).mono ?_)
    rintro e w' ⟨rfl, hb⟩
    go_wp2
    go_ret2
    exact ⟨ret_sb HP.out.2.symm HP.out.1.symm, hb⟩
  · have HD := Lib.hid hd
    have h16 := dyck_size hd
    have hz := zeroL
    have HFR := Lib.hid (first_row h16)
    have HC0 := Lib.hid (cells16_size [])
    have HC1 := Lib.hid (cells16_size s.data.toList)
    clear hd
    generalize hzz : cells16 [] = zz at hz HFR HC0
    have HZZ := Lib.hid hzz
    clear hzz
    go_enter Try.func72, Try.ntmps72
    go_wp2_with fail
    (with_reducible refine (isDyckI_yes s _ HD.out).mono ?_)
    rintro e w1 ⟨rfl, hb⟩
    have HB1 := Lib.hid hb
    have z1 := hb.size
    clear hb
    have hg0 : (w1.alloc (.cells zz 97)).heap[w1.heap.size]? = some (.cells zz 97 (0, 0)) := heap_alloc_new w1 _
    have hcopy : (Builtin.copy_ #[22, 9] 3 #[.slice (some ⟨w1.heap.size, 0, none⟩) 16 16, .string s]).run Try.prog (w1.alloc (.cells zz 97)) = .ok (goInt s.size) ((w1.alloc (.cells zz 97)).setRow w1.heap.size (cells16 s.data.toList)) := by
      have h := Lib.run_copy_row_string (P := Try.prog) (w1.alloc (.cells zz 97)) 22 9 3 5 w1.heap.size 0 16 16 s zz 97 Try.underlying22 (by kernel_rfl) hg0 h16 (by rw [HC0.out]; omega)
      rw [h, HFR.out]
    have hBW := Lib.hid (below_setRow (HB1.out.alloc z1 (.cells zz 97)) z1 (cells16 s.data.toList))
    have hGW := Lib.hid (setRow_heap _ w1.heap.size zz (cells16 s.data.toList) _ (0, 0) hg0)
    have hZW := Lib.hid (show ((w1.alloc (.cells zz 97)).setRow w1.heap.size (cells16 s.data.toList)).heap.size = w1.heap.size + 1 by simp)
    have hNL := Lib.hid (fun w => nextLetters s w HD.out)
    have HONE := Lib.hid (cells16_one (nxS s))
    have HX0 := Lib.hid (cells16_size (nxS s))
    have HCMP := Lib.hid (fun w : World => eqlArr (cells16 (nxS s)) (cells16 s.data.toList) w (lrow (nxS s)) (lrow s.data.toList) (fun q hq => cells16_get _ q hq) (fun q hq => cells16_get _ q hq))
    have HTL := Lib.hid (show ∀ (w : World) (g : Nat), w.heap[g]? = some (.cells (cells16 (nxS s)) 97 (0, 0)) → TabL w g (nxS s) from fun _ _ h => h)
    clear hg0
    generalize cells16 s.data.toList = cs at *
    generalize cells16 (nxS s) = xs at *
    generalize (w1.alloc (.cells zz 97)).setRow w1.heap.size cs = W2 at *
    go_wp2_with (refine wpList_load_row rfl _ _ rfl w1.heap.size rfl 97 cs (0, 0) _ hGW.out Try.underlying97 rfl (by rw [HC1.out]; exact sizeL) ?_)
    clear hcopy
    refine (hNL.out _).mono ?_
    rintro e w3 ⟨rfl, hb⟩
    have HB3 := Lib.hid (hBW.out.trans (hb.mono (by rw [hZW.out]; omega)))
    have HG3 := Lib.hid ((hb.block w1.heap.size (by rw [hZW.out]; omega)).trans hGW.out)
    have hlt3 : w1.heap.size < w3.heap.size := by have := hb.size; rw [hZW.out] at this; omega
    clear hb
    have HZ3 := Lib.hid (show (w3.alloc (.cells zz 97)).heap[w3.heap.size]? = some (.cells zz 97 (0, 0)) from heap_alloc_new w3 _)
    have HG4 := Lib.hid (show ((w3.alloc (.cells zz 97)).setRow w3.heap.size xs).heap[w1.heap.size]? = some (.cells cs 97 (0, 0)) by
      rw [setRow_other _ _ _ _ (by omega), Lib.alloc_old _ _ _ hlt3]; exact HG3.out)
    have HX4 := Lib.hid (setRow_heap _ w3.heap.size zz xs _ (0, 0) HZ3.out)
    have HB4 := Lib.hid (below_setRow (HB3.out.alloc (by omega) (.cells zz 97)) (show w.heap.size ≤ w3.heap.size by omega) xs)
    have hT4 := HTL.out _ _ HX4.out
    rcases hnx : nxL (rest s 0) (cU (rest s 0)) (cD (rest s 0)) with _ | x
    · obtain ⟨n1, n2, n3⟩ := next_none HD.out hnx
      have HN := Lib.hid (And.intro n1 n2)
      have hcmp := HCMP.out
      rw [n3, all_same] at hcmp
      clear n1 n2 n3 hnx hT4
      go_wp2_with (first
        | (refine wpList_store_row rfl _ _ _ rfl w3.heap.size xs rfl rfl 97 zz HZ3.out (by rw [HX0.out]; exact sizeL) (by rw [HC0.out, HX0.out]) HONE.out ?_)
        | (refine wpList_load_row rfl _ _ rfl w3.heap.size rfl 97 xs (0, 0) _ HX4.out Try.underlying97 rfl (by rw [HX0.out]; exact sizeL) ?_)
        | (refine wpList_load_row rfl _ _ rfl w1.heap.size rfl 97 cs (0, 0) _ HG4.out Try.underlying97 rfl (by rw [HC1.out]; exact sizeL) ?_))
      go_ret2
      exact ⟨ret_sb HN.out.2.symm HN.out.1.symm, HB4.out⟩
    · obtain ⟨n1, n2, n3, n4, n5⟩ := next_some HD.out hnx
      have HN := Lib.hid (And.intro n1 n2)
      have hcmp := HCMP.out
      rw [n3, all_other n4 (by rw [n5]; simp) (by simpa using h16)] at hcmp
      rw [n3] at hT4
      have hcv := hT4.conv n5 h16 16
      have hs16 : (s.size : Int) ≤ 16 := by omega
      clear n1 n2 n3 n4 n5 hnx hT4
      go_wp2_with (first
        | (refine wpList_store_row rfl _ _ _ rfl w3.heap.size xs rfl rfl 97 zz HZ3.out (by rw [HX0.out]; exact sizeL) (by rw [HC0.out, HX0.out]) HONE.out ?_)
        | (refine wpList_load_row rfl _ _ rfl w3.heap.size rfl 97 xs (0, 0) _ HX4.out Try.underlying97 rfl (by rw [HX0.out]; exact sizeL) ?_)
        | (refine wpList_load_row rfl _ _ rfl w1.heap.size rfl 97 cs (0, 0) _ HG4.out Try.underlying97 rfl (by rw [HC1.out]; exact sizeL) ?_))
      go_ret2
      exact ⟨ret_sb HN.out.2.symm HN.out.1.symm, HB4.out⟩

end Go.Proofs.Ytbdnelijfbnfnaa
end

section
namespace Go.Proofs.Ytbdnelijfbnfnaa
open Go.ChangeShapes Go.WideShapes Go.ChangeAt Go.RowKit
set_option linter.unusedVariables false

/-- A row of strings appended to a row of strings that the call owns. -/
theorem wpAppStrs {w : World} {ops : Array Oper} {rest : List Oper} {o : Oper} {a : Act} {Q : Exit → Act → World → Prop} (hgd : o.guard = none) (s x : Operand)
    (ho : o.op = .call { callee := .builtin .append, args := #[s, x], argTypes := #[32, 32] })
    (base : Nat) (v : Value) (n : Nat) (xs ys : List ByteArray) (hs : a.eval s = v) (hown : w.ownsRow base 9 1 v n (xs.map Value.string))
    (b : Nat) (c : Nat) (hx : a.eval x = .slice (some ⟨b, 0, none⟩) ys.length c) (hcell : ∀ j, j < ys.length → w.cell? ⟨b, j, none⟩ = some (.string (ys.getD j E0)))
    (hn : n ≤ 1048576) (hm : ys.length ≤ 1048576) (hbase : base ≤ w.heap.size)
    (h : ∀ v' w', w'.ownsRow base 9 1 v' (n + ys.length) ((xs ++ ys).map Value.string) → w.grownBy w' v.ownBlock → wpList Try.prog ops Q rest (a.put o.dst v') w') : wpList Try.prog ops Q (o :: rest) a w := by
  obtain ⟨i0, hi, hz0, hz1, hz2⟩ := info_parts info9
  refine wpList_append_own _ hgd s x 32 ho base 9 i0 (.string ⟨#[]⟩) 1 16 Try.underlying32 hi hz0 hz1 hz2 rfl (by decide) v n _ hs hown ⟨b, 0, none⟩ ys.length c (ys.map Value.string) hx (by simp) ?_ ?_ (by unfold maxLen; omega) (by omega) hbase ?_
  · intro j u hj
    rw [List.getElem?_map] at hj
    have hlt : j < ys.length := by
      rcases Nat.lt_or_ge j ys.length with h | h
      · exact h
      · rw [List.getElem?_eq_none h] at hj; cases hj
    have := hcell j hlt
    rw [List.getElem?_eq_getElem hlt] at hj
    simp only [Option.map_some, Option.some.injEq] at hj
    subst hj
    rw [List.getD_eq_getElem?_getD, List.getElem?_eq_getElem hlt] at this
    rw [add_flat]
    simpa using this
  · intro u hu; simp at hu; obtain ⟨y, -, rfl⟩ := hu; rfl
  · intro v' w' h1 h2 _
    exact h v' w' (by simpa using h1) h2
theorem ownsRow_keepB {w w' : World} {base B n : Nat} {v : Value} {xs : List Value} (h : w.ownsRow base 9 1 v n xs) (hb : Below B w w') (hB : w.heap.size ≤ B) : w'.ownsRow base 9 1 v n xs := by
  refine ⟨h.1, ?_⟩
  rcases h.2 with e | ⟨o, cap, cur, e, h1, h2, h3⟩
  · exact .inl e
  · exact .inr ⟨o, cap, cur, e, h1, (hb.block o (by have := (Array.getElem?_eq_some_iff.1 h2).1; omega)).trans h2, h3⟩
theorem OwnS.one (W : World) (s : ByteArray) : OwnS (W.alloc (.cells #[.string s] 9)) W.heap.size (W.alloc (.cells #[.string s] 9)).heap.size (.slice (some ⟨W.heap.size, 0, none⟩) 1 1) [s] := by
  refine ⟨_, _, rfl, .inr ⟨W.heap.size, #[.string s], Nat.le_refl _, by simp, rfl, by rw [show (W.alloc (.cells #[.string s] 9)).heap = W.heap.push (.cells #[.string s] 9) from rfl]; simp, fun j hj => ?_⟩⟩
  simp at hj; subst hj; rfl

theorem OwnS.opened {w : World} {lo hi : Nat} {v : Value} {xs : List ByteArray} (h : OwnS w lo hi v xs) (hne : 1 ≤ xs.length) :
    ∃ g c, v = .slice (some ⟨g, 0, none⟩) xs.length c ∧ ∀ j, j < xs.length → w.cell? ⟨g, j, none⟩ = some (.string (xs.getD j E0)) := by
  obtain ⟨g, c, e, -⟩ := h.cell (j := 0) (by omega)
  refine ⟨g, c, e, fun j hj => ?_⟩
  obtain ⟨g', c', e', -, -, hc, -⟩ := h.cell hj
  rw [e] at e'
  simp only [Value.slice.injEq, Option.some.injEq, Addr.mk.injEq] at e'
  obtain ⟨⟨rfl, -⟩, -⟩ := e'
  exact hc

/-- All ways to go on from the word s, u before d. -/
def allF : Nat → ByteArray → Nat → Nat → List ByteArray
  | 0, s, _, _ => [s]
  | f + 1, s, u, d => (if 0 < u then allF f (s ++ ⟨#[117]⟩) (u - 1) d else []) ++ (if u < d then allF f (s ++ ⟨#[100]⟩) u (d - 1) else [])
theorem allF_ne : ∀ (f : Nat) (s : ByteArray) (u d : Nat), u + d = f → u ≤ d → 1 ≤ (allF f s u d).length := by
  intro f
  induction f with
  | zero => intro s u d _ _; exact Nat.le_refl _
  | succ f ih =>
    intro s u d h1 h2
    rw [allF, List.length_append]
    by_cases h : 0 < u
    · have := ih (s ++ ⟨#[117]⟩) (u - 1) d (by omega) (by omega)
      rw [if_pos h]; omega
    · have := ih (s ++ ⟨#[100]⟩) u (d - 1) (by omega) (by omega)
      rw [if_pos (show u < d by omega)]; omega
theorem allF_len : ∀ (f : Nat) (s : ByteArray) (u d : Nat), (allF f s u d).length ≤ 2 ^ f := by
  intro f
  induction f with
  | zero => intro s u d; exact Nat.le_refl _
  | succ f ih =>
    intro s u d
    rw [allF, List.length_append, Nat.pow_succ]
    have h1 : (if 0 < u then allF f (s ++ ⟨#[117]⟩) (u - 1) d else []).length ≤ 2 ^ f := by
      split
      · exact ih _ _ _
      · exact Nat.zero_le _
    have h2 : (if u < d then allF f (s ++ ⟨#[100]⟩) u (d - 1) else []).length ≤ 2 ^ f := by
      split
      · exact ih _ _ _
      · exact Nat.zero_le _
    omega
theorem allF_small (f : Nat) (s : ByteArray) (u d : Nat) (h : f ≤ 12) : (allF f s u d).length ≤ 4096 :=
  Nat.le_trans (allF_len f s u d) (Nat.le_trans (Nat.pow_le_pow_right (by decide) h) (by decide))

set_option maxRecDepth 100000 in
set_option maxHeartbeats 600000 in
theorem l3All : ∀ (f u d : Nat) (s : ByteArray) (w : World), u + d = f → u ≤ d → d ≤ 6 → s.size ≤ 100 - f → Calls Try.prog 61 #[.string s, .int .i64 u, .int .i64 d] w (AnsS (allF f s u d) w) := by
  intro f
  induction f with
  | zero =>
    intro u d s w h1 h2 h3 h4
    have hd0 : ((d : Int) == 0) = true := by simp; omega
    go_enter Try.func61, Try.ntmps61
    go_wp2
    go_ret
    exact ⟨_, rfl, OwnS.one _ _, (Below.refl _ _).alloc (Nat.le_refl _) _⟩
  | succ f ih =>
    intro u d s w h1 h2 h3 h4
    have IH := Lib.hid ih
    clear ih
    have hd0 : ((d : Int) == 0) = false := beq_eq_false_iff_ne.2 (by omega)
    have E1 := Lib.hid (show (s ++ ⟨#[117]⟩ : ByteArray).size = s.size + 1 by rw [ByteArray.size_append]; rfl)
    have E2 := Lib.hid (show (s ++ ⟨#[100]⟩ : ByteArray).size = s.size + 1 by rw [ByteArray.size_append]; rfl)
    have z1 : ¬ 9223372036854775807 < s.size + (⟨#[117]⟩ : ByteArray).size := by
      have : (⟨#[117]⟩ : ByteArray).size = 1 := rfl
      omega
    have z2 : ¬ 9223372036854775807 < s.size + (⟨#[100]⟩ : ByteArray).size := by
      have : (⟨#[100]⟩ : ByteArray).size = 1 := rfl
      omega
    by_cases hu : 0 < u
    · obtain ⟨p, HP, hp⟩ : ∃ p, Hid (u = p + 1) ∧ (u : Int) - 1 = (p : Int) := ⟨u - 1, Lib.hid (by omega), by omega⟩
      have hui : (0 : Int) < (u : Int) := by omega
      by_cases hd : u < d
      · obtain ⟨q, HQ, hq⟩ : ∃ q, Hid (d = q + 1) ∧ (d : Int) - 1 = (q : Int) := ⟨d - 1, Lib.hid (by omega), by omega⟩
        have hdi : (u : Int) < (d : Int) := by omega
        have HA := Lib.hid (show allF (f + 1) s u d = allF f (s ++ ⟨#[117]⟩) p d ++ allF f (s ++ ⟨#[100]⟩) u q by rw [allF, if_pos hu, if_pos hd, HP.out, HQ.out]; rfl)
        go_enter Try.func61, Try.ntmps61
        go_wp2_with fail
        have hcall := fun W => IH.out p d (s ++ ⟨#[117]⟩) W (by have := HP.out; omega) (by have := HP.out; omega) h3 (by have := E1.out; omega)
        (with_reducible refine (hcall _).mono ?_)
        clear hcall
        rintro e w1 ⟨v1, rfl, ho1, hb1⟩
        have hn1 := allF_ne f (s ++ ⟨#[117]⟩) p d (by have := HP.out; omega) (by have := HP.out; omega)
        have hm1 := allF_small f (s ++ ⟨#[117]⟩) p d (by omega)
        generalize allF f (s ++ ⟨#[117]⟩) p d = xs1 at *
        obtain ⟨g1, c1, rfl, HC1⟩ := ho1.opened hn1
        have hown1 := ownsRow_keepB (World.ownsRow_made w #[] 0 (Nat.le_refl _) (Nat.zero_le _) (by simp)) hb1 (Nat.le_refl _)
        have hb1' := ((Below.refl w.heap.size w).alloc (Nat.le_refl _) (.cells #[] 9)).trans (hb1.mono (by simp))
        have HHC := Lib.hid HC1
        have HB1 := Lib.hid hb1'
        have z3 := hb1'.size
        clear ho1 hb1 hb1' HC1
        go_wp2_with (at_builtin; go_must (refine wpAppStrs rfl _ _ rfl w.heap.size _ 0 [] xs1 rfl hown1 g1 c1 rfl HHC.out (by omega) (by omega) z3 ?_); intro v2 w2 hown2 hg2)
        have HB2 := Lib.hid (HB1.out.grown hg2 z3 (fun k hk => (hown1.lt k hk).1))
        have z4 := HB2.out.size
        have hcall := fun W => IH.out u q (s ++ ⟨#[100]⟩) W (by have := HQ.out; omega) (by have := HQ.out; omega) (by have := HQ.out; omega) (by have := E2.out; omega)
        (with_reducible refine (hcall _).mono ?_)
        clear hcall
        rintro e w3 ⟨v3, rfl, ho3, hb3⟩
        have hn3 := allF_ne f (s ++ ⟨#[100]⟩) u q (by have := HQ.out; omega) (by have := HQ.out; omega)
        have hm3 := allF_small f (s ++ ⟨#[100]⟩) u q (by omega)
        generalize allF f (s ++ ⟨#[100]⟩) u q = xs3 at *
        obtain ⟨g3, c3, rfl, HC3⟩ := ho3.opened hn3
        have hown3 := ownsRow_keepB hown2 hb3 (Nat.le_refl _)
        have HHC3 := Lib.hid HC3
        have HB3 := Lib.hid (HB2.out.trans (hb3.mono z4))
        have z5 := HB3.out.size
        clear ho3 hb3 HC3
        go_wp2_with (at_builtin; go_must (refine wpAppStrs rfl _ _ rfl w.heap.size _ (0 + xs1.length) ([] ++ xs1) xs3 rfl hown3 g3 c3 rfl HHC3.out (by omega) (by omega) z5 ?_); intro v4 w4 hown4 hg4)
        go_ret
        refine ⟨v4, rfl, ?_, HB3.out.grown hg4 z5 (fun k hk => (hown3.lt k hk).1)⟩
        rw [HA.out]
        exact OwnS.of_row hown4
      · have hdi : ¬ (u : Int) < (d : Int) := by omega
        have HA := Lib.hid (show allF (f + 1) s u d = [] ++ allF f (s ++ ⟨#[117]⟩) p d by rw [allF, if_pos hu, if_neg hd, HP.out, List.append_nil]; rfl)
        go_enter Try.func61, Try.ntmps61
        go_wp2_with fail
        have hcall := fun W => IH.out p d (s ++ ⟨#[117]⟩) W (by have := HP.out; omega) (by have := HP.out; omega) h3 (by have := E1.out; omega)
        (with_reducible refine (hcall _).mono ?_)
        clear hcall
        rintro e w1 ⟨v1, rfl, ho1, hb1⟩
        have hn1 := allF_ne f (s ++ ⟨#[117]⟩) p d (by have := HP.out; omega) (by have := HP.out; omega)
        have hm1 := allF_small f (s ++ ⟨#[117]⟩) p d (by omega)
        generalize allF f (s ++ ⟨#[117]⟩) p d = xs1 at *
        obtain ⟨g1, c1, rfl, HC1⟩ := ho1.opened hn1
        have hown1 := ownsRow_keepB (World.ownsRow_made w #[] 0 (Nat.le_refl _) (Nat.zero_le _) (by simp)) hb1 (Nat.le_refl _)
        have hb1' := ((Below.refl w.heap.size w).alloc (Nat.le_refl _) (.cells #[] 9)).trans (hb1.mono (by simp))
        have HHC := Lib.hid HC1
        have HB1 := Lib.hid hb1'
        have z3 := hb1'.size
        clear ho1 hb1 hb1' HC1
        go_wp2_with (at_builtin; go_must (refine wpAppStrs rfl _ _ rfl w.heap.size _ 0 [] xs1 rfl hown1 g1 c1 rfl HHC.out (by omega) (by omega) z3 ?_); intro v2 w2 hown2 hg2)
        have HB2 := Lib.hid (HB1.out.grown hg2 z3 (fun k hk => (hown1.lt k hk).1))
        have z4 := HB2.out.size
        go_ret
        refine ⟨v2, rfl, ?_, HB2.out⟩
        rw [HA.out]
        exact OwnS.of_row hown2
    · have hui : ¬ (0 : Int) < (u : Int) := by omega
      have hd : u < d := by omega
      have hdi : (u : Int) < (d : Int) := by omega
      obtain ⟨q, HQ, hq⟩ : ∃ q, Hid (d = q + 1) ∧ (d : Int) - 1 = (q : Int) := ⟨d - 1, Lib.hid (by omega), by omega⟩
      have HA := Lib.hid (show allF (f + 1) s u d = [] ++ allF f (s ++ ⟨#[100]⟩) u q by rw [allF, if_neg hu, if_pos hd, HQ.out]; rfl)
      go_enter Try.func61, Try.ntmps61
      go_wp2_with fail
      have hcall := fun W => IH.out u q (s ++ ⟨#[100]⟩) W (by have := HQ.out; omega) (by have := HQ.out; omega) (by have := HQ.out; omega) (by have := E2.out; omega)
      (with_reducible refine (hcall _).mono ?_)
      clear hcall
      rintro e w3 ⟨v3, rfl, ho3, hb3⟩
      have hn3 := allF_ne f (s ++ ⟨#[100]⟩) u q (by have := HQ.out; omega) (by have := HQ.out; omega)
      have hm3 := allF_small f (s ++ ⟨#[100]⟩) u q (by omega)
      generalize allF f (s ++ ⟨#[100]⟩) u q = xs3 at *
      obtain ⟨g3, c3, rfl, HC3⟩ := ho3.opened hn3
      have hown1 := ownsRow_keepB (World.ownsRow_made w #[] 0 (Nat.le_refl _) (Nat.zero_le _) (by simp)) hb3 (Nat.le_refl _)
      have hb1' := ((Below.refl w.heap.size w).alloc (Nat.le_refl _) (.cells #[] 9)).trans (hb3.mono (by simp))
      have HHC := Lib.hid HC3
      have HB1 := Lib.hid hb1'
      have z3 := hb1'.size
      clear ho3 hb3 hb1' HC3
      go_wp2_with (at_builtin; go_must (refine wpAppStrs rfl _ _ rfl w.heap.size _ 0 [] xs3 rfl hown1 g3 c3 rfl HHC.out (by omega) (by omega) z3 ?_); intro v2 w2 hown2 hg2)
      go_ret
      refine ⟨v2, rfl, ?_, HB1.out.grown hg2 z3 (fun k hk => (hown1.lt k hk).1)⟩
      rw [HA.out]
      exact OwnS.of_row hown2

/-- What PathsOf answers. -/
def pathsP (n : Int) : List ByteArray := if 0 ≤ n ∧ n ≤ 6 then allF (n.toNat + n.toNat) ⟨#[]⟩ n.toNat n.toNat else []
set_option maxRecDepth 100000 in
set_option maxHeartbeats 800000 in
theorem pathsOf (n : Int) (w : World) : Calls Try.prog 42 #[.int .i64 n] w (AnsS (pathsP n) w) := by
  by_cases h0 : n < 0
  · have HP := Lib.hid (show pathsP n = [] from if_neg (by omega))
    go_enter Try.func42, Try.ntmps42
    go_wp2_with fail
    (with_reducible refine (l1In_no1 n 0 6 _ h0).mono ?_)
    rintro e w' ⟨rfl, rfl⟩
    go_wp2
    go_ret
    exact ⟨_, rfl, by rw [HP.out]; exact ⟨_, _, rfl, .inl rfl⟩, (Below.refl _ _).alloc (Nat.le_refl _) _⟩
  by_cases h1 : 6 < n
  · have HP := Lib.hid (show pathsP n = [] from if_neg (by omega))
    have h0' : 0 ≤ n := by omega
    go_enter Try.func42, Try.ntmps42
    go_wp2_with fail
    (with_reducible refine (l1In_no2 n 0 6 _ h0' h1).mono ?_)
    rintro e w' ⟨rfl, rfl⟩
    go_wp2
    go_ret
    exact ⟨_, rfl, by rw [HP.out]; exact ⟨_, _, rfl, .inl rfl⟩, (Below.refl _ _).alloc (Nat.le_refl _) _⟩
  obtain ⟨m, rfl⟩ : ∃ m : Nat, n = m := ⟨n.toNat, by omega⟩
  have h0' : (0 : Int) ≤ (m : Int) := by omega
  have h1' : (m : Int) ≤ 6 := by omega
  have HP := Lib.hid (show pathsP m = allF (m + m) ⟨#[]⟩ m m from if_pos ⟨h0', h1'⟩)
  go_enter Try.func42, Try.ntmps42
  go_wp2_with fail
  (with_reducible refine (l1In_yes _ 0 6 _ h0' h1').mono ?_)
  rintro e w' ⟨rfl, rfl⟩
  go_wp2_with fail
  refine (l3All (m + m) m m ⟨#[]⟩ _ rfl (Nat.le_refl _) (by omega) (by have : (⟨#[]⟩ : ByteArray).size = 0 := rfl; omega)).mono ?_
  rintro e w1 ⟨v1, rfl, ho, hb⟩
  go_wp2
  go_ret
  exact ⟨_, rfl, by rw [HP.out]; exact ho, hb⟩

end Go.Proofs.Ytbdnelijfbnfnaa
end

section
namespace Go.Proofs.Ytbdnelijfbnfnaa
open Go.ChangeShapes Go.WideShapes Go.ChangeAt Go.RowKit
set_option linter.unusedVariables false

theorem ends_cons_up {h u d : Nat} {l : List UInt8} (he : ends (h + 1) u d l) : ends h (u + 1) d (117 :: l) := by
  obtain ⟨h1, h2, h3⟩ := he
  exact ⟨by rw [df_up _ _ _ rfl]; exact h1, by omega, by rw [List.length_cons]; omega⟩
theorem ends_cons_down {h u d : Nat} {l : List UInt8} (he : ends h u d l) : ends (h + 1) u (d + 1) (100 :: l) := by
  obtain ⟨h1, h2, h3⟩ := he
  exact ⟨by rw [df_down _ _ _ rfl]; exact h1, by omega, by rw [List.length_cons]; omega⟩
theorem frL_ends : ∀ (u d h : Nat), h + u = d → ends h u d (frL u d) := by
  intro u
  induction u with
  | zero =>
    intro d
    induction d with
    | zero =>
      intro h hh
      obtain rfl : h = 0 := by omega
      exact ⟨rfl, rfl, rfl⟩
    | succ d ih =>
      intro h hh
      obtain rfl : h = d + 1 := by omega
      rw [frL_none]
      exact ends_cons_down (ih d (by omega))
  | succ u ih =>
    intro d h hh
    rw [frL_up]
    exact ends_cons_up (ih d (h + 1) (by omega))
theorem nx_ends : ∀ (l : List UInt8) (h u d : Nat) (x : List UInt8), ends h u d l → nxL l u d = some x → ends h u d x := by
  intro l
  induction l with
  | nil => intro h u d x _ hx; rw [nxL] at hx; cases hx
  | cons c l ih =>
    intro h u d x he hx
    have hhu := he.2.1
    by_cases e : c.toNat = 117
    · obtain ⟨h1, h2⟩ := ends_up he e
      obtain ⟨u, rfl⟩ : ∃ k, u = k + 1 := ⟨u - 1, by omega⟩
      rw [nxL_up _ _ _ _ e] at hx
      rcases hy : nxL l (u + 1 - 1) d with _ | y
      · rw [hy] at hx
        by_cases hlt : u + 1 < d
        · simp only [hlt, if_true, Option.some.injEq] at hx
          subst hx
          obtain ⟨d, rfl⟩ : ∃ k, d = k + 1 := ⟨d - 1, by omega⟩
          obtain ⟨h, rfl⟩ : ∃ k, h = k + 1 := ⟨h - 1, by omega⟩
          exact ends_cons_down (frL_ends _ _ _ (by omega))
        · simp [hlt] at hx
      · rw [hy] at hx
        simp only [Option.some.injEq] at hx
        subst hx
        exact ends_cons_up (ih _ _ _ _ h2 hy)
    · obtain ⟨h1, h2, h3⟩ := ends_down he e
      obtain ⟨d, rfl⟩ : ∃ k, d = k + 1 := ⟨d - 1, by omega⟩
      obtain ⟨h, rfl⟩ : ∃ k, h = k + 1 := ⟨h - 1, by omega⟩
      rw [nxL_down _ _ _ _ e] at hx
      rcases hy : nxL l u (d + 1 - 1) with _ | y
      · rw [hy] at hx; cases hx
      · rw [hy] at hx
        simp only [Option.some.injEq] at hx
        subst hx
        exact ends_cons_down (ih _ _ _ _ h3 hy)

/-- From l on the next words are r, which begins with l. -/
inductive Runs (u d : Nat) : List UInt8 → List (List UInt8) → Prop
  | last (l : List UInt8) : nxL l u d = none → Runs u d l [l]
  | more (l x : List UInt8) (r : List (List UInt8)) : nxL l u d = some x → Runs u d x r → Runs u d l (l :: r)
theorem Runs.down {u d : Nat} {l : List UInt8} {r : List (List UInt8)} (h : Runs u d l r) : Runs u (d + 1) (100 :: l) (r.map (100 :: ·)) := by
  induction h with
  | last l hn => exact .last _ (by rw [nxL_down _ _ _ _ (by decide), Nat.add_sub_cancel, hn])
  | more l x r hs _ ih => exact .more _ (100 :: x) _ (by rw [nxL_down _ _ _ _ (by decide), Nat.add_sub_cancel, hs]) ih
theorem Runs.up {u d : Nat} {l : List UInt8} {r : List (List UInt8)} (h : Runs u d l r) (hn : ¬ u + 1 < d) : Runs (u + 1) d (117 :: l) (r.map (117 :: ·)) := by
  induction h with
  | last l h0 => exact .last _ (by rw [nxL_up _ _ _ _ rfl, Nat.add_sub_cancel, h0]; simp [hn])
  | more l x r hs _ ih => exact .more _ (117 :: x) _ (by rw [nxL_up _ _ _ _ rfl, Nat.add_sub_cancel, hs]) ih
theorem Runs.both {u d : Nat} {l : List UInt8} {r r2 : List (List UInt8)} (h : Runs u d l r) (hn : u + 1 < d) (h2 : Runs (u + 1) d (100 :: frL (u + 1) (d - 1)) r2) : Runs (u + 1) d (117 :: l) (r.map (117 :: ·) ++ r2) := by
  induction h with
  | last l h0 => exact .more _ _ _ (by rw [nxL_up _ _ _ _ rfl, Nat.add_sub_cancel, h0]; simp [hn]) h2
  | more l x r hs _ ih => exact .more _ (117 :: x) _ (by rw [nxL_up _ _ _ _ rfl, Nat.add_sub_cancel, hs]) ih
def listF : Nat → Nat → Nat → List (List UInt8)
  | 0, _, _ => [[]]
  | f + 1, u, d => (if 0 < u then (listF f (u - 1) d).map (117 :: ·) else []) ++ (if u < d then (listF f u (d - 1)).map (100 :: ·) else [])
theorem list_runs : ∀ (f u d : Nat), u + d = f → u ≤ d → Runs u d (frL u d) (listF f u d) := by
  intro f
  induction f with
  | zero =>
    intro u d h1 h2
    have hu : u = 0 := by omega
    have hd : d = 0 := by omega
    subst hu hd
    exact .last _ rfl
  | succ f ih =>
    intro u d h1 h2
    rw [listF]
    rcases u with _ | u
    · obtain ⟨d, rfl⟩ : ∃ k, d = k + 1 := ⟨d - 1, by omega⟩
      rw [if_neg (by omega), if_pos (by omega), List.nil_append, frL_none, Nat.add_sub_cancel]
      exact (ih 0 d (by omega) (by omega)).down
    · have i1 := ih u d (by omega) (by omega)
      rw [if_pos (by omega), frL_up, Nat.add_sub_cancel]
      by_cases hlt : u + 1 < d
      · rw [if_pos hlt]
        obtain ⟨d, rfl⟩ : ∃ k, d = k + 1 := ⟨d - 1, by omega⟩
        have i2 := (ih (u + 1) d (by omega) (by omega)).down
        exact i1.both hlt i2
      · rw [if_neg hlt, List.append_nil]
        exact i1.up hlt
theorem str_add (s : ByteArray) (c : UInt8) (l : List UInt8) : (s ++ ⟨#[c]⟩) ++ ⟨l.toArray⟩ = s ++ ⟨(c :: l).toArray⟩ := by
  rw [ByteArray.append_assoc]
  congr 1
theorem all_list : ∀ (f : Nat) (s : ByteArray) (u d : Nat), allF f s u d = (listF f u d).map fun l => s ++ ⟨l.toArray⟩ := by
  intro f
  induction f with
  | zero =>
    intro s u d
    rw [allF, listF]
    have : (⟨([] : List UInt8).toArray⟩ : ByteArray) = ByteArray.empty := rfl
    simp [this]
  | succ f ih =>
    intro s u d
    rw [allF, listF, List.map_append]
    congr 1
    · split
      · rw [ih, List.map_map]
        apply List.map_congr_left
        intro l _
        exact str_add s 117 l
      · rfl
    · split
      · rw [ih, List.map_map]
        apply List.map_congr_left
        intro l _
        exact str_add s 100 l
      · rfl
def strL (l : List UInt8) : ByteArray := ⟨l.toArray⟩
theorem paths_list (m : Nat) (hm : m ≤ 6) : pathsP m = (listF (m + m) m m).map strL := by
  unfold pathsP
  rw [if_pos (by omega)]
  simp only [Int.toNat_natCast]
  rw [all_list]
  apply List.map_congr_left
  intro l _
  show ByteArray.empty ++ _ = _
  rw [ByteArray.empty_append]; rfl
theorem str_dyck {l : List UInt8} {m : Nat} (he : ends 0 m m l) (hm : m ≤ 6) : dyck (strL l) = true ∧ (strL l).size = m + m ∧ rest (strL l) 0 = l := by
  have hs : (strL l).size = m + m := by unfold strL; rw [str_len]; exact he.2.2
  have hr : rest (strL l) 0 = l := rfl
  exact ⟨by rw [dyck_short (by omega)]; exact he.1, hs, hr⟩

theorem Runs.pos {u d : Nat} {l : List UInt8} {r : List (List UInt8)} (h : Runs u d l r) : ∃ t, r = l :: t := by
  cases h with
  | last _ _ => exact ⟨[], rfl⟩
  | more _ x r _ _ => exact ⟨r, rfl⟩
/-- What the two answers of NextPath are, at a path of the letters l. -/
theorem next_letters {l : List UInt8} {m : Nat} (he : ends 0 m m l) (hm : m ≤ 6) : (nxL l m m = none → nextOk (strL l) = false) ∧ (∀ x, nxL l m m = some x → nextOk (strL l) = true ∧ nextP (strL l) = strL x) := by
  obtain ⟨hd, hs, hr⟩ := str_dyck he hm
  obtain ⟨c1, c2⟩ := c_start hd
  rw [hs, show (m + m) / 2 = m by omega] at c1 c2
  refine ⟨fun h => ?_, fun x h => ?_⟩
  · have h' : nxL (rest (strL l) 0) (cU (rest (strL l) 0)) (cD (rest (strL l) 0)) = none := by rw [c1, c2, hr]; exact h
    exact (next_none hd h').1
  · have h' : nxL (rest (strL l) 0) (cU (rest (strL l) 0)) (cD (rest (strL l) 0)) = some x := by rw [c1, c2, hr]; exact h
    obtain ⟨n1, n2, -⟩ := next_some hd h'
    exact ⟨n1, n2⟩

set_option maxRecDepth 100000 in
theorem firstPath (m : Nat) (w : World) (hm : m ≤ 6) : Calls Try.prog 71 #[.int .i64 m] w fun e w' => e = .returned (.string (strL (frL m m))) ∧ Below w.heap.size w w' := by
  have HF := Lib.hid (show repS 117 m ++ repS 100 m = strL (frL m m) by
    unfold repS strL frL
    rw [ByteArray.mk_append_mk])
  have h1 : (repS 117 m).size ≤ 8 := by unfold repS; rw [Lib.size_eq]; simp [Lib.repeatL_length]; omega
  have h2 : (repS 100 m).size ≤ 8 := by unfold repS; rw [Lib.size_eq]; simp [Lib.repeatL_length]; omega
  go_enter Try.func71, Try.ntmps71
  go_wp2_with fail
  refine (repU m _ (by omega)).mono ?_
  rintro e w1 ⟨rfl, hb1⟩
  have z1 := hb1.size
  go_wp2_with fail
  refine (repD m _ (by omega)).mono ?_
  rintro e w2 ⟨rfl, hb2⟩
  generalize repS 117 m = R1 at *
  generalize repS 100 m = R2 at *
  have hsum : ¬ 9223372036854775807 < R1.size + R2.size := by omega
  go_wp2
  go_ret
  exact ⟨ret_str HF.out, hb1.trans (hb2.mono z1)⟩

end Go.Proofs.Ytbdnelijfbnfnaa
end

section
namespace Go.Proofs.Ytbdnelijfbnfnaa
open Go.ChangeShapes Go.WideShapes Go.ChangeAt Go.RowKit
set_option linter.unusedVariables false

set_option maxRecDepth 100000 in
set_option maxHeartbeats 1600000 in
theorem listPathsI (m : Nat) (hm : m ≤ 6) (w : World) : Calls Try.prog 60 #[.int .i64 m] w (AnsS (pathsP m) w) := by
  have HP := Lib.hid (paths_list m hm)
  have HR := Lib.hid (list_runs (m + m) m m rfl (Nat.le_refl _))
  have HE := Lib.hid (frL_ends m m 0 (by omega))
  have HLEN := Lib.hid (show (pathsP m).length ≤ 4096 by
    unfold pathsP
    rw [if_pos (by omega)]
    simp only [Int.toNat_natCast]
    exact allF_small _ _ _ _ (by omega))
  go_enter Try.func60, Try.ntmps60
  go_wp2_with fail
  refine (firstPath m _ hm).mono ?_
  rintro e w1 ⟨rfl, hb⟩
  have HB1 := Lib.hid hb
  clear hb
  go_wp2
  go_loopg [3, 4, 5] ((listF (m + m) m m).length) (fun g v x y wr => ∃ (acc : List ByteArray), wr.ownsRow w.heap.size 9 1 v acc.length (acc.map Value.string) ∧ Below w.heap.size w wr ∧ ((∃ (l : List UInt8) (r : List (List UInt8)), x = .string (strL l) ∧ y = .bool true ∧ ends 0 m m l ∧ Runs m m l r ∧ r.length = g ∧ acc ++ r.map strL = pathsP m) ∨ (∃ s, x = .string s ∧ y = .bool false ∧ acc = pathsP m)))
  case atStart => exact ⟨[], ⟨rfl, .inl ⟨rfl, rfl⟩⟩, HB1.out, .inl ⟨_, _, rfl, rfl, HE.out, HR.out, rfl, by rw [HP.out]; rfl⟩⟩
  case round =>
    obtain ⟨acc, hown, hb, hcase⟩ := hrel
    have HB := Lib.hid hb
    have hB := hb.size
    clear hb
    rcases hcase with ⟨l, r, rfl, rfl, hends, hruns, hlen, hacc⟩ | ⟨s, rfl, rfl, hacc⟩
    · have HA := Lib.hid hacc
      have HEN := Lib.hid hends
      have HRU := Lib.hid hruns
      have HL := Lib.hid hlen
      have hal : acc.length ≤ 4096 := by
        have h := HLEN.out
        rw [← hacc, List.length_append] at h
        omega
      clear hacc hends hruns hlen
      go_wp2_with (at_builtin; go_must (refine wpAppStr rfl _ _ rfl w.heap.size _ _ _ rfl (hown.alloc _) wr.heap.size _ _ rfl (cell_one _ _ _) (by omega) (base_up hB) ?_); intro v' w' hown' hg')
      have HB2 := Lib.hid ((HB.out.alloc hB _).grown hg' (base_up hB) (fun k hk => (hown.lt k hk).1))
      refine (nextPathI (strL l) _).mono ?_
      rintro e w3 ⟨rfl, hb3⟩
      have HO3 := Lib.hid (ownsRow_keepB hown' hb3 (Nat.le_refl _))
      have HB3 := Lib.hid (HB2.out.trans (hb3.mono HB2.out.size))
      have HNX := Lib.hid (next_letters HEN.out hm)
      obtain ⟨t, ht⟩ := HRU.out.pos
      clear hown hg' hown' hb3
      rcases hnx : nxL l m m with _ | x
      · have hok := HNX.out.1 hnx
        rw [hok]
        have HT := Lib.hid (show r = [l] by
          have := HRU.out
          cases this with
          | last _ _ => rfl
          | more _ x r h _ => rw [hnx] at h; cases h)
        clear hnx hok ht
        go_wp2
        go_roundg 0
        case measure => have := HL.out; rw [HT.out] at this; simp at this; omega
        case rel => exact ⟨acc ++ [strL l], by simpa using HO3.out, HB3.out, .inr ⟨_, rfl, rfl, by rw [← HA.out, HT.out]; rfl⟩⟩
      · obtain ⟨hok, hp⟩ := HNX.out.2 x hnx
        rw [hok, hp]
        have HT := Lib.hid (show ∃ r', r = l :: r' ∧ Runs m m x r' by
          have := HRU.out
          cases this with
          | last _ h => rw [hnx] at h; cases h
          | more _ y r' h h' =>
            rw [hnx] at h
            obtain rfl : x = y := Option.some.inj h
            exact ⟨r', rfl, h'⟩)
        have HE2 := Lib.hid (nx_ends _ _ _ _ _ HEN.out hnx)
        clear hnx hok hp ht
        obtain ⟨r', hr, hr'⟩ := HT.out
        have HR1 := Lib.hid hr
        have HR2 := Lib.hid hr'
        clear hr hr'
        go_wp2
        go_roundg r'.length
        case measure => have := HL.out; rw [HR1.out] at this; simp at this; omega
        case rel => exact ⟨acc ++ [strL l], by simpa using HO3.out, HB3.out, .inl ⟨_, _, rfl, rfl, HE2.out, HR2.out, rfl, by rw [← HA.out, HR1.out]; simp⟩⟩
    · go_wp2
      go_ret
      refine ⟨_, rfl, ?_, HB.out⟩
      rw [← hacc]
      exact OwnS.of_row hown


set_option maxRecDepth 100000 in
set_option maxHeartbeats 800000 in
theorem pathsOfI2 (n : Int) (w : World) : Calls Try.prog 40 #[.int .i64 n] w (AnsS (pathsP n) w) := by
  by_cases h0 : n < 0
  · have HP := Lib.hid (show pathsP n = [] from if_neg (by omega))
    go_enter Try.func40, Try.ntmps40
    go_wp2
    go_ret
    exact ⟨_, rfl, by rw [HP.out]; exact ⟨_, _, rfl, .inl rfl⟩, Below.refl _ _⟩
  have h0b : decide (n < 0) = false := by simpa using h0
  by_cases h1 : 6 < n
  · have HP := Lib.hid (show pathsP n = [] from if_neg (by omega))
    go_enter Try.func40, Try.ntmps40
    go_wp2
    go_ret
    exact ⟨_, rfl, by rw [HP.out]; exact ⟨_, _, rfl, .inl rfl⟩, Below.refl _ _⟩
  have h1b : decide (6 < n) = false := by simpa using h1
  obtain ⟨m, rfl⟩ : ∃ m : Nat, n = m := ⟨n.toNat, by omega⟩
  have hm : m ≤ 6 := by omega
  have hmb : decide (6 < m) = false := by simp; omega
  have HL := Lib.hid (listPathsI m hm w)
  clear h0 h1
  go_enter Try.func40, Try.ntmps40
  go_wp2_with fail
  (with_reducible refine HL.out.mono ?_)
  rintro e w1 ⟨v, rfl, ho, hb⟩
  obtain ⟨A, c, rfl, -⟩ := id ho
  go_wp2
  go_ret
  exact ⟨_, rfl, ho, hb⟩

end Go.Proofs.Ytbdnelijfbnfnaa
end

section
namespace Go.Proofs.Ytbdnelijfbnfnaa
open Go.ChangeShapes Go.WideShapes Go.ChangeAt Go.RowKit
open Go.PlainAid (bt bt_nonneg bt_le get_bt bt_end)
set_option linter.unusedVariables false

theorem allF_sz : ∀ (f : Nat) (s : ByteArray) (u d : Nat), ∀ x ∈ allF f s u d, x.size ≤ s.size + f := by
  intro f
  induction f with
  | zero => intro s u d x hx; simp [allF] at hx; subst hx; omega
  | succ f ih =>
    intro s u d x hx
    rw [allF, List.mem_append] at hx
    have one : ∀ c : UInt8, (s ++ ⟨#[c]⟩ : ByteArray).size = s.size + 1 := fun c => by rw [ByteArray.size_append]; rfl
    rcases hx with hx | hx
    · split at hx
      · have := ih _ _ _ x hx
        rw [one] at this; omega
      · simp at hx
    · split at hx
      · have := ih _ _ _ x hx
        rw [one] at this; omega
      · simp at hx
theorem paths_sz (n : Int) (i : Nat) : ((pathsP n).getD i E0).size ≤ 100 := by
  rw [List.getD_eq_getElem?_getD]
  rcases Nat.lt_or_ge i (pathsP n).length with h | h
  · rw [List.getElem?_eq_getElem h, Option.getD_some]
    have hm := List.getElem_mem h
    generalize (pathsP n)[i] = x at hm ⊢
    unfold pathsP at hm
    split at hm
    · have := allF_sz _ _ _ _ _ hm
      have h0 : (⟨#[]⟩ : ByteArray).size = 0 := rfl
      have h5 : n.toNat ≤ 8 := by omega
      omega
    · exact absurd hm List.not_mem_nil
  · rw [List.getElem?_eq_none h]; show (0 : Nat) ≤ 100; omega
theorem paths_len (n : Int) : (pathsP n).length ≤ 4096 := by
  unfold pathsP
  split
  · exact allF_small _ _ _ _ (by omega)
  · simp
/-- The paths ahead of place k that are above a. -/
def rwC (L : List ByteArray) (a : ByteArray) : Nat → Nat
  | 0 => 0
  | k + 1 => rwC L a k + if isbP a (L.getD k E0) = true then 1 else 0
def ctC (L : List ByteArray) : Nat → Nat
  | 0 => 0
  | i + 1 => ctC L i + rwC L (L.getD i E0) L.length
theorem rwC_le (L : List ByteArray) (a : ByteArray) : ∀ k, rwC L a k ≤ k
  | 0 => Nat.le_refl _
  | k + 1 => by have := rwC_le L a k; rw [rwC]; split <;> omega
theorem ctC_le (L : List ByteArray) (h : L.length ≤ 4096) : ∀ i, ctC L i ≤ i * 4096
  | 0 => Nat.zero_le _
  | i + 1 => by
    have h1 := ctC_le L h i
    have h2 := rwC_le L (L.getD i E0) L.length
    rw [ctC]; omega
theorem l1In_cb (x lo hi : Int) (w : World) (h : ¬ (lo ≤ x ∧ x ≤ hi)) :
    Calls Try.prog 41 #[.int .i64 x, .int .i64 lo, .int .i64 hi] w fun e w' => e = .returned (.bool false) ∧ w = w' := by
  by_cases h1 : x < lo
  · exact l1In_no1 x lo hi w h1
  · exact l1In_no2 x lo hi w (by omega) (by omega)
def cblP (n : Int) : Int := if 0 ≤ n ∧ n ≤ 5 then ((ctC (pathsP n) (pathsP n).length : Nat) : Int) else -1

set_option maxRecDepth 100000 in
set_option maxHeartbeats 3200000 in
theorem countBelow (n : Int) (w : World) : Calls Try.prog 20 #[.int .i64 n] w fun e w' => e = .returned (.int .i64 (cblP n)) ∧ Below w.heap.size w w' := by
  by_cases hn : 0 ≤ n ∧ n ≤ 5
  · have HI := Lib.hid (l1In_yes n 0 5 w hn.1 hn.2)
    have HL := Lib.hid (fun W => pathsOf n W)
    have HP := Lib.hid (show cblP n = ((ctC (pathsP n) (pathsP n).length : Nat) : Int) from if_pos hn)
    have HSZ := Lib.hid (paths_sz n)
    have hlen := paths_len n
    clear hn
    generalize pathsP n = L at *
    obtain ⟨m, hm⟩ : ∃ m, m = L.length := ⟨_, rfl⟩
    have HM := Lib.hid hm
    have HCT := Lib.hid (ctC_le L hlen)
    rw [← hm] at hlen HP
    clear hm
    go_enter Try.func20, Try.ntmps20
    go_wp2_with fail
    (with_reducible refine HI.out.mono ?_)
    rintro e w' ⟨rfl, rfl⟩
    go_wp2_with fail
    (with_reducible refine (HL.out _).mono ?_)
    rintro e w1 ⟨v1, rfl, o1, b1⟩
    obtain ⟨A1, c1, rfl, -⟩ := id o1
    have HO := Lib.hid o1
    have HB1 := Lib.hid b1
    have z1 := b1.size
    clear o1 b1
    rw [← HM.out] at HO
    rw [← HM.out]
    go_wp2
    go_loopw [4, 5] (fun x y wr => ∃ i : Nat, i ≤ m ∧ y = .int .i64 i ∧ x = .int .i64 (ctC L i : Nat) ∧ Below w1.heap.size w1 wr) (fun _ y _ => m - (intOf y).toNat)
    case atStart => exact ⟨0, Nat.zero_le _, rfl, rfl, Below.refl _ _⟩
    case round =>
      obtain ⟨i, hi, rfl, rfl, hb⟩ := hrel
      have HB := Lib.hid hb
      clear hb
      by_cases hlt : i < m
      · have hii : (i : Int) < (m : Int) := by omega
        have hct := HCT.out i
        have HCN := Lib.hid (show ctC L (i + 1) = ctC L i + rwC L (L.getD i E0) m by rw [ctC, ← HM.out])
        obtain ⟨c, hc⟩ : ∃ c, c = ctC L i := ⟨_, rfl⟩
        have HC := Lib.hid hc
        rw [← hc] at hct HCN
        rw [← hc]
        have hc24 : c ≤ 16777216 := by
          have : i * 4096 ≤ 4096 * 4096 := Nat.mul_le_mul (by omega) (Nat.le_refl _)
          omega
        clear hc hct
        go_wp2
        obtain ⟨wo, rfl⟩ : ∃ wo, wo = wr := ⟨_, rfl⟩
        go_loopw [4, 6] (fun x y wr => ∃ k : Nat, k ≤ m ∧ y = .int .i64 k ∧ x = .int .i64 ((c + rwC L (L.getD i E0) k : Nat) : Int) ∧ Below w1.heap.size w1 wr) (fun _ y _ => m - (intOf y).toNat)
        case atStart => exact ⟨0, Nat.zero_le _, rfl, rfl, HB.out⟩
        case round =>
          obtain ⟨k, hk, rfl, rfl, hb2⟩ := hrel
          have HB2 := Lib.hid hb2
          have zB2 := hb2.size
          clear hb2
          have hrl := rwC_le L (L.getD i E0) k
          by_cases hlt2 : k < m
          · have hkk : (k : Int) < (m : Int) := by omega
            obtain ⟨g1, p1, e1, -, -, hc1, -⟩ := (HO.out.keep HB2.out (Nat.le_refl _)).cell (j := i) (by have := HM.out; omega)
            simp only [Value.slice.injEq] at e1
            obtain ⟨rfl, -, rfl⟩ := e1
            obtain ⟨g2, p2, e2, -, -, hc2, -⟩ := (HO.out.keep HB2.out (Nat.le_refl _)).cell (j := k) (by have := HM.out; omega)
            simp only [Value.slice.injEq, Option.some.injEq, Addr.mk.injEq] at e2
            obtain ⟨⟨rfl, -⟩, -, -⟩ := e2
            have HIB := Lib.hid (fun q => isBelow (L.getD i E0) (L.getD k E0) q (by have := HSZ.out i; omega) (by have := HSZ.out k; omega))
            have HRN := Lib.hid (show rwC L (L.getD i E0) (k + 1) = rwC L (L.getD i E0) k + if isbP (L.getD i E0) (L.getD k E0) = true then 1 else 0 from rfl)
            generalize rwC L (L.getD i E0) k = r at *
            generalize L.getD i E0 = X at *
            generalize L.getD k E0 = Y at *
            rcases hb : isbP X Y with _ | _
            · have HR := Lib.hid (show rwC L X (k + 1) = r by rw [HRN.out, hb]; simp)
              rw [hb] at HIB
              clear hb HRN
              go_wp2
              go_region_law (go_simp; go_at_call 23; (with_reducible refine (HIB.out _).mono ?_); rintro e w3 ⟨rfl, hb3⟩; have HB3 := Lib.hid (HB2.out.drew.trans (hb3.mono (show w1.heap.size ≤ wr.drew.heap.size from zB2))); clear hb3)
              all_goals go_wp2
              all_goals exact ⟨⟨k + 1, by omega, by simp, by rw [HR.out]; simp, HB3.out⟩, by simp [intOf]; omega⟩
            · have HR := Lib.hid (show rwC L X (k + 1) = r + 1 by rw [HRN.out, hb]; simp)
              rw [hb] at HIB
              clear hb HRN
              go_wp2
              go_region_law (go_simp; go_at_call 23; (with_reducible refine (HIB.out _).mono ?_); rintro e w3 ⟨rfl, hb3⟩; have HB3 := Lib.hid (HB2.out.drew.trans (hb3.mono (show w1.heap.size ≤ wr.drew.heap.size from zB2))); clear hb3)
              all_goals go_wp2
              all_goals exact ⟨⟨k + 1, by omega, by simp, by rw [HR.out]; simp; omega, HB3.out⟩, by simp [intOf]; omega⟩
          · obtain rfl : k = m := by omega
            go_wp2
            exact ⟨⟨i + 1, by omega, by simp, by rw [HCN.out], HB2.out⟩, by simp [intOf]; omega⟩
      · obtain rfl : i = m := by omega
        go_wp2
        go_ret
        exact ⟨ret_int HP.out.symm, HB1.out.trans (HB.out.mono z1)⟩
  · have HI := Lib.hid (l1In_cb n 0 5 w hn)
    have HP := Lib.hid (show cblP n = -1 from if_neg hn)
    go_enter Try.func20, Try.ntmps20
    go_wp2_with fail
    (with_reducible refine HI.out.mono ?_)
    rintro e w' ⟨rfl, rfl⟩
    go_wp2
    go_ret
    exact ⟨ret_int HP.out.symm, Below.refl _ _⟩

set_option maxRecDepth 100000 in
set_option maxHeartbeats 3200000 in
theorem countBelowI (n : Int) (w : World) : Calls Try.prog 19 #[.int .i64 n] w fun e w' => e = .returned (.int .i64 (cblP n)) ∧ Below w.heap.size w w' := by
  by_cases hn : 0 ≤ n ∧ n ≤ 5
  · have hn0 : ¬ n < 0 := by omega
    have hn5 : ¬ (5 : Int) < n := by omega
    have HL := Lib.hid (fun W => pathsOfI2 n W)
    have HP := Lib.hid (show cblP n = ((ctC (pathsP n) (pathsP n).length : Nat) : Int) from if_pos hn)
    have HSZ := Lib.hid (paths_sz n)
    have hlen := paths_len n
    clear hn
    generalize pathsP n = L at *
    obtain ⟨m, hm⟩ : ∃ m, m = L.length := ⟨_, rfl⟩
    have HM := Lib.hid hm
    have HCT := Lib.hid (ctC_le L hlen)
    rw [← hm] at hlen HP
    clear hm
    go_enter Try.func19, Try.ntmps19
    go_wp2_with fail
    (with_reducible refine (HL.out _).mono ?_)
    rintro e w1 ⟨v1, rfl, o1, b1⟩
    obtain ⟨A1, c1, rfl, -⟩ := id o1
    have HO := Lib.hid o1
    have HB1 := Lib.hid b1
    have z1 := b1.size
    clear o1 b1
    rw [← HM.out] at HO
    rw [← HM.out]
    go_wp2
    go_loopw [3, 17] (fun x y wr => ∃ i : Nat, i ≤ m ∧ y = .int .i64 i ∧ x = .int .i64 (ctC L i : Nat) ∧ Below w1.heap.size w1 wr) (fun _ y _ => m - (intOf y).toNat)
    case atStart => exact ⟨0, Nat.zero_le _, rfl, rfl, Below.refl _ _⟩
    case round =>
      obtain ⟨i, hi, rfl, rfl, hb⟩ := hrel
      have HB := Lib.hid hb
      have zB := hb.size
      clear hb
      by_cases hlt : i < m
      · have hii : (i : Int) < (m : Int) := by omega
        have hct := HCT.out i
        have HCN := Lib.hid (show ctC L (i + 1) = ctC L i + rwC L (L.getD i E0) m by rw [ctC, ← HM.out])
        obtain ⟨c, hc⟩ : ∃ c, c = ctC L i := ⟨_, rfl⟩
        have HC := Lib.hid hc
        rw [← hc] at hct HCN
        rw [← hc]
        have hc24 : c ≤ 16777216 := by
          have : i * 4096 ≤ 4096 * 4096 := Nat.mul_le_mul (by omega) (Nat.le_refl _)
          omega
        clear hc hct
        obtain ⟨g1, p1, e1, -, -, hc1, -⟩ := (HO.out.keep HB.out (Nat.le_refl _)).cell (j := i) (by have := HM.out; omega)
        simp only [Value.slice.injEq] at e1
        obtain ⟨rfl, -, rfl⟩ := e1
        have HXS := Lib.hid (HSZ.out i)
        generalize hX : L.getD i E0 = X at *
        clear hX
        go_wp2_with fail
        (with_reducible refine (HL.out _).mono ?_)
        rintro e w2 ⟨v2, rfl, o2, b2⟩
        obtain ⟨A2, c2, rfl, -⟩ := id o2
        have HO2 := Lib.hid o2
        have HB2 := Lib.hid (HB.out.trans (b2.mono zB))
        have z2 := HB2.out.size
        clear o2 b2
        rw [← HM.out] at HO2
        rw [← HM.out]
        go_wp2
        go_loopw [3, 24] (fun x y wr => ∃ k : Nat, k ≤ m ∧ y = .int .i64 k ∧ x = .int .i64 ((c + rwC L X k : Nat) : Int) ∧ Below w2.heap.size w2 wr) (fun _ y _ => m - (intOf y).toNat)
        case atStart => exact ⟨0, Nat.zero_le _, rfl, rfl, Below.refl _ _⟩
        case round =>
          obtain ⟨k, hk, rfl, rfl, hb3⟩ := hrel
          have HB3 := Lib.hid hb3
          have zB3 := hb3.size
          clear hb3
          have hrl := rwC_le L X k
          by_cases hlt2 : k < m
          · have hkk : (k : Int) < (m : Int) := by omega
            obtain ⟨g2, p2, e2, -, -, hc2, -⟩ := (HO2.out.keep HB3.out (Nat.le_refl _)).cell (j := k) (by have := HM.out; omega)
            simp only [Value.slice.injEq] at e2
            obtain ⟨rfl, -, rfl⟩ := e2
            have HIB := Lib.hid (fun W => isBelowI X (L.getD k E0) W (by have := HXS.out; omega) (by have := HSZ.out k; omega))
            have HRN := Lib.hid (show rwC L X (k + 1) = rwC L X k + if isbP X (L.getD k E0) = true then 1 else 0 from rfl)
            generalize rwC L X k = r at *
            generalize L.getD k E0 = Y at *
            rcases hb : isbP X Y with _ | _
            · have HR := Lib.hid (show rwC L X (k + 1) = r by rw [HRN.out, hb]; simp)
              rw [hb] at HIB
              clear hb HRN
              go_wp2_with fail
              (with_reducible refine (HIB.out _).mono ?_)
              rintro e w3 ⟨rfl, hb4⟩
              go_wp2
              exact ⟨⟨k + 1, by omega, by simp, by rw [HR.out]; simp, HB3.out.trans (hb4.mono zB3)⟩, by simp [intOf]; omega⟩
            · have HR := Lib.hid (show rwC L X (k + 1) = r + 1 by rw [HRN.out, hb]; simp)
              rw [hb] at HIB
              clear hb HRN
              go_wp2_with fail
              (with_reducible refine (HIB.out _).mono ?_)
              rintro e w3 ⟨rfl, hb4⟩
              go_wp2
              exact ⟨⟨k + 1, by omega, by simp, by rw [HR.out]; simp; omega, HB3.out.trans (hb4.mono zB3)⟩, by simp [intOf]; omega⟩
          · obtain rfl : k = m := by omega
            go_wp2
            exact ⟨⟨i + 1, by omega, by simp, by rw [HCN.out], HB2.out.trans (HB3.out.mono z2)⟩, by simp [intOf]; omega⟩
      · obtain rfl : i = m := by omega
        go_wp2
        go_ret
        exact ⟨ret_int HP.out.symm, HB1.out.trans (HB.out.mono z1)⟩
  · have HP := Lib.hid (show cblP n = -1 from if_neg hn)
    by_cases h0 : n < 0
    · clear hn
      go_enter Try.func19, Try.ntmps19
      go_wp2
      go_ret
      exact ⟨ret_int HP.out.symm, Below.refl _ _⟩
    · have h5 : (5 : Int) < n := by omega
      clear hn
      go_enter Try.func19, Try.ntmps19
      go_wp2
      go_ret
      exact ⟨ret_int HP.out.symm, Below.refl _ _⟩

end Go.Proofs.Ytbdnelijfbnfnaa
end

section
namespace Go.Proofs.Ytbdnelijfbnfnaa
open Go.ChangeShapes Go.WideShapes Go.ChangeAt Go.RowKit
open Go.PlainAid (bt bt_nonneg bt_le get_bt)
set_option linter.unusedVariables false

theorem hs_end : ∀ (l : List UInt8) (h : Nat), dyckFrom h l = true → (hsL (h : Int) l).getD l.length 0 = 0 := by
  intro l
  induction l with
  | nil =>
    intro h hd
    rw [df_nil, beq_iff_eq] at hd
    subst hd; rfl
  | cons c l ih =>
    intro h hd
    rcases df_letter hd with ⟨e, h2⟩ | ⟨e, h1, h2⟩
    · rw [hsL_up _ _ _ e]
      have := ih _ h2
      push_cast at this
      exact this
    · rw [hsL_down _ _ _ (by omega)]
      have := ih _ h2
      rw [show ((h - 1 : Nat) : Int) = (h : Int) - 1 by omega] at this
      exact this
theorem hs_last {a : ByteArray} (hd : dyck a = true) : (heightsP a).getD a.size 0 = 0 := by
  rw [heightsP_yes hd]
  have h16 := dyck_size hd
  have h2 := hd
  rw [dyck_short h16] at h2
  have := hs_end _ 0 h2
  rwa [show a.data.toList.length = a.size by simp] at this
theorem hs_step {a : ByteArray} (hd : dyck a = true) {j : Nat} (h : j < a.size) : (heightsP a).getD (j + 1) 0 - (heightsP a).getD j 0 = 1 ∨ (heightsP a).getD (j + 1) 0 - (heightsP a).getD j 0 = -1 := by
  rw [hAt_list hd rfl, hAt_list hd rfl]
  by_cases e : a[j].toNat = 117
  · rw [hAt_up a j h e]; omega
  · rw [hAt_down a j h e]; omega
theorem hs_par {a : ByteArray} (hd : dyck a = true) {j : Nat} (h : j ≤ a.size) : (heightsP a).getD j 0 % 2 = ((j % 2 : Nat) : Int) := by
  rw [hAt_list hd rfl]; exact hAt_par hd j h
theorem hs_zero {a : ByteArray} (hd : dyck a = true) : (heightsP a).getD 0 0 = 0 := by rw [hAt_list hd rfl]; exact hAt_zero a
/-- Heights that go up and down by one are those of a path. -/
theorem poh_of {xs : List Int} {n : Nat} (hl : xs.length = n + 1) (hn : n ≤ 16) (h0 : xs.getD 0 0 = 0) (he : xs.getD n 0 = 0) (hst : ∀ j, j < n → xs.getD (j + 1) 0 - xs.getD j 0 = 1 ∨ xs.getD (j + 1) 0 - xs.getD j 0 = -1) (hnn : ∀ j, j ≤ n → 0 ≤ xs.getD j 0) : heightsP (dirW xs) = xs := by
  obtain ⟨s, hs⟩ : ∃ s, s = dirW xs := ⟨_, rfl⟩
  have hz : s.size = n := by rw [hs, dirW_size]; omega
  have hat : ∀ i (h : i < s.size), s[i] = stepD xs i := by subst hs; intro i h; exact dirW_at xs i h
  rw [← hs]
  have hll : s.data.toList.length = n := by rw [← hz]; simp
  have hsm : ∀ i, i ≤ n → smA (s.data.toList.take i) = xs.getD i 0 ∧ udA (s.data.toList.take i) = true := by
    intro i
    induction i with
    | zero => intro _; exact ⟨h0.symm, rfl⟩
    | succ i ih =>
      intro hi
      obtain ⟨h1, h2⟩ := ih (by omega)
      have hil : i < s.data.toList.length := by omega
      have e : s.data.toList.take (i + 1) = s.data.toList.take i ++ [s.data.toList[i]] := by rw [List.take_append_getElem]
      have e2 : s.data.toList[i] = stepD xs i := by rw [← hat i (by omega)]; rfl
      rw [e, smA_app, udA_app, h1, h2, e2]
      unfold stepD
      rcases hst i (by omega) with h3 | h3
      · rw [if_pos (by omega)]
        refine ⟨?_, rfl⟩
        rw [smA_up _ (by decide)]; simp only [smA]; omega
      · rw [if_neg (by omega)]
        refine ⟨?_, rfl⟩
        rw [smA_down _ (by decide)]; simp only [smA]; omega
  have hd : dyck s = true := by
    rw [dyck_short (by omega)]
    have hf := hsm n (Nat.le_refl _)
    rw [List.take_of_length_le (by omega)] at hf
    refine df_of _ 0 hf.2 (fun i hi => ?_) ?_
    · rw [(hsm i (by omega)).1]; have := hnn i (by omega); omega
    · rw [hf.1]; omega
  have hl2 := hs_len hd
  apply List.ext_getElem (by omega)
  intro j h1 h2
  have key : ∀ k, k ≤ n → (heightsP s).getD k 0 = xs.getD k 0 := by
    intro k
    induction k with
    | zero => intro _; rw [hs_zero hd, h0]
    | succ k ih =>
      intro hk
      have h3 := ih (by omega)
      rw [hAt_list hd rfl] at h3 ⊢
      have h4 : s[k]'(by omega) = stepD xs k := hat k (by omega)
      rcases hst k (by omega) with h5 | h5
      · rw [hAt_up s k (by omega) (by rw [h4]; unfold stepD; rw [if_pos (by omega)]; rfl)]; omega
      · rw [hAt_down s k (by omega) (by rw [h4]; unfold stepD; rw [if_neg (by omega)]; decide)]; omega
  have := key j (by omega)
  rwa [List.getD_eq_getElem?_getD, List.getElem?_eq_getElem h1, List.getD_eq_getElem?_getD, List.getElem?_eq_getElem h2] at this
theorem thr_both {a b : ByteArray} (h : fitB a b = true) {f : Int → Int → Int} (hf : f = min ∨ f = max) : thrOk f a b = true ∧ dyck (thrP f a b) = true ∧ (thrP f a b).size = a.size ∧ ∀ i, i ≤ a.size → (heightsP (thrP f a b)).getD i 0 = f ((heightsP a).getD i 0) ((heightsP b).getD i 0) := by
  obtain ⟨ha, hb, hs⟩ := fit_yes h
  have h16 := dyck_size ha
  obtain ⟨e1, e2⟩ := thr_yes (f := f) h
  obtain ⟨xs, hx⟩ : ∃ xs, xs = hh f (heightsP a) (heightsP b) (a.size + 1) := ⟨_, rfl⟩
  have hl : xs.length = a.size + 1 := by rw [hx, hh_len]
  have hat : ∀ i, i ≤ a.size → xs.getD i 0 = f ((heightsP a).getD i 0) ((heightsP b).getD i 0) := fun i hi => by rw [hx]; exact hh_at _ _ _ _ _ (by omega)
  have hp := poh_of hl h16 (by
      rw [hat 0 (Nat.zero_le _), hs_zero ha, hs_zero hb]
      rcases hf with rfl | rfl <;> rfl) (by
      rw [hat _ (Nat.le_refl _), hs_last ha]
      have := hs_last hb
      rw [← hs] at this
      rw [this]
      rcases hf with rfl | rfl <;> rfl) (fun j hj => by
      rw [hat j (by omega), hat (j + 1) (by omega)]
      have s1 := hs_step ha hj
      have s2 := hs_step hb (show j < b.size by omega)
      have p1 := hs_par ha (show j ≤ a.size by omega)
      have p2 := hs_par hb (show j ≤ b.size by omega)
      rcases hf with rfl | rfl <;> omega) (fun j hj => by
      rw [hat j hj]
      have n1 := (hs_fit ha j (by omega)).1
      have n2 := (hs_fit hb j (by omega)).1
      rcases hf with rfl | rfl <;> omega)
  have hg := poh_eq (xs := xs) (by omega) hp
  obtain ⟨y1, y2⟩ := poh_yes hg.1
  obtain ⟨z1, z2⟩ := poh_hs y1
  rw [← hx] at e1 e2
  rw [e1, e2]
  have hsz : (pohP xs).size = a.size := by
    have := hs_len z2
    rw [z1, hl] at this; omega
  exact ⟨y1, z2, hsz, fun i hi => by rw [z1]; exact hat i hi⟩
theorem thr_fit (a b : ByteArray) : thrOk min a b = fitB a b ∧ thrOk max a b = fitB a b := by
  rcases h : fitB a b with _ | _
  · exact ⟨(thr_no h).2, (thr_no h).2⟩
  · exact ⟨(thr_both h (.inl rfl)).1, (thr_both h (.inr rfl)).1⟩
theorem tm_even {w : ByteArray} (hd : dyck w = true) : ∀ j, j ≤ w.size + 1 → tmL (heightsP w) j % 2 = 0
  | 0, _ => rfl
  | j + 1, h => by
    have h1 := tm_even hd j (by omega)
    have h2 := hs_par hd (show j ≤ w.size by omega)
    rw [tmL]; omega
theorem tm_sum {a b m v : List Int} {n : Nat} (h1 : ∀ j, j < n → m.getD j 0 = min (a.getD j 0) (b.getD j 0)) (h2 : ∀ j, j < n → v.getD j 0 = max (a.getD j 0) (b.getD j 0)) : ∀ j, j ≤ n → tmL m j + tmL v j = tmL a j + tmL b j ∧ dsL a b j = tmL v j - tmL m j
  | 0, _ => ⟨rfl, rfl⟩
  | j + 1, h => by
    obtain ⟨e1, e2⟩ := tm_sum h1 h2 j (by omega)
    have a1 := h1 j (by omega)
    have a2 := h2 j (by omega)
    rw [tmL, tmL, tmL, tmL, dsL]
    omega
/-- What the law says of two paths of one size. -/
theorem heights_all {a b : ByteArray} (h : fitB a b = true) : isbP (thrP min a b) a = true ∧ isbP (thrP min a b) b = true ∧ isbP a (thrP max a b) = true ∧ isbP b (thrP max a b) = true ∧ rnkP (thrP min a b) + rnkP (thrP max a b) = rnkP a + rnkP b ∧ dstP a b = rnkP (thrP max a b) - rnkP (thrP min a b) ∧ isbP a b = decide (thrP min a b = a) := by
  obtain ⟨ha, hb, hs⟩ := fit_yes h
  obtain ⟨m1, m2, m3, m4⟩ := thr_both h (.inl rfl)
  obtain ⟨v1, v2, v3, v4⟩ := thr_both h (.inr rfl)
  have hlow := isb_low h
  rw [m1, Bool.true_and] at hlow
  generalize thrP min a b = m at *
  generalize thrP max a b = v at *
  have bl : ∀ {x y : ByteArray}, dyck x = true → dyck y = true → x.size = a.size → y.size = a.size → (∀ i, i ≤ a.size → (heightsP x).getD i 0 ≤ (heightsP y).getD i 0) → isbP x y = true := by
    intro x y hx hy sx sy hle
    rw [isb_yes (fit_of hx hy (by omega)), blw_iff]
    intro i hi
    exact hle i (by omega)
  refine ⟨bl m2 ha m3 rfl fun i hi => ?_, bl m2 hb m3 hs.symm fun i hi => ?_, bl ha v2 rfl v3 fun i hi => ?_, bl hb v2 hs.symm v3 fun i hi => ?_, ?_, ?_, hlow⟩
  · rw [m4 i hi]; omega
  · rw [m4 i hi]; omega
  · rw [v4 i hi]; omega
  · rw [v4 i hi]; omega
  · obtain ⟨e1, -⟩ := tm_sum (a := heightsP a) (b := heightsP b) (m := heightsP m) (v := heightsP v) (n := a.size + 1) (fun j hj => m4 j (by omega)) (fun j hj => v4 j (by omega)) (a.size + 1) (Nat.le_refl _)
    have p1 := tm_even m2 (m.size + 1) (Nat.le_refl _)
    have p2 := tm_even v2 (v.size + 1) (Nat.le_refl _)
    have p3 := tm_even ha (a.size + 1) (Nat.le_refl _)
    have p4 := tm_even hb (b.size + 1) (Nat.le_refl _)
    rw [rnk_yes m2, rnk_yes v2, rnk_yes ha, rnk_yes hb]
    rw [m3, v3, ← hs] at *
    omega
  · obtain ⟨-, e2⟩ := tm_sum (a := heightsP a) (b := heightsP b) (m := heightsP m) (v := heightsP v) (n := a.size + 1) (fun j hj => m4 j (by omega)) (fun j hj => v4 j (by omega)) (a.size + 1) (Nat.le_refl _)
    have p1 := tm_even m2 (m.size + 1) (Nat.le_refl _)
    have p2 := tm_even v2 (v.size + 1) (Nat.le_refl _)
    rw [dst_yes h, rnk_yes m2, rnk_yes v2]
    rw [m3] at *
    rw [v3] at *
    omega
/- Covers, path by path. -/
def okCov (l : List UInt8) : Bool := (covP ⟨l.toArray⟩).all fun c => isbP ⟨l.toArray⟩ c && decide (rnkP c = rnkP ⟨l.toArray⟩ + 1) && decide (dstP ⟨l.toArray⟩ c = 1) && decide (c.size ≤ 16)
theorem cov0 : (List.range 12).all (fun n => (enumP 0 n).all okCov) = true := by decide +kernel
theorem cov6 : (enumP 0 12).all okCov = true := by decide +kernel
theorem cov8 : okCov [117, 117, 117, 117, 117, 117, 117, 117, 100, 100, 100, 100, 100, 100, 100, 100] = true := by decide +kernel
theorem cb_all : ∀ n : Nat, n < 6 → cblP (n : Int) = catP (n : Int) * catP ((n : Int) + 2) - catP ((n : Int) + 1) * catP ((n : Int) + 1) := by decide +kernel

end Go.Proofs.Ytbdnelijfbnfnaa
end

section
namespace Go.Proofs.Ytbdnelijfbnfnaa
open Go.ChangeShapes Go.WideShapes Go.ChangeAt Go.RowKit
set_option linter.unusedVariables false

def S20 (s : ByteArray) : Prop := s.size ≤ 20
def Draws2S (w : World) (e : Ending) (w' : World) : Prop := ∃ a b : ByteArray, S20 a ∧ S20 b ∧ e = .returned (.tuple #[.string a, .string b]) ∧ Below w.heap.size w w'
theorem thr_size (f : Int → Int → Int) (hf : f = min ∨ f = max) {a b : ByteArray} (ha : a.size ≤ 20) : (thrP f a b).size ≤ 20 := by
  rcases h : fitB a b with _ | _
  · rw [(thr_no h).1]; exact Nat.zero_le _
  · rw [(thr_both h hf).2.2.1]; exact ha

set_option maxRecDepth 100000 in
set_option maxHeartbeats 1600000 in
theorem pair18 (A : Option Addr) (n cap : Nat) (w : World) (hc : Code w w.heap.size A n) : Calls Try.prog 25 #[.slice A n cap] w (Draws2S w) := by
  have HC := Lib.hid hc
  clear hc
  go_enter Try.func25, Try.ntmps25
  go_wp2_with fail
  (with_reducible refine (new_any A n cap _ HC.out).mono ?_)
  rintro e w1 ⟨B, hB, rfl, hcur, hb⟩
  have HU := Lib.hid hcur
  have HB := Lib.hid hb
  have HC1 := Lib.hid (HC.out.keep hb.block)
  have hBlt := hcur.lt
  clear hcur hb
  go_wp2_with fail
  (with_reducible refine (below_any B w.heap.size A n cap 7 _ HC1.out hB HU.out (by omega) (by omega)).mono ?_)
  rintro e w2 ⟨y, hy, rfl, hcur, hg⟩
  have HU2 := Lib.hid hcur
  have HB2 := Lib.hid (below_of_grown HB.out hg hB)
  have HC2 := Lib.hid (HC1.out.keep (fun b hb => hg.block b (by omega) (by simp; omega)))
  have hzz2 := hg.size
  clear hcur hg
  obtain ⟨y0, y1⟩ := hy
  obtain ⟨m, rfl⟩ : ∃ m : Nat, y = m := ⟨y.toNat, by omega⟩
  go_wp2_with fail
  (with_reducible refine (draw_any B w.heap.size A n cap m _ HC2.out hB HU2.out (by omega)).mono ?_)
  rintro e w3 ⟨a, ha, rfl, hcur, hg⟩
  have HU3 := Lib.hid hcur
  have HB3 := Lib.hid (below_of_grown HB2.out hg hB)
  have HC3 := Lib.hid (HC2.out.keep (fun b hb => hg.block b (by omega) (by simp; omega)))
  have hzz3 := hg.size
  clear hcur hg
  have ha20 : a.size ≤ 20 := by omega
  clear ha
  go_wp2_with fail
  (with_reducible refine (below_any B w.heap.size A n cap 8 _ HC3.out hB HU3.out (by omega) (by omega)).mono ?_)
  rintro e w4 ⟨q, hq, rfl, hcur, hg⟩
  have HU4 := Lib.hid hcur
  have HB4 := Lib.hid (below_of_grown HB3.out hg hB)
  have HC4 := Lib.hid (HC3.out.keep (fun b hb => hg.block b (by omega) (by simp; omega)))
  have hzz4 := hg.size
  clear hcur hg
  obtain ⟨q0, q1⟩ := hq
  by_cases e0 : q = 0
  · have f0 : (q == 0) = true := by simp [e0]
    clear e0
    go_wp2_with fail
    (with_reducible refine (any_any B w.heap.size A n cap _ HC4.out hB HU4.out).mono ?_)
    rintro e w5 ⟨s, hs, rfl, hcur, hg⟩
    have hs20 : s.size ≤ 20 := by have := hs.size; omega
    have HB5 := Lib.hid (below_of_grown HB4.out hg hB)
    clear hs hcur hg
    go_wp2
    go_ret2
    exact ⟨a, s, ha20, hs20, rfl, HB5.out⟩
  · have f0 : (q == 0) = false := by simp [e0]
    by_cases e1 : q = 1
    · have f1 : (q == 1) = true := by simp [e1]
      clear e0 e1
      go_wp2
      go_ret2
      exact ⟨a, a, ha20, ha20, rfl, HB4.out⟩
    · have f1 : (q == 1) = false := by simp [e1]
      clear e0 e1
      go_wp2_with fail
      (with_reducible refine (draw_any B w.heap.size A n cap m _ HC4.out hB HU4.out (by omega)).mono ?_)
      rintro e w5 ⟨b, hb, rfl, hcur, hg⟩
      have hb20 : b.size ≤ 20 := by omega
      have HU5 := Lib.hid hcur
      have HB5 := Lib.hid (below_of_grown HB4.out hg hB)
      have HC5 := Lib.hid (HC4.out.keep (fun b hb => hg.block b (by omega) (by simp; omega)))
      have hzz5 := hg.size
      clear hb hcur hg
      go_wp2_with fail
      (with_reducible refine (once_any B w.heap.size A n cap 3 _ HC5.out hB HU5.out (by omega) (by omega)).mono ?_)
      rintro e w6 ⟨o, rfl, hcur, hg⟩
      have HB6 := Lib.hid (below_of_grown HB5.out hg hB)
      have hz6 := hg.size
      clear hcur hg
      rcases o with _ | _
      · go_wp2
        go_ret2
        exact ⟨a, b, ha20, hb20, rfl, HB6.out⟩
      · have HUP := Lib.hid (fun W => specUpperPath a b W (by omega) (by omega))
        have hts := thr_size max (.inr rfl) (a := a) (b := b) ha20
        generalize thrP max a b = t at *
        generalize thrOk max a b = ok at *
        go_wp2_with fail
        (with_reducible refine (HUP.out _).mono ?_)
        rintro e w7 ⟨rfl, hb⟩
        have HB7 := Lib.hid (HB6.out.trans (hb.mono HB6.out.size))
        clear hb
        go_wp2
        go_ret2
        exact ⟨a, t, ha20, hts, rfl, HB7.out⟩

set_option maxRecDepth 100000 in
set_option maxHeartbeats 1600000 in
theorem drawLowerPath (A : Option Addr) (n cap : Nat) (w : World) (hc : Code w w.heap.size A n) : Calls Try.prog 5 #[.slice A n cap] w (Draws2S w) := by
  have HC := Lib.hid (pair18 A n cap w hc)
  clear hc
  go_enter Try.func5, Try.ntmps5
  go_wp2_with fail
  (with_reducible refine HC.out.mono ?_)
  rintro e w1 ⟨a, b, ha, hb2, rfl, hb⟩
  have HB := Lib.hid hb
  clear hb
  go_wp2
  go_ret2
  exact ⟨a, b, ha, hb2, rfl, HB.out⟩

set_option maxRecDepth 100000 in
set_option maxHeartbeats 1600000 in
theorem drawIsBelow (A : Option Addr) (n cap : Nat) (w : World) (hc : Code w w.heap.size A n) : Calls Try.prog 22 #[.slice A n cap] w (Draws2S w) := by
  have HC := Lib.hid (pair18 A n cap w hc)
  clear hc
  go_enter Try.func22, Try.ntmps22
  go_wp2_with fail
  (with_reducible refine HC.out.mono ?_)
  rintro e w1 ⟨a, b, ha, hb2, rfl, hb⟩
  have HB := Lib.hid hb
  clear hb
  go_wp2
  go_ret2
  exact ⟨a, b, ha, hb2, rfl, HB.out⟩

def DrawsW18 (w : World) (e : Ending) (w' : World) : Prop := ∃ s : ByteArray, Word s ∧ e = .returned (.string s) ∧ Below w.heap.size w w'
def DrawsN18 (lo hi : Int) (w : World) (e : Ending) (w' : World) : Prop := ∃ y : Int, lo ≤ y ∧ y ≤ hi ∧ e = .returned (.int .i64 y) ∧ Below w.heap.size w w'

set_option maxRecDepth 100000 in
set_option maxHeartbeats 1600000 in
theorem drawCoversOf (A : Option Addr) (n cap : Nat) (w : World) (hc : Code w w.heap.size A n) : Calls Try.prog 14 #[.slice A n cap] w (DrawsW18 w) := by
  have HC := Lib.hid hc
  clear hc
  go_enter Try.func14, Try.ntmps14
  go_wp2_with fail
  (with_reducible refine (new_any A n cap _ HC.out).mono ?_)
  rintro e w1 ⟨B, hB, rfl, hcur, hb⟩
  have HU := Lib.hid hcur
  have HB := Lib.hid hb
  have HC1 := Lib.hid (HC.out.keep hb.block)
  have hBlt := hcur.lt
  clear hcur hb
  go_wp2_with fail
  (with_reducible refine (any_any B w.heap.size A n cap _ HC1.out hB HU.out).mono ?_)
  rintro e w2 ⟨s, hs, rfl, hcur, hg⟩
  have HG := Lib.hid (below_of_grown HB.out hg hB)
  have HS := Lib.hid hs
  clear hs hcur hg
  go_wp2
  go_ret
  exact ⟨s, HS.out, rfl, HG.out⟩

set_option maxRecDepth 100000 in
set_option maxHeartbeats 1600000 in
theorem drawCountBelow (A : Option Addr) (n cap : Nat) (w : World) (hc : Code w w.heap.size A n) : Calls Try.prog 18 #[.slice A n cap] w (DrawsN18 (-1) 5 w) := by
  have HC := Lib.hid hc
  clear hc
  go_enter Try.func18, Try.ntmps18
  go_wp2_with fail
  (with_reducible refine (new_any A n cap _ HC.out).mono ?_)
  rintro e w1 ⟨B, hB, rfl, hcur, hb⟩
  have HU := Lib.hid hcur
  have HB := Lib.hid hb
  have HC1 := Lib.hid (HC.out.keep hb.block)
  have hBlt := hcur.lt
  clear hcur hb
  go_wp2_with fail
  (with_reducible refine (below_any B w.heap.size A n cap 7 _ HC1.out hB HU.out (by omega) (by omega)).mono ?_)
  rintro e w2 ⟨y, hy, rfl, hcur, hg⟩
  have HG := Lib.hid (below_of_grown HB.out hg hB)
  clear hcur hg
  obtain ⟨y0, y1⟩ := hy
  go_wp2
  go_ret
  exact ⟨y - 1, by omega, by omega, rfl, HG.out⟩

end Go.Proofs.Ytbdnelijfbnfnaa
end

section
namespace Go.Proofs.Ytbdnelijfbnfnaa
open Go.ChangeShapes Go.WideShapes Go.ChangeAt Go.RowKit
set_option linter.unusedVariables false

set_option maxRecDepth 100000 in
set_option maxHeartbeats 1600000 in
theorem sameS (v u : Value) (lo hi lo' hi' : Nat) (xs : List ByteArray) (w : World) (hv : OwnS w lo hi v xs) (hu : OwnS w lo' hi' u xs) (hl : xs.length ≤ 1099511627776) :
    Calls Try.prog 16 #[v, u] w fun e w' => e = .returned (.bool true) ∧ Below w.heap.size w w' := by
  obtain ⟨A1, c1, rfl, k1⟩ := id hv
  obtain ⟨A2, c2, rfl, k2⟩ := id hu
  clear k1 k2
  have HV := Lib.hid hv
  have HU := Lib.hid hu
  clear hv hu
  go_enter Try.func16, Try.ntmps16
  go_wp2
  go_loopw [5] (fun x wr => ∃ (j k : Nat), j ≤ xs.length ∧ x = .int .i64 j ∧ wr = w.drewN k) (fun x _ => xs.length - (intOf x).toNat)
  case atStart => exact ⟨0, 0, Nat.zero_le _, rfl, rfl⟩
  case round =>
    obtain ⟨j, k, hj, rfl, rfl⟩ := hrel
    by_cases hlt : j < xs.length
    · obtain ⟨g1, p1, e1, -, -, hc1, -⟩ := HV.out.cell hlt
      obtain ⟨g2, p2, e2, -, -, hc2, -⟩ := HU.out.cell hlt
      simp only [Value.slice.injEq] at e1 e2
      obtain ⟨rfl, -, -⟩ := e1
      obtain ⟨rfl, -, -⟩ := e2
      have hji : (j : Int) < (xs.length : Int) := by omega
      generalize xs.getD j E0 = z at hc1 hc2
      have hy : (z.toList == z.toList) = true := by simp
      have hy2 : (z.toList != z.toList) = false := by simp
      go_wp2
      go_quiet (fail)
      go_wp2
      exact ⟨⟨j + 1, k + nq, by omega, by simp, rfl⟩, by simp [intOf]; omega⟩
    · go_wp2
      go_ret
      exact ⟨rfl, below_drewN (Below.refl _ _) k⟩

end Go.Proofs.Ytbdnelijfbnfnaa
end

section
namespace Go.Proofs.Ytbdnelijfbnfnaa
open Go.RowKit
set_option linter.unusedVariables false

end Go.Proofs.Ytbdnelijfbnfnaa
end

section
namespace Go.Proofs.Ytbdnelijfbnfnaa
open Go.RowKit
set_option linter.unusedVariables false

/-- k copies of a word. -/
def repW (L : List UInt8) (k : Nat) : ByteArray := ⟨(Lib.repeatL L k).toArray⟩

set_option maxHeartbeats 1600000 in
set_option maxRecDepth 1000000 in
theorem repZz_two (c : Nat) (w : World) (hc2 : 2 ≤ c) (hc : c ≤ 8) :
    Calls Try.prog 34 #[.string ⟨#[117, 100]⟩, .int .i64 c] w fun e w' => e = .returned (.string ⟨(Lib.repeatL [117, 100] c).toArray⟩) ∧ Below w.heap.size w w' := by
  have hMul := Try.bits_Mul 2 c (by omega) (by omega) w
  rw [Nat.div_eq_of_lt (by omega : 2 * c < 18446744073709551616), Nat.mod_eq_of_lt (by omega : 2 * c < 18446744073709551616)] at hMul
  obtain ⟨n, hn⟩ : ∃ n, n = 2 * c := ⟨_, rfl⟩
  rw [← hn] at hMul
  have hn2 : 2 ≤ n := by omega
  have hn16 : n ≤ 16 := by omega
  have hcn : c ≤ n := by omega
  have HN := Lib.hid hn
  clear hn
  have e0 : ((c : Int) == 0) = false := beq_eq_false_iff_ne.2 (by omega)
  have e1 : ((c : Int) == 1) = false := beq_eq_false_iff_ne.2 (by omega)
  have t32 : ((((⟨#[117, 100]⟩ : ByteArray)[0]'(by decide)).toNat : Int) == 32) = false := by decide
  have t45 : ((((⟨#[117, 100]⟩ : ByteArray)[0]'(by decide)).toNat : Int) == 45) = false := by decide
  have t48 : ((((⟨#[117, 100]⟩ : ByteArray)[0]'(by decide)).toNat : Int) == 48) = false := by decide
  have t61 : ((((⟨#[117, 100]⟩ : ByteArray)[0]'(by decide)).toNat : Int) == 61) = false := by decide
  have t9 : ((((⟨#[117, 100]⟩ : ByteArray)[0]'(by decide)).toNat : Int) == 9) = false := by decide
  have HM := Lib.hid hMul
  clear hMul
  go_enter Try.func34, Try.ntmps34
  go_wp2_with (go_at_call 50; refine HM.out.mono ?_; rintro e w' ⟨rfl, hw⟩; rw [hw])
  have b0 : Below w.heap.size w (w.alloc (.cells #[.pointer none, .slice none 0 0] 64)) := (Below.refl _ w).alloc (Nat.le_refl _) _
  refine (Try.Builder_Grow_fresh w.heap.size w.heap.size n (w.alloc (.cells #[.pointer none, .slice none 0 0] 64)) (Nat.le_refl _) (heap_alloc_new w _) b0.size (by omega)).mono ?_
  rintro e W1 ⟨rfl, h1, b1⟩
  go_wp2_with fail
  refine (writeString w.heap.size w.heap.size [] ⟨#[117, 100]⟩ W1 (Lib.IsBuilderF.of (Or.inr h1)) (by decide) (Nat.le_trans b0.size b1.size)).mono ?_
  rintro e W2 ⟨rfl, h2, b2, -⟩
  have H2 := Lib.hid (show Lib.IsBuilderF 64 5 w.heap.size w.heap.size (Lib.byteCells (Lib.repeatL [117, 100] 1)) W2 by
    rw [List.nil_append, Lib.strCells_eq] at h2
    rw [Lib.repeatL_one]
    exact Or.inr h2)
  have HB := Lib.hid (show Below w.heap.size w W2 from b0.trans (b1.trans b2))
  clear h1 h2 b0 b1 b2
  go_wp2_with fail
  go_loopg [] (c - 1) (fun g wx => ∃ q : Nat, 1 ≤ q ∧ q + g = c ∧ Lib.IsBuilderF 64 5 w.heap.size w.heap.size (Lib.byteCells (Lib.repeatL [117, 100] q)) wx ∧ Below w.heap.size w wx)
  case atStart => exact ⟨1, Nat.le_refl _, by omega, H2.out, HB.out⟩
  case round =>
    obtain ⟨q, hq1, hqg, hB, hbx⟩ := hrel
    obtain ⟨m, hm⟩ : ∃ m, m = 2 * q := ⟨_, rfl⟩
    have hlq : (Lib.byteCells (Lib.repeatL [117, 100] q)).length = m := by rw [Lib.byteCells_length, Lib.repeatL_length]; simp; omega
    have cLen := Try.Builder_Len_f w.heap.size w.heap.size _ wr hB
    rw [hlq] at cLen
    have HLEN := Lib.hid cLen
    have HLQ := Lib.hid hlq
    obtain ⟨S, hS⟩ : ∃ S : ByteArray, (⟨(Lib.repeatL [117, 100] q).toArray⟩ : ByteArray) = S := ⟨_, rfl⟩
    have hSd : S.data.toList = Lib.repeatL [117, 100] q := by rw [← hS]
    have hSz : S.size = m := by rw [Lib.size_eq, hSd, Lib.repeatL_length]; simp; omega
    have cStr := Try.Builder_String_any_f w.heap.size w.heap.size (Lib.repeatL [117, 100] q) wr hB hbx.size
    rw [hS] at cStr
    have HSTR := Lib.hid cStr
    have HS := Lib.hid hS
    have HSD := Lib.hid hSd
    have HBX := Lib.hid hbx
    have hszx := hbx.size
    have hNN := HN.out
    have hmn : m ≤ n := by omega
    have hSm : m ≤ S.size := by omega
    have hSm2 : S.size ≤ m := by omega
    have HMQ := Lib.hid hm
    clear hS hSd cStr cLen hlq hB hbx hSz
    rcases Nat.eq_zero_or_pos gk with hg0 | hg0
    · obtain rfl : q = c := by omega
      obtain rfl : m = n := by omega
      have hqq : decide ((m : Int) < (m : Int)) = false := by simp
      clear hg0 hqg hNN hm
      go_wp2_with (first
        | (go_at_call 54; refine HLEN.out.mono ?_; rintro e w' ⟨rfl, hw⟩; rw [hw])
        | (go_at_call 55; refine HSTR.out.mono ?_; rintro e W3 ⟨rfl, h3, b3⟩))
      go_ret
      exact ⟨rep_str HS.out.symm, HBX.out.trans b3⟩
    · obtain ⟨k, hk1, hkq, hkc, hmin⟩ := Lib.chunk_ok c q c 2 hq1 (by omega) (by omega)
      have hqc : (m : Int) < (n : Int) := by omega
      obtain ⟨j, hj⟩ : ∃ j, j = k * 2 := ⟨_, rfl⟩
      have hmin3 : ∀ (ts : Array TypeId) (t : TypeId) (W : World), (Builtin.min_ ts t #[.int .i64 ((n : Int) - (m : Int)), .int .i64 (m : Int), .int .i64 (n : Int)]).run Try.prog W = .ok (.int .i64 (j : Int)) W := fun ts t W => by
        rw [run_min_int3]
        congr 2
        have : min (min (c * 2 - q * 2) (q * 2)) (c * 2) = k * 2 := hmin
        omega
      have hkS : (j : Int) ≤ (S.size : Int) := by omega
      have hjm : j ≤ m := by omega
      have HJ := Lib.hid hj
      clear hmin hNN hm hj
      go_wp2_with (first
        | (go_at_call 54; refine HLEN.out.mono ?_; rintro e w' ⟨rfl, hw⟩; rw [hw])
        | (go_at_call 55; refine HSTR.out.mono ?_; rintro e W3 ⟨rfl, h3, b3⟩))
      refine (writeString w.heap.size w.heap.size _ (S.extract 0 j) W3 h3 (by rw [HLQ.out, ByteArray.size_extract]; omega) (Nat.le_trans hszx b3.size)).mono ?_
      rintro e W4 ⟨rfl, h4, b4, -⟩
      have H4 := Lib.hid (show Lib.BuilderAtF 64 5 w.heap.size w.heap.size (.pointer (some ⟨w.heap.size, 0, none⟩)) (Lib.byteCells (Lib.repeatL [117, 100] (q + k))) W4 by
        have hst := Lib.step_ok [117, 100] q k hkq
        simp only [List.length_cons, List.length_nil, Nat.zero_add, Nat.reduceAdd] at hst
        rw [Lib.strCells_eq, ← Lib.byteCells_append, Lib.extract_data, HSD.out] at h4
        simp only [List.drop_zero, Nat.sub_zero] at h4
        rw [show j = k * 2 from HJ.out] at h4
        first | rw [hst] at h4 | (rw [Nat.mul_one, hst] at h4)
        exact h4)
      have HB4 := Lib.hid (b3.trans b4)
      clear h3 h4 b3 b4
      go_wp2_with fail
      go_roundg (c - (q + k))
      case measure => omega
      case rel => exact ⟨q + k, by omega, by omega, Or.inr H4.out, HBX.out.trans HB4.out⟩
theorem repZz (c : Nat) (w : World) (hc : c ≤ 8) : Calls Try.prog 34 #[.string ⟨#[117, 100]⟩, .int .i64 c] w fun e w' => e = .returned (.string (repW [117, 100] c)) ∧ Below w.heap.size w w' := by
  by_cases h0 : c = 0
  · subst h0; exact (repeat_zero _ w).mono fun _ _ h => ⟨h.1, h.2 ▸ Below.refl _ _⟩
  by_cases h1 : c = 1
  · subst h1; exact (repeat_one _ w).mono fun _ _ h => ⟨h.1, h.2 ▸ Below.refl _ _⟩
  exact repZz_two c w (by omega) hc

end Go.Proofs.Ytbdnelijfbnfnaa
end
