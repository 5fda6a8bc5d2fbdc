/- The contract of the program's nextLetters. -/
import Derived.Test.YtknojbcpjjhegaaPlainN
import Derived.Test.YtknojbcpjjhegaaRep
import Derived.Test.YtknojbcpjjhegaaImpl2B
import Derived.Test.YtknojbcpjjhegaaImpl2C
import Derived.Laws.Tables
import Derived.Laws.CopyOwn
import Derived.Lib.BufferWrite
import Derived.Lib.SlBuf
namespace Go.Proofs.Ytknojbcpjjhegaa
open Go.ChangeShapes Go.WideShapes Go.ChangeAt Go.RowKit
set_option linter.unusedVariables false

def cU : List UInt8 → Nat
  | [] => 0
  | c :: l => (if c.toNat = 117 then 1 else 0) + cU l
def cD : List UInt8 → Nat
  | [] => 0
  | c :: l => (if c.toNat = 117 then 0 else 1) + cD l
theorem c_len (l : List UInt8) : cU l + cD l = l.length := by
  induction l with
  | nil => rfl
  | cons c l ih => rw [cU, cD, List.length_cons]; split <;> omega
theorem ends_cnt : ∀ (l : List UInt8) (h u d : Nat), ends h u d l → u = cU l ∧ d = cD l := by
  intro l
  induction l with
  | nil =>
    intro h u d he
    have := he.2.2
    simp only [List.length_nil] at this
    exact ⟨by rw [cU]; omega, by rw [cD]; omega⟩
  | cons c l ih =>
    intro h u d he
    by_cases e : c.toNat = 117
    · obtain ⟨h1, h2⟩ := ends_up he e
      obtain ⟨i1, i2⟩ := ih _ _ _ h2
      rw [cU, cD, if_pos e, if_pos e]; omega
    · obtain ⟨h1, h2, h3⟩ := ends_down he e
      obtain ⟨i1, i2⟩ := ih _ _ _ h3
      rw [cU, cD, if_neg e, if_neg e]; omega
theorem suf_any {s : ByteArray} (hd : dyck s = true) : ∀ j, j ≤ s.size → ∃ h u d, ends h u d (rest s j) := by
  intro j
  induction j with
  | zero => intro _; exact ⟨_, _, _, ends_start hd⟩
  | succ j ih =>
    intro hj
    obtain ⟨h, u, d, he⟩ := ih (by omega)
    rw [rest_cons s j hj] at he
    by_cases e : s[j].toNat = 117
    · exact ⟨_, _, _, (ends_up he e).2⟩
    · exact ⟨_, _, _, (ends_down he e).2.2⟩
theorem suf_ends {s : ByteArray} (hd : dyck s = true) (j : Nat) (hj : j ≤ s.size) : ∃ h, ends h (cU (rest s j)) (cD (rest s j)) (rest s j) := by
  obtain ⟨h, u, d, he⟩ := suf_any hd j hj
  obtain ⟨e1, e2⟩ := ends_cnt _ _ _ _ he
  rw [e1, e2] at he
  exact ⟨h, he⟩
theorem c_start {s : ByteArray} (hd : dyck s = true) : cU (rest s 0) = s.size / 2 ∧ cD (rest s 0) = s.size / 2 := by
  obtain ⟨e1, e2⟩ := ends_cnt _ _ _ _ (ends_start hd)
  exact ⟨e1.symm, e2.symm⟩
theorem cD_mono (s : ByteArray) : ∀ j, cD (rest s j) ≤ cD (rest s 0) := by
  intro j
  induction j with
  | zero => exact Nat.le_refl _
  | succ j ih =>
    by_cases h : j < s.size
    · rw [rest_cons s j h, cD] at ih; omega
    · rw [rest_end s (j + 1) (by omega)]; exact Nat.zero_le _
theorem byte_eq {a : UInt8} {n : Nat} (h : a.toNat = n) (hn : n < 256) : a = UInt8.ofNat n := by
  apply UInt8.toNat_inj.1
  rw [h]
  simp
  omega
/-- The next word behind the whole of s, out of that behind a suffix. -/
theorem nx_lift {s : ByteArray} {i : Nat} {x : List UInt8} (hd : dyck s = true) (hi : i ≤ s.size) (hx : nxL (rest s i) (cU (rest s i)) (cD (rest s i)) = some x) :
    ∀ k, k ≤ i → nxL (rest s (i - k)) (cU (rest s (i - k))) (cD (rest s (i - k))) = some ((rest s (i - k)).take k ++ x) := by
  intro k
  induction k with
  | zero => intro _; simpa using hx
  | succ k ih =>
    intro hk
    have h1 := ih (by omega)
    obtain ⟨j, hj⟩ : ∃ j, j = i - (k + 1) := ⟨_, rfl⟩
    rw [← hj]
    rw [show i - k = j + 1 by omega] at h1
    have hl := dyck_letter hd j (by omega)
    rw [rest_cons s j (by omega), List.take_succ_cons]
    rcases hl with e | e
    · rw [nxL_up _ _ _ _ e, cU, cD, if_pos e, if_pos e, show 1 + cU (rest s (j + 1)) - 1 = cU (rest s (j + 1)) by omega, Nat.zero_add, h1, byte_eq e (by omega)]; rfl
    · have e' : s[j].toNat ≠ 117 := by omega
      rw [nxL_down _ _ _ _ e', cU, cD, if_neg e', if_neg e', show 1 + cD (rest s (j + 1)) - 1 = cD (rest s (j + 1)) by omega, Nat.zero_add, h1, byte_eq e (by omega)]; rfl
/-- What nextLetters answers: the next word, or the word itself. -/
def nxS (s : ByteArray) : List UInt8 := (nxL (rest s 0) (cU (rest s 0)) (cD (rest s 0))).getD (rest s 0)

def lrow (l : List UInt8) (q : Nat) : Int := ((l.getD q 0).toNat : Int)
def cells16 (l : List UInt8) : Array Value := ((List.range 16).map fun q => Value.int .u8 (lrow l q)).toArray
theorem cells16_size (l : List UInt8) : (cells16 l).size = 16 := by simp [cells16]
theorem cells16_get (l : List UInt8) (q : Nat) (h : q < 16) : (cells16 l)[q]? = some (.int .u8 (lrow l q)) := by simp [cells16, h]
theorem cells16_one (l : List UInt8) : (cells16 l).all (·.oneCell') = true := Array.all_eq_true_iff_forall_mem.2 (fun v hv => by
  simp only [cells16, List.mem_toArray, List.mem_map] at hv
  obtain ⟨q, -, rfl⟩ := hv
  rfl)
theorem cells16_eq {C : Array Value} {l : List UInt8} (h : C.size = 16) (hc : ∀ q, q < 16 → C[q]? = some (.int .u8 (lrow l q))) : C = cells16 l := by
  apply Array.ext (by rw [h, cells16_size])
  intro i hi hi'
  have e1 := hc i (by omega)
  have e2 := cells16_get l i (by omega)
  rw [Array.getElem?_eq_getElem hi] at e1
  rw [Array.getElem?_eq_getElem hi'] at e2
  rw [← e2] at e1
  exact Option.some.inj e1
/-- Block g holds the letters l, the places behind them 0. -/
def TabL (w : World) (g : Nat) (l : List UInt8) : Prop := w.heap[g]? = some (.cells (cells16 l) 160 (0, 0))
theorem sizeL : (Try.prog.info? 160).map (·.size) = some 16 := by kernel_rfl
theorem TabL.cell {w : World} {g : Nat} {l : List UInt8} (h : TabL w g l) {q : Nat} (hq : q < 16) : w.cell? ⟨g, q, none⟩ = some (.int .u8 (lrow l q)) ∧ w.frozen? ⟨g, q, none⟩ = false := by
  refine ⟨?_, by unfold TabL at h; simp [World.frozen?, h]⟩
  rw [cell_of_row w g q _ _ (0, 0) h]
  exact cells16_get l q hq

/-- The row when place j has become d and the rest has been copied behind it. -/
theorem next_row {s : ByteArray} {j : Nat} {R : List UInt8} (hj : j < s.size) (h16 : s.size ≤ 16) (hR : j + 1 + R.length = s.size) :
    ((((cells16 s.data.toList).setIfInBounds j (.int .u8 100)).toList.take (j + 1) ++ Lib.byteCells R ++ ((cells16 s.data.toList).setIfInBounds j (.int .u8 100)).toList.drop (j + 1 + R.length)).toArray) = cells16 (s.data.toList.take j ++ (100 :: R)) := by
  have hS : s.data.toList.length = s.size := by simp
  have hc := cells16_size s.data.toList
  apply cells16_eq
  · simp [Lib.byteCells_length, hc]; omega
  · intro q hq
    have hget : ∀ q, q < 16 → ((cells16 s.data.toList).setIfInBounds j (.int .u8 100)).toList[q]? = some (.int .u8 (if q = j then 100 else lrow s.data.toList q)) := by
      intro q hq
      rw [Array.getElem?_toList]
      by_cases e : q = j
      · subst e
        rw [Array.getElem?_setIfInBounds_self_of_lt (by omega), if_pos rfl]
      · rw [Array.getElem?_setIfInBounds_ne (by omega), cells16_get _ _ hq, if_neg e]
    rw [List.getElem?_toArray]
    have hl1 : (((cells16 s.data.toList).setIfInBounds j (.int .u8 100)).toList.take (j + 1)).length = j + 1 := by simp [hc]; omega
    have hlb := Lib.byteCells_length R
    by_cases h1 : q < j + 1
    · rw [List.append_assoc, List.getElem?_append_left (by omega), List.getElem?_take, if_pos h1, hget q hq]
      congr 2
      unfold lrow
      by_cases e : q = j
      · subst e
        rw [if_pos rfl, List.getD_eq_getElem?_getD, List.getElem?_append_right (by simp; omega)]
        simp [show min q s.size = q by omega]
      · rw [if_neg e, List.getD_eq_getElem?_getD, List.getD_eq_getElem?_getD, List.getElem?_append_left (by simp; omega), List.getElem?_take, if_pos (by omega)]
    · by_cases h2 : q < j + 1 + R.length
      · rw [List.append_assoc, List.getElem?_append_right (by omega), hl1, List.getElem?_append_left (by omega)]
        unfold Lib.byteCells lrow
        rw [List.getElem?_map, List.getD_eq_getElem?_getD, List.getElem?_append_right (by simp; omega)]
        rw [show (s.data.toList.take j).length = j by simp; omega, show q - j = (q - (j + 1)) + 1 by omega, List.getElem?_cons_succ, List.getElem?_eq_getElem (by omega)]
        rfl
      · rw [List.append_assoc, List.getElem?_append_right (by omega), hl1, List.getElem?_append_right (by omega), List.getElem?_drop, hlb]
        rw [show j + 1 + R.length + (q - (j + 1) - R.length) = q by omega, hget q hq, if_neg (by omega)]
        congr 2
        unfold lrow
        rw [List.getD_eq_getElem?_getD, List.getD_eq_getElem?_getD, List.getElem?_eq_none (by omega), List.getElem?_eq_none (by simp; omega)]

theorem zeroL (w : World) : (zeroValue 160).run Try.prog w = .ok (.agg (cells16 [])) w := by kernel_rfl

set_option maxRecDepth 100000 in
set_option maxHeartbeats 3200000 in
theorem nextLetters (s : ByteArray) (w : World) (hd : dyck s = true) : Calls Try.prog 136 #[.agg (cells16 s.data.toList), .int .i64 s.size] w fun e w' => e = .returned (.agg (cells16 (nxS s))) ∧ Below w.heap.size w w' := by
  have h16 := dyck_size hd
  have hz := zeroL
  have HD := Lib.hid hd
  clear hd
  generalize hcs : cells16 s.data.toList = cs
  generalize hzz : cells16 [] = zz at hz
  have HCS := Lib.hid hcs
  have HZZ := Lib.hid hzz
  clear hcs hzz
  go_enter Try.func136, Try.ntmps136
  go_wp2
  have HG := Lib.hid (show ((w.alloc (.cells cs 160)).alloc (.cells zz 160)).heap[w.heap.size]? = some (.cells cs 160 (0, 0)) from heap_alloc2_old w _ _)
  have HR := Lib.hid (show ((w.alloc (.cells cs 160)).alloc (.cells zz 160)).heap[w.heap.size + 1]? = some (.cells zz 160 (0, 0)) from heap_alloc2_new w _ _)
  have HB := Lib.hid (((Below.refl w.heap.size w).alloc (Nat.le_refl _) (.cells cs 160)).alloc (by simp) (.cells zz 160))
  have hz2 : ((w.alloc (.cells cs 160)).alloc (.cells zz 160)).heap.size = w.heap.size + 2 := by simp
  have HZ2 := Lib.hid hz2
  clear hz2 hz
  generalize (w.alloc (.cells cs 160)).alloc (.cells zz 160) = W0 at *
  have HZS := Lib.hid (show zz.size = 16 by rw [← HZZ.out]; exact cells16_size _)
  go_loop [5, 6, 7] (fun x y z => ∃ (i : Nat) (a : Int), a + 1 = i ∧ i ≤ s.size ∧ z = .int .i64 a ∧ x = .int .i64 (cU (rest s i)) ∧ y = .int .i64 (cD (rest s i)) ∧ nxL (rest s i) (cU (rest s i)) (cD (rest s i)) = none) (fun _ _ z => (intOf z + 1).toNat)
  case atStart => exact ⟨s.size, (s.size : Int) - 1, by omega, Nat.le_refl _, rfl, by rw [rest_end s _ (Nat.le_refl _)]; rfl, by rw [rest_end s _ (Nat.le_refl _)]; rfl, by rw [rest_end s _ (Nat.le_refl _)]; rfl⟩
  case round =>
    obtain ⟨i, a, ha, hi, rfl, rfl, rfl, hn⟩ := hrel
    have HN := Lib.hid hn
    have hcl := c_len (rest s i)
    have hrl : (rest s i).length = s.size - i := by unfold rest; simp
    have HRL := Lib.hid hrl
    have hu8 : cU (rest s i) ≤ 16 := by omega
    have hd8 : cD (rest s i) ≤ 16 := by omega
    clear hn hrl hcl
    by_cases h0 : i = 0
    · have hneg : ¬ (0 : Int) ≤ a := by omega
      have HX := Lib.hid (show nxS s = s.data.toList by unfold nxS; rw [h0] at HN; rw [HN.out]; rfl)
      clear h0
      go_wp2_with (first
        | (refine wpList_load_row rfl _ _ rfl w.heap.size rfl 160 cs (0, 0) _ HG.out Try.underlying160 rfl (by rw [← HCS.out, cells16_size]; exact sizeL) ?_)
        | (refine wpList_store_row rfl _ _ _ rfl (w.heap.size + 1) cs rfl rfl 160 zz HR.out (by rw [← HCS.out, cells16_size]; exact sizeL) (by rw [HZS.out, ← HCS.out, cells16_size]) (by rw [← HCS.out]; exact cells16_one _) ?_))
      refine bodyPost_ret (v := .agg cs) (results_cell_row Try.results136 _ _ (w.heap.size + 1) 160 cs (0, 0) _ rfl (setRow_heap _ _ zz _ _ (0, 0) HR.out) Try.underlying160 rfl (by rw [← HCS.out, cells16_size]; exact sizeL)) rfl ⟨by rw [HX.out, HCS.out], below_setRow HB.out (by omega) _⟩
    · obtain ⟨j, rfl⟩ : ∃ j, i = j + 1 := ⟨i - 1, by omega⟩
      obtain rfl : a = (j : Int) := by omega
      clear ha
      have hjs : j < s.size := by omega
      have hl := dyck_letter HD.out j hjs
      have hcell : W0.cell? ⟨w.heap.size, j, none⟩ = some (.int .u8 (s[j].toNat : Int)) := by
        rw [cell_of_row W0 w.heap.size j cs _ (0, 0) HG.out, ← HCS.out, cells16_get _ _ (by omega)]
        unfold lrow
        rw [List.getD_eq_getElem?_getD, List.getElem?_eq_getElem (by simpa using hjs), Option.getD_some, at_list s j hjs]
      have hf : W0.frozen? ⟨w.heap.size, j, none⟩ = false := by simp [World.frozen?, HG.out]
      have HC := Lib.hid (rest_cons s j hjs)
      have hj16 : (j : Int) < 16 := by omega
      rcases hl with e1 | e1
      · have HU := Lib.hid (show cU (rest s j) = cU (rest s (j + 1)) + 1 by rw [HC.out, cU, if_pos e1]; omega)
        have HDD := Lib.hid (show cD (rest s j) = cD (rest s (j + 1)) by rw [HC.out, cD, if_pos e1]; omega)
        have HE := Lib.hid (show nxL (rest s j) (cU (rest s j)) (cD (rest s j)) = if cU (rest s j) < cD (rest s j) then some (100 :: frL (cU (rest s j)) (cD (rest s j) - 1)) else none by
          conv => lhs; rw [HC.out]
          rw [nxL_up _ _ _ _ e1, ← HC.out, HU.out, Nat.add_sub_cancel, HDD.out, HN.out])
        rw [e1] at hcell
        have HE1 := Lib.hid e1
        clear e1
        by_cases hlt : cU (rest s (j + 1)) + 1 < cD (rest s (j + 1))
        · have hlti : (cU (rest s (j + 1)) : Int) + 1 < (cD (rest s (j + 1)) : Int) := by omega
          have hU8 : cU (rest s (j + 1)) + 1 ≤ 8 := by
            have := c_start HD.out
            obtain ⟨h, he⟩ := suf_ends HD.out j (by omega)
            have h1 := he.2.1
            have h2 := he.2.2
            have h3 : (rest s j).length = s.size - j := by unfold rest; simp
            have h4 := HU.out
            omega
          have hD8 : cD (rest s (j + 1)) - 1 ≤ 8 := by
            obtain ⟨h, u, d, he⟩ := suf_any HD.out 0 (by omega)
            have := c_start HD.out
            have hmono : cD (rest s (j + 1)) ≤ cD (rest s 0) := cD_mono s (j + 1)
            omega
          have hRl : j + 1 + (cU (rest s (j + 1)) + 1 + (cD (rest s (j + 1)) - 1)) = s.size := by
            have h1 := c_len (rest s (j + 1))
            have h2 := HRL.out
            omega
          have HX := Lib.hid (show nxS s = s.data.toList.take j ++ (100 :: frL (cU (rest s (j + 1)) + 1) (cD (rest s (j + 1)) - 1)) by
            have h1 := nx_lift HD.out (by omega) (show nxL (rest s j) (cU (rest s j)) (cD (rest s j)) = some _ by rw [HE.out, HU.out, HDD.out, if_pos hlt]) j (Nat.le_refl _)
            rw [Nat.sub_self] at h1
            unfold nxS
            rw [h1]; rfl)
          have hdm : (cD (rest s (j + 1)) : Int) - 1 = ((cD (rest s (j + 1)) - 1 : Nat) : Int) := by omega
          have HNR := Lib.hid (next_row (s := s) (j := j) (R := frL (cU (rest s (j + 1)) + 1) (cD (rest s (j + 1)) - 1)) hjs h16 (by rw [frL_len]; exact hRl))
          have HFL := Lib.hid (frL_len (cU (rest s (j + 1)) + 1) (cD (rest s (j + 1)) - 1))
          have HFR := Lib.hid (show (repS 117 (cU (rest s (j + 1)) + 1) ++ repS 100 (cD (rest s (j + 1)) - 1)).data.toList = frL (cU (rest s (j + 1)) + 1) (cD (rest s (j + 1)) - 1) by
            unfold repS frL
            simp)
          have HL1 := Lib.hid (show (repS 117 (cU (rest s (j + 1)) + 1)).size ≤ 8 by unfold repS; rw [Lib.size_eq]; simp [Lib.repeatL_length]; omega)
          have HL2 := Lib.hid (show (repS 100 (cD (rest s (j + 1)) - 1)).size ≤ 8 by unfold repS; rw [Lib.size_eq]; simp [Lib.repeatL_length]; omega)
          generalize hUU : cU (rest s (j + 1)) = U at *
          generalize hDD2 : cD (rest s (j + 1)) = D at *
          clear hUU hDD2
          go_wp2_with fail
          refine (repU (U + 1) _ hU8).mono ?_
          rintro e w1 ⟨rfl, hb1⟩
          have HB1 := Lib.hid hb1
          have hw2 : IntKind.i64.wrap ((D : Int) - 1) = ((D - 1 : Nat) : Int) := by rw [hdm]; exact IntWalk.i64_in _ (by omega)
          clear hb1
          go_wp2_with fail
          refine (repD (D - 1) _ hD8).mono ?_
          rintro e w2 ⟨rfl, hb2⟩
          have HB2 := Lib.hid hb2
          clear hb2
          have hlen12 : ((repS 117 (U + 1)).size + (repS 100 (D - 1)).size) = U + 1 + (D - 1) := by
            have h1 := HFL.out
            rw [← HFR.out] at h1
            simpa using h1
          generalize repS 117 (U + 1) = R1 at *
          generalize repS 100 (D - 1) = R2 at *
          have hR12 := HL1.out
          have hR22 := HL2.out
          have hsum : ¬ 9223372036854775807 < R1.size + R2.size := by omega
          have HRS := Lib.hid (show (R1 ++ R2).size = U + 1 + (D - 1) by rw [ByteArray.size_append]; exact hlen12)
          have HRL2 := Lib.hid hRl
          have hg1 : (W0.setCell ⟨w.heap.size, j, none⟩ (.int .u8 100)).heap[w.heap.size]? = some (.cells (cs.setIfInBounds j (.int .u8 100)) 160 (0, 0)) := by
            simp [World.setCell, Array.getElem?_modify, HG.out]
          have hr1 : (W0.setCell ⟨w.heap.size, j, none⟩ (.int .u8 100)).heap[w.heap.size + 1]? = some (.cells zz 160 (0, 0)) := by
            simp [World.setCell, Array.getElem?_modify, HR.out]
          have hz1 : (W0.setCell ⟨w.heap.size, j, none⟩ (.int .u8 100)).heap.size = w.heap.size + 2 := by simp [World.setCell, HZ2.out]
          have HB3 := Lib.hid (HB1.out.trans (HB2.out.mono HB1.out.size))
          have HG2 := Lib.hid ((HB3.out.block w.heap.size (by rw [hz1]; omega)).trans hg1)
          have HR2 := Lib.hid ((HB3.out.block (w.heap.size + 1) (by rw [hz1]; omega)).trans hr1)
          have HB4 := Lib.hid ((HB.out.setCell (p := ⟨w.heap.size, j, none⟩) (Nat.le_refl _) (.int .u8 100)).trans (HB3.out.mono (by rw [hz1]; omega)))
          clear hdm hw2 hRl hg1 hr1 hz1 hlen12 hR12 hR22
          have hj17 : (j : Int) + 1 ≤ 16 := by omega
          have hj18 : (0 : Int) ≤ (j : Int) + 1 := by omega
          have hj19 : ((j : Int) + 1).toNat = j + 1 := by omega
          have hj20 : j + 1 < 16 := by have := HRL2.out; omega
          have hj21 : ¬ (16 = j + 1) := by omega
          have hj22 : ¬ (j + 1 = 16) := by omega
          have hcopy : (Builtin.copy_ #[22, 9] 3 #[.slice (some ⟨w.heap.size, j + 1, none⟩) (15 - j) (15 - j), .string (R1 ++ R2)]).run Try.prog w2 = .ok (goInt (R1 ++ R2).size) (w2.setRow w.heap.size (cells16 (s.data.toList.take j ++ (100 :: frL (U + 1) (D - 1))))) := by
            have h := Lib.run_copy_row_string (P := Try.prog) w2 22 9 3 5 w.heap.size (j + 1) (15 - j) (15 - j) (R1 ++ R2) _ 160 Try.underlying22 (by kernel_rfl) HG2.out (by rw [HRS.out]; have := HRL2.out; omega) (by rw [HRS.out, ← HCS.out]; have := cells16_size s.data.toList; have := HRL2.out; simp; omega)
            rw [h, HFR.out, HRS.out, ← HFL.out, ← HCS.out, HNR.out]
          have HCP := Lib.hid (show nxS s = s.data.toList.take j ++ (100 :: frL (U + 1) (D - 1)) from HX.out)
          have HX1 := Lib.hid (cells16_size (s.data.toList.take j ++ (100 :: frL (U + 1) (D - 1))))
          have HX2 := Lib.hid (cells16_one (s.data.toList.take j ++ (100 :: frL (U + 1) (D - 1))))
          have HX3 := Lib.hid (show cells16 (nxS s) = cells16 (s.data.toList.take j ++ (100 :: frL (U + 1) (D - 1))) by rw [HCP.out])
          generalize cells16 (s.data.toList.take j ++ (100 :: frL (U + 1) (D - 1))) = xs at hcopy HX1 HX2 HX3
          have HL := Lib.hid (setRow_heap w2 w.heap.size _ xs _ _ HG2.out)
          have HO := Lib.hid ((setRow_other w2 w.heap.size (w.heap.size + 1) xs (by omega)).trans HR2.out)
          have HB5 := Lib.hid (below_setRow HB4.out (Nat.le_refl _) xs)
          go_wp2_with (first
            | (refine wpList_load_row rfl _ _ rfl w.heap.size rfl 160 xs (0, 0) _ HL.out Try.underlying160 rfl (by rw [HX1.out]; exact sizeL) ?_)
            | (refine wpList_store_row rfl _ _ _ rfl (w.heap.size + 1) xs rfl rfl 160 zz HO.out (by rw [HX1.out]; exact sizeL) (by rw [HZS.out, HX1.out]) HX2.out ?_))
          refine bodyPost_ret (v := .agg xs) (results_cell_row Try.results136 _ _ (w.heap.size + 1) 160 xs (0, 0) _ rfl (setRow_heap _ _ zz _ _ (0, 0) HO.out) Try.underlying160 rfl (by rw [HX1.out]; exact sizeL)) rfl ⟨by rw [HX3.out], below_setRow HB5.out (by omega) _⟩
        · have HX := Lib.hid (show nxL (rest s j) (cU (rest s j)) (cD (rest s j)) = none by rw [HE.out, HU.out, HDD.out, if_neg hlt])
          have hlti : ¬ ((cU (rest s (j + 1)) : Int) + 1 < (cD (rest s (j + 1)) : Int)) := by omega
          go_wp2
          refine ⟨⟨j, (j : Int) - 1, by omega, by omega, rfl, by rw [HU.out]; simp, by rw [HDD.out], HX.out⟩, by simp [intOf]⟩
      · have e2 : s[j].toNat ≠ 117 := by omega
        have HU := Lib.hid (show cU (rest s j) = cU (rest s (j + 1)) by rw [HC.out, cU, if_neg e2]; omega)
        have HDD := Lib.hid (show cD (rest s j) = cD (rest s (j + 1)) + 1 by rw [HC.out, cD, if_neg e2]; omega)
        have HX := Lib.hid (show nxL (rest s j) (cU (rest s j)) (cD (rest s j)) = none by
          conv => lhs; rw [HC.out]
          rw [nxL_down _ _ _ _ e2, ← HC.out, HDD.out, Nat.add_sub_cancel, HU.out, HN.out])
        rw [e1] at hcell
        clear e1 e2
        go_wp2
        refine ⟨⟨j, (j : Int) - 1, by omega, by omega, rfl, by rw [HU.out], by rw [HDD.out]; simp, HX.out⟩, by simp [intOf]⟩

end Go.Proofs.Ytknojbcpjjhegaa
