/- Rows of strings that the call owns: appending, reading, and the contracts of markText, eqStringS, markStringS, heldStringS. -/
import Derived.Test.YtgeppabpkbepdaaInts
import Derived.Laws.BytesArg
import Derived.Deep.AppendLies
import Derived.Deep.RegionLaw
import Derived.BigRegion
namespace Go.Proofs.Ytgeppabpkbepdaa
open Go.ChangeShapes Go.WideShapes Go.ChangeAt Go.RowKit
set_option linter.unusedVariables false

theorem info9 : (Try.prog.info? 9).map (fun i => (i.zero, i.size, i.bytes)) = some (some (.string ⟨#[]⟩), 1, 16) := by kernel_rfl
/-- One string appended to a row of strings that the call owns. -/
theorem wpAppStr {w : World} {ops : Array Oper} {rest : List Oper} {o : Oper} {a : Act} {Q : Exit → Act → World → Prop} (hgd : o.guard = none) (s x : Operand)
    (ho : o.op = .call { callee := .builtin .append, args := #[s, x], argTypes := #[24, 24] })
    (base : Nat) (v : Value) (n : Nat) (xs : List ByteArray) (hs : a.eval s = v) (hown : w.ownsRow base 9 1 v n (xs.map Value.string))
    (b : Nat) (c : Nat) (y : ByteArray) (hx : a.eval x = .slice (some ⟨b, 0, none⟩) 1 c) (hcell : w.cell? ⟨b, 0, none⟩ = some (.string y))
    (hn : n ≤ 1099511627776) (hbase : base ≤ w.heap.size)
    (h : ∀ v' w', w'.ownsRow base 9 1 v' (n + 1) ((xs ++ [y]).map Value.string) → w.grownBy w' v.ownBlock → wpList Try.prog ops Q rest (a.put o.dst v') w') : wpList Try.prog ops Q (o :: rest) a w := by
  obtain ⟨i0, hi, hz0, hz1, hz2⟩ := info_parts info9
  refine wpList_append_own _ hgd s x 24 ho base 9 i0 (.string ⟨#[]⟩) 1 16 Try.underlying24 hi hz0 hz1 hz2 rfl (by decide) v n _ hs hown ⟨b, 0, none⟩ 1 c [.string y] hx rfl ?_ ?_ (by unfold maxLen; omega) (by omega) hbase ?_
  · intro j u hj
    match j, hj with
    | 0, hj => simp at hj; subst hj; simpa [Addr.add] using hcell
  · intro u hu; simp at hu; subst hu; rfl
  · intro v' w' h1 h2 _
    exact h v' w' (by simpa using h1) h2

def E0 : ByteArray := ⟨#[]⟩
/-- v is a slice of the strings xs, as OwnI is of ints. -/
def OwnS (w : World) (lo hi : Nat) (v : Value) (xs : List ByteArray) : Prop :=
  ∃ A cap, v = .slice A xs.length cap ∧ (xs = [] ∨ ∃ g C, lo ≤ g ∧ g < hi ∧ A = some ⟨g, 0, none⟩ ∧ w.heap[g]? = some (.cells C 9 (0, 0)) ∧ ∀ j, j < xs.length → C[j]? = some (.string (xs.getD j E0)))
theorem OwnS.of_row {w : World} {base : Nat} {v : Value} {n : Nat} {xs : List ByteArray} (h : w.ownsRow base 9 1 v n (xs.map Value.string)) : OwnS w base w.heap.size v xs := by
  have hl : xs.length = n := by have := h.1; simpa using this
  rcases h.2 with ⟨rfl, rfl⟩ | ⟨g, cap, cur, rfl, hb, hh, hnc, hcm, hcur, htake⟩
  · exact ⟨none, 0, by rw [hl], .inl (List.eq_nil_of_length_eq_zero hl)⟩
  · refine ⟨some ⟨g, 0, none⟩, cap, by rw [hl], .inr ⟨g, cur, hb, (h.lt g rfl).2, rfl, hh, fun j hj => ?_⟩⟩
    have e : cur.toList[j]? = (cur.toList.take (n * 1))[j]? := by rw [List.getElem?_take, if_pos (by omega)]
    rw [← Array.getElem?_toList, e, htake, List.getElem?_map]
    simp [List.getD, show j < xs.length from hj]
theorem OwnS.keep {w w' : World} {lo hi B : Nat} {v : Value} {xs : List ByteArray} (h : OwnS w lo hi v xs) (hb : Below B w w') (hB : hi ≤ B) : OwnS w' lo hi v xs := by
  obtain ⟨A, cap, e, h⟩ := h
  refine ⟨A, cap, e, ?_⟩
  rcases h with h | ⟨g, C, h1, h2, h3, h4, h5⟩
  · exact .inl h
  · exact .inr ⟨g, C, h1, h2, h3, (hb.block g (by omega)).trans h4, h5⟩
theorem OwnS.wide {w : World} {lo hi lo' hi' : Nat} {v : Value} {xs : List ByteArray} (h : OwnS w lo hi v xs) (h1 : lo' ≤ lo) (h2 : hi ≤ hi') : OwnS w lo' hi' v xs := by
  obtain ⟨A, cap, e, h⟩ := h
  refine ⟨A, cap, e, ?_⟩
  rcases h with h | ⟨g, C, a1, a2, a3, a4, a5⟩
  · exact .inl h
  · exact .inr ⟨g, C, by omega, by omega, a3, a4, a5⟩
theorem OwnS.cell {w : World} {lo hi : Nat} {v : Value} {xs : List ByteArray} (h : OwnS w lo hi v xs) {j : Nat} (hj : j < xs.length) :
    ∃ g cap, v = .slice (some ⟨g, 0, none⟩) xs.length cap ∧ lo ≤ g ∧ g < hi ∧ w.cell? ⟨g, j, none⟩ = some (.string (xs.getD j E0)) ∧ w.frozen? ⟨g, j, none⟩ = false := by
  obtain ⟨A, cap, rfl, h⟩ := h
  rcases h with rfl | ⟨g, C, h1, h2, rfl, h4, h5⟩
  · simp at hj
  · refine ⟨g, cap, rfl, h1, h2, ?_, by simp [World.frozen?, h4]⟩
    rw [cell_of_row w g j C 9 (0, 0) h4]
    exact h5 j hj
theorem OwnS.set {w : World} {lo hi g cap : Nat} {n : Nat} {xs ys : List ByteArray} (h : OwnS w lo hi (.slice (some ⟨g, 0, none⟩) n cap) xs) {j : Nat} {y : ByteArray} (hj : j < xs.length)
    (hl : ys.length = xs.length) (hy : ys.getD j E0 = y) (ho : ∀ i, i < xs.length → i ≠ j → ys.getD i E0 = xs.getD i E0) : OwnS (w.setCell ⟨g, j, none⟩ (.string y)) lo hi (.slice (some ⟨g, 0, none⟩) n cap) ys := by
  obtain ⟨A, cap', e, h⟩ := h
  simp only [Value.slice.injEq] at e
  obtain ⟨rfl, rfl, rfl⟩ := e
  refine ⟨_, _, by rw [hl], .inr ?_⟩
  rcases h with rfl | ⟨g', C, h1, h2, h3, h4, h5⟩
  · simp at hj
  · obtain rfl : g = g' := by simpa using h3
    refine ⟨g, C.setIfInBounds j (.string y), h1, h2, rfl, by simp [World.setCell, Array.getElem?_modify, h4], fun i hi => ?_⟩
    rw [hl] at hi
    by_cases e : i = j
    · subst e
      have hC : i < C.size := by
        have := h5 i hi
        rcases Nat.lt_or_ge i C.size with h | h
        · exact h
        · rw [Array.getElem?_eq_none h] at this; cases this
      rw [Array.getElem?_setIfInBounds_self_of_lt hC, hy]
    · rw [Array.getElem?_setIfInBounds_ne (by omega), h5 i hi, ho i hi e]

/-- The decimal digits of a number; none of 0. -/
def dgL (k : Nat) : List UInt8 := if h : k = 0 then [] else dgL (k / 10) ++ [UInt8.ofNat (48 + k % 10)]
termination_by k
decreasing_by omega
theorem dgL_zero : dgL 0 = [] := by rw [dgL]; simp
theorem dgL_step (k : Nat) (h : k ≠ 0) (l : List UInt8) : dgL k ++ l = dgL (k / 10) ++ UInt8.ofNat (48 + k % 10) :: l := by
  rw [dgL, dif_neg h]; simp
theorem dgL_len : ∀ (j k : Nat), k < 10 ^ j → (dgL k).length ≤ j := by
  intro j
  induction j with
  | zero => intro k h; have : k = 0 := by simp at h; omega
            subst this; rw [dgL_zero]; simp
  | succ j ih =>
    intro k h
    by_cases h0 : k = 0
    · subst h0; rw [dgL_zero]; simp
    · rw [dgL, dif_neg h0]
      have := ih (k / 10) (by rw [Nat.pow_succ] at h; omega)
      simp only [List.length_append, List.length_cons, List.length_nil]; omega
/-- What markText answers. -/
def mtS (k : Nat) : ByteArray := ⟨(109 :: dgL k).toArray⟩
theorem convB (w : World) (y : Int) : (convert 56 9 (.slice (some ⟨w.heap.size, 0, none⟩) 1 1)).run Try.prog (w.alloc (.cells #[.int .u8 y] 5)) = .ok (.string (strOfNums [y])) (w.alloc (.cells #[.int .u8 y] 5)) := by
  refine run_convert_bytes_arg _ 56 5 Try.underlying56 Try.underlying5 w.heap.size 0 1 1 [y] rfl (fun i hi => ?_) 9 Try.underlying9
  obtain rfl : i = 0 := by omega
  exact cell_one w _ _
theorem str_dig (r : Nat) (l : List UInt8) : strOfNums [48 + (r : Int)] ++ ⟨l.toArray⟩ = ⟨(UInt8.ofNat (48 + r) :: l).toArray⟩ := by
  unfold strOfNums
  rw [ByteArray.mk_append_mk]
  have : (48 + (r : Int)).toNat = 48 + r := by omega
  simp [this]
theorem ret_s {a b : ByteArray} (h : a = b) : Ending.returned (.string a) = .returned (.string b) := by rw [h]

set_option maxRecDepth 100000 in
set_option maxHeartbeats 800000 in
theorem markText (k : Nat) (w : World) (h0 : 0 < k) (h1 : k ≤ 2199023255552) :
    Calls Try.prog 53 #[.int .i64 k] w fun e w' => e = .returned (.string (mtS k)) ∧ Below w.heap.size w w' := by
  go_enter Try.func53, Try.ntmps53
  go_wp2
  go_loopw [0, 3] (fun x o wr => ∃ (m : Nat) (l : List UInt8), x = .int .i64 m ∧ m ≤ k ∧ o = .string ⟨l.toArray⟩ ∧ dgL m ++ l = dgL k ∧ Below w.heap.size w wr)
    (fun x _ _ => (intOf x).toNat)
  case atStart => exact ⟨k, [], rfl, Nat.le_refl _, rfl, by simp, Below.refl _ _⟩
  case round =>
    obtain ⟨m, l, rfl, hm, rfl, hd, hb⟩ := hrel
    have hl : l.length ≤ 20 := by
      have h2 := dgL_len 20 k (by have e : (10 : Nat) ^ 20 = 100000000000000000000 := by decide
                                  omega)
      rw [← hd] at h2
      simp only [List.length_append] at h2
      omega
    have HD := Lib.hid hd
    clear hd
    by_cases hm0 : m = 0
    · have HM := Lib.hid hm0
      have e2 : ¬ 0 < m := by omega
      clear hm0
      go_wp2
      go_ret
      refine ⟨ret_s ?_, hb⟩
      have h := HD.out
      rw [HM.out, dgL_zero, List.nil_append] at h
      rw [h]
      exact ByteArray.mk_append_mk [109] (dgL k)
    · have hconv := fun y => convB wr y
      have hs1 : ∀ y : Int, (strOfNums [y]).size = 1 := fun y => strOfNums_size [y]
      have HM := Lib.hid hm0
      have e2 : 0 < m := by omega
      clear hm0
      go_wp2
      refine ⟨⟨m / 10, UInt8.ofNat (48 + m % 10) :: l, by simp, by omega, ?_, ?_, hb.alloc hb.size _⟩, by have := HM.out; simp [intOf]; omega⟩
      · rw [← str_dig]; simp
      · rw [← dgL_step m HM.out]; exact HD.out
theorem markText_is (x : Int) (k : Nat) (hx : x = k) (w : World) (h0 : 0 < k) (h1 : k ≤ 2199023255552) :
    Calls Try.prog 53 #[.int .i64 x] w fun e w' => e = .returned (.string (mtS k)) ∧ Below w.heap.size w w' := by subst hx; exact markText k w h0 h1

set_option maxRecDepth 100000 in
set_option maxHeartbeats 800000 in
theorem eqS_same (v u : Value) (lo hi lo' hi' : Nat) (xs : List ByteArray) (w : World) (hv : OwnS w lo hi v xs) (hu : OwnS w lo' hi' u xs) (hl : xs.length ≤ 1099511627776) :
    Calls Try.prog 32 #[v, u] w fun e w' => e = .returned (.bool true) ∧ Below w.heap.size w w' := by
  obtain ⟨A1, c1, rfl, k1⟩ := id hv
  obtain ⟨A2, c2, rfl, k2⟩ := id hu
  clear k1 k2
  have HV := Lib.hid hv
  have HU := Lib.hid hu
  clear hv hu
  go_enter Try.func32, Try.ntmps32
  go_wp2
  go_loopw [5] (fun x wr => ∃ (j k : Nat), j ≤ xs.length ∧ x = .int .i64 j ∧ wr = w.drewN k) (fun x _ => xs.length - (intOf x).toNat)
  case atStart => exact ⟨0, 0, Nat.zero_le _, rfl, rfl⟩
  case round =>
    obtain ⟨j, k, hj, rfl, rfl⟩ := hrel
    by_cases hlt : j < xs.length
    · obtain ⟨g1, p1, e1, -, -, hc1, -⟩ := HV.out.cell hlt
      obtain ⟨g2, p2, e2, -, -, hc2, -⟩ := HU.out.cell hlt
      simp only [Value.slice.injEq] at e1 e2
      obtain ⟨rfl, -, -⟩ := e1
      obtain ⟨rfl, -, -⟩ := e2
      have hji : (j : Int) < (xs.length : Int) := by omega
      generalize xs.getD j E0 = z at hc1 hc2
      go_wp2
      go_quiet (fail)
      go_wp2
      exact ⟨⟨j + 1, k + nq, by omega, by simp, rfl⟩, by simp [intOf]; omega⟩
    · go_wp2
      go_ret
      exact ⟨rfl, below_drewN (Below.refl _ _) k⟩

/-- n marks from k on. -/
def marksS (k : Nat) (n : Nat) : List ByteArray := (List.range n).map fun (i : Nat) => mtS (k + i)
theorem marksS_len (k : Nat) (n : Nat) : (marksS k n).length = n := by simp [marksS]
theorem marksS_at (k n j : Nat) (h : j < n) : (marksS k n).getD j E0 = mtS (k + j) := by simp [marksS, List.getD, h]
def mkS (k : Nat) (j : Nat) (xs : List ByteArray) : List ByteArray := (List.range xs.length).map fun (i : Nat) => if i < j then mtS (k + i) else xs.getD i E0
theorem mkS_len (k : Nat) (j : Nat) (xs : List ByteArray) : (mkS k j xs).length = xs.length := by simp [mkS]
theorem mkS_at (k j i : Nat) (xs : List ByteArray) (h : i < xs.length) : (mkS k j xs).getD i E0 = if i < j then mtS (k + i) else xs.getD i E0 := by simp [mkS, List.getD, h]
theorem mkS_zero (k : Nat) (xs : List ByteArray) : mkS k 0 xs = xs := by
  apply List.ext_getElem
  · rw [mkS_len]
  · intro i h1 h2
    simp [mkS, List.getD, h2]
theorem mkS_all (k : Nat) (xs : List ByteArray) : mkS k xs.length xs = marksS k xs.length := by
  unfold mkS marksS
  refine List.map_congr_left fun i hi => ?_
  rw [if_pos (by simpa using hi)]

set_option maxRecDepth 100000 in
set_option maxHeartbeats 800000 in
theorem markS (v : Value) (lo hi : Nat) (xs : List ByteArray) (k : Nat) (w : World) (hv : OwnS w lo hi v xs) (hhi : hi ≤ w.heap.size) (hlo : lo ≤ w.heap.size) (hl : xs.length ≤ 1099511627776) (hk0 : 0 < k) (hk : k ≤ 1099511627776) :
    Calls Try.prog 40 #[v, .int .i64 k] w fun e w' => e = .returned (.int .i64 ((k : Int) + xs.length)) ∧ OwnS w' lo hi v (marksS k xs.length) ∧ Below lo w w' := by
  obtain ⟨A1, c1, rfl, k1⟩ := id hv
  clear k1
  go_enter Try.func40, Try.ntmps40
  have HV := Lib.hid hv
  clear hv
  go_wp2
  go_loopw [1, 5] (fun x y wr => ∃ j : Nat, j ≤ xs.length ∧ y = .int .i64 j ∧ x = .int .i64 ((k : Int) + j) ∧ OwnS wr lo hi (.slice A1 xs.length c1) (mkS k j xs) ∧ Below lo w wr) (fun _ y _ => xs.length - (intOf y).toNat)
  case atStart => exact ⟨0, Nat.zero_le _, rfl, by simp, by rw [mkS_zero]; exact HV.out, Below.refl _ _⟩
  case round =>
    obtain ⟨j, hj, rfl, rfl, ho, hb⟩ := hrel
    have HO := Lib.hid ho
    have HB := Lib.hid hb
    have hsz := hb.size
    clear ho hb
    by_cases hlt : j < xs.length
    · go_wp2_with fail
      (with_reducible refine (markText_is ((k : Int) + j) (k + j) (by simp) _ (by omega) (by omega)).mono ?_)
      rintro e w1 ⟨rfl, hb1⟩
      have ho1 := HO.out.keep hb1 (by omega)
      have HO1 := Lib.hid ho1
      have HB1 := Lib.hid (HB.out.trans (hb1.mono (by omega)))
      obtain ⟨g1, p1, e1, hg1, -, hc1, hf1⟩ := ho1.cell (j := j) (by rw [mkS_len]; exact hlt)
      clear ho1 hb1
      simp only [Value.slice.injEq] at e1
      obtain ⟨rfl, -, rfl⟩ := e1
      have hji : (j : Int) < (xs.length : Int) := by omega
      go_wp2
      refine ⟨⟨j + 1, by omega, by simp, by congr 1 <;> omega, ?_, HB1.out.setCell hg1 _⟩, by simp [intOf]; omega⟩
      refine HO1.out.set (j := j) (by rw [mkS_len]; exact hlt) (by rw [mkS_len, mkS_len]) ?_ ?_
      · rw [mkS_at _ _ _ _ hlt, if_pos (by omega)]
      · intro i hi hne
        rw [mkS_len] at hi
        rw [mkS_at _ _ _ _ hi, mkS_at _ _ _ _ hi]
        by_cases h : i < j
        · rw [if_pos h, if_pos (by omega)]
        · rw [if_neg h, if_neg (by omega)]
    · obtain rfl : j = xs.length := by omega
      go_wp2
      go_ret
      exact ⟨rfl, by rw [← mkS_all]; exact HO.out, HB.out⟩

set_option maxRecDepth 100000 in
set_option maxHeartbeats 1600000 in
theorem heldS (v : Value) (lo hi : Nat) (n k : Nat) (w : World) (hv : OwnS w lo hi v (marksS k n)) (hhi : hi ≤ w.heap.size) (hl : n ≤ 1099511627776) (hk0 : 0 < k) (hk : k ≤ 1099511627776) :
    Calls Try.prog 42 #[v, .int .i64 k] w fun e w' => e = .returned (.int .i64 ((k : Int) + n)) ∧ Below w.heap.size w w' := by
  obtain ⟨A1, c1, e, k1⟩ := id hv
  clear k1
  rw [marksS_len] at e
  subst e
  have HV := Lib.hid hv
  clear hv
  go_enter Try.func42, Try.ntmps42
  go_wp2
  go_loopw [1, 5] (fun x y wr => ∃ j : Nat, j ≤ n ∧ y = .int .i64 j ∧ x = .int .i64 ((k : Int) + j) ∧ Below w.heap.size w wr) (fun _ y _ => n - (intOf y).toNat)
  case atStart => exact ⟨0, Nat.zero_le _, rfl, by simp, Below.refl _ _⟩
  case round =>
    obtain ⟨j, hj, rfl, rfl, hb⟩ := hrel
    have HB := Lib.hid hb
    have hsz := hb.size
    by_cases hlt : j < n
    · obtain ⟨g1, p1, e1, -, hg1, hc1, -⟩ := (HV.out.keep hb hhi).cell (j := j) (by rw [marksS_len]; exact hlt)
      rw [marksS_at _ _ _ hlt] at hc1
      simp only [Value.slice.injEq] at e1
      obtain ⟨rfl, -, rfl⟩ := e1
      clear hb
      have hji : (j : Int) < (n : Int) := by omega
      have hself : ((mtS (k + j)).toList == (mtS (k + j)).toList) = true := by simp
      have hself2 : ((mtS (k + j)).toList != (mtS (k + j)).toList) = false := by simp
      have hmt : ∀ W : World, Calls Try.prog 53 #[.int .i64 ((k : Int) + j)] W fun e w' => e = .returned (.string (mtS (k + j))) ∧ Below W.heap.size W w' := fun W => markText_is ((k : Int) + j) (k + j) (by simp) W (by omega) (by omega)
      have HMT := Lib.hid hmt
      clear hmt
      generalize mtS (k + j) = z at *
      go_wp2
      go_region_law (go_simp; go_at_call 53; refine (HMT.out _).mono ?_; rintro e w1 ⟨rfl, hb1⟩; have hc1' := (hb1.cell (p := ⟨g1, j, none⟩) (by simp; omega)).trans hc1)
      all_goals go_wp2
      all_goals exact ⟨⟨j + 1, by omega, by simp, by congr 1 <;> omega, HB.out.drew.trans (hb1.mono hsz)⟩, by simp [intOf]; omega⟩
    · obtain rfl : j = n := by omega
      go_wp2
      go_ret
      exact ⟨rfl, HB.out⟩

end Go.Proofs.Ytgeppabpkbepdaa
