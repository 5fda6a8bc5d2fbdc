/- Merged by program out of: Impl18B PlainH Fact11 Beg11 Spec18C Impl18C Impl3A Spec3E Impl3B LawFH. -/
import Derived.Lib.Strings
import Derived.Test.YtbdnelijfbnfnaaShelfB
import Derived.Laws.Rows
import Derived.Laws.Tables
import Derived.Laws.CopyOwn
import Derived.Test.YtbdnelijfbnfnaaKA
import Derived.Test.YtbdnelijfbnfnaaKB
import Derived.Test.YtbdnelijfbnfnaaKC
import Derived.Test.YtbdnelijfbnfnaaKD
section
namespace Go.Proofs.Ytbdnelijfbnfnaa
open Go.ChangeShapes Go.WideShapes Go.ChangeAt Go.RowKit
set_option linter.unusedVariables false

theorem zz_rep : ∀ k, Lib.repeatL [117, 100] k = zzL k
  | 0 => rfl
  | k + 1 => by show [117, 100] ++ Lib.repeatL [117, 100] k = _; rw [zz_rep k]; rfl
theorem zz_repW (k : Nat) : repW [117, 100] k = zzP k := by unfold repW zzP; rw [zz_rep]
set_option maxRecDepth 100000 in
set_option maxHeartbeats 800000 in
theorem rankOfPathI (a : ByteArray) (w : World) (ha : a.size ≤ 1099511627776) : Calls Try.prog 13 #[.string a] w fun e w' => e = .returned (.int .i64 (rnkP a)) ∧ Below w.heap.size w w' := by
  rcases hd : dyck a with _ | _
  · have HP := Lib.hid (rnk_no hd)
    have HD := Lib.hid hd
    clear hd
    go_enter Try.func13, Try.ntmps13
    go_wp2_with fail
    (with_reducible refine (isDyckI_no a _ HD.out).mono ?_)
    rintro e w1 ⟨rfl, hb1⟩
    go_wp2
    go_ret
    exact ⟨ret_int HP.out.symm, hb1⟩
  · have HP := Lib.hid (rank_dst hd)
    have HD := Lib.hid hd
    have h16 := dyck_size hd
    have HE := Lib.hid (dyck_even hd)
    obtain ⟨k, hk⟩ : ∃ k, k = a.size / 2 := ⟨_, rfl⟩
    have hk8 : k ≤ 8 := by omega
    have q1 : (a.size : Int).tdiv 2 = (k : Int) := by rw [Int.tdiv_eq_ediv_of_nonneg (by omega)]; omega
    have q2 : (a.size : Int) / 2 = (k : Int) := by omega
    have HR := Lib.hid (fun W => repZz k W hk8)
    rw [zz_repW] at HR
    have HDB := Lib.hid (fun W => distanceBetweenI a (zzP k) W ha (by rw [zzP_size]; omega))
    rw [← hk] at HP
    clear hd hk
    generalize zzP k = Z at *
    go_enter Try.func13, Try.ntmps13
    go_wp2_with fail
    (with_reducible refine (isDyckI_yes a _ HD.out).mono ?_)
    rintro e w1 ⟨rfl, hb1⟩
    have z1 := hb1.size
    go_wp2_with fail
    (with_reducible refine (HR.out _).mono ?_)
    rintro e w2 ⟨rfl, hb2⟩
    have HB2 := Lib.hid (hb1.trans (hb2.mono z1))
    have z2 := HB2.out.size
    go_wp2_with fail
    (with_reducible refine (HDB.out _).mono ?_)
    rintro e w3 ⟨rfl, hb3⟩
    go_wp2
    go_ret
    exact ⟨ret_int HP.out.symm, HB2.out.trans (hb3.mono z2)⟩

end Go.Proofs.Ytbdnelijfbnfnaa
end

section
namespace Go.Proofs.Ytbdnelijfbnfnaa
open Go.ChangeShapes Go.WideShapes Go.ChangeAt Go.RowKit
set_option linter.unusedVariables false

end Go.Proofs.Ytbdnelijfbnfnaa
end

section
namespace Go.Proofs.Ytbdnelijfbnfnaa
open Go.ChangeShapes Go.WideShapes Go.ChangeAt Go.RowKit
open Go.PlainAid (bt bt_nonneg bt_le get_bt)
set_option linter.unusedVariables false

/-- The part stands at place i of the word. -/
def hpB (part s : ByteArray) (i : Nat) : Bool := Lib.hasPrefix (rest s i) part.data.toList
def begL (part s : ByteArray) : Nat → List Int
  | 0 => []
  | i + 1 => if hpB part s i = true then begL part s i ++ [(i : Int) + 1] else begL part s i
theorem begL_len (part s : ByteArray) (i : Nat) : (begL part s i).length ≤ i := by
  induction i with
  | zero => exact Nat.le_refl _
  | succ i ih => rw [begL]; split; (rw [List.length_append, List.length_singleton]; omega); omega
theorem ext_rest (s : ByteArray) (i : Nat) (h : i ≤ s.size) : (s.extract i s.size).data.toList = rest s i := by
  unfold rest
  rw [ByteArray.data_extract, Array.toList_extract]
  unfold List.extract
  exact List.take_of_length_le (by simp)
theorem pre_cons (a b : UInt8) (l p : List UInt8) : Lib.hasPrefix (b :: l) (a :: p) = ((a == b) && Lib.hasPrefix l p) := by
  unfold Lib.hasPrefix; rfl
theorem pre_nil (l : List UInt8) : Lib.hasPrefix l [] = true := by unfold Lib.hasPrefix; simp
theorem pre_short (a : UInt8) (p : List UInt8) : Lib.hasPrefix [] (a :: p) = false := by unfold Lib.hasPrefix; rfl
theorem hpB_one (c : UInt8) (s : ByteArray) (i : Nat) (hi : i < s.size) : hpB ⟨#[c]⟩ s i = decide (bt s i = (c.toNat : Int)) := by
  unfold hpB
  rw [rest_cons s i hi, show (⟨#[c]⟩ : ByteArray).data.toList = [c] from rfl, pre_cons, pre_nil, Bool.and_true, bt_at s i hi]
  by_cases e : c = s[i]
  · rw [← e]; simp
  · have h2 : ¬ ((s[i].toNat : Int) = (c.toNat : Int)) := fun h => e (UInt8.toNat_inj.1 (by omega))
    rw [decide_eq_false h2]; simpa using e
theorem hpB_two (c d : UInt8) (s : ByteArray) (i : Nat) (hi : i < s.size) : hpB ⟨#[c, d]⟩ s i = (decide (bt s i = (c.toNat : Int)) && (decide (i + 1 < s.size) && decide (bt s (i + 1) = (d.toNat : Int)))) := by
  have h1 := hpB_one c s i hi
  unfold hpB at h1 ⊢
  rw [rest_cons s i hi, show (⟨#[c]⟩ : ByteArray).data.toList = [c] from rfl, pre_cons, pre_nil, Bool.and_true] at h1
  rw [rest_cons s i hi, show (⟨#[c, d]⟩ : ByteArray).data.toList = [c, d] from rfl, pre_cons, h1]
  congr 1
  by_cases h2 : i + 1 < s.size
  · have h3 := hpB_one d s (i + 1) h2
    unfold hpB at h3
    rw [show (⟨#[d]⟩ : ByteArray).data.toList = [d] from rfl] at h3
    rw [h3, decide_eq_true h2, Bool.true_and]
  · rw [rest_end s (i + 1) (by omega), pre_short, decide_eq_false h2, Bool.false_and]

/-- The places of the letters u and d. -/
def plU (s : ByteArray) : Nat → List Int
  | 0 => []
  | i + 1 => if bt s i = 117 then plU s i ++ [(i : Int) + 1] else plU s i
def plD (s : ByteArray) : Nat → List Int
  | 0 => []
  | i + 1 => if bt s i = 117 then plD s i else plD s i ++ [(i : Int) + 1]
theorem plU_len (s : ByteArray) (i : Nat) : (plU s i).length ≤ i := by
  induction i with
  | zero => exact Nat.le_refl _
  | succ i ih => rw [plU]; split; (rw [List.length_append, List.length_singleton]; omega); omega
theorem plD_len (s : ByteArray) (i : Nat) : (plD s i).length ≤ i := by
  induction i with
  | zero => exact Nat.le_refl _
  | succ i ih => rw [plD]; split; omega; (rw [List.length_append, List.length_singleton]; omega)
theorem beg_u (s : ByteArray) : ∀ i, i ≤ s.size → begL ⟨#[117]⟩ s i = plU s i := by
  intro i
  induction i with
  | zero => intro _; rfl
  | succ i ih =>
    intro hi
    rw [begL, plU, ih (by omega), hpB_one 117 s i (by omega)]
    by_cases e : bt s i = 117
    · rw [if_pos e]; exact if_pos (decide_eq_true (show bt s i = ((117 : UInt8).toNat : Int) from e))
    · rw [if_neg e]; exact if_neg (by rw [decide_eq_true_eq]; exact e)
theorem beg_d {s : ByteArray} (hd : dyck s = true) : ∀ i, i ≤ s.size → begL ⟨#[100]⟩ s i = plD s i := by
  intro i
  induction i with
  | zero => intro _; rfl
  | succ i ih =>
    intro hi
    have hb := get_bt s i (by omega)
    have hl := dyck_letter hd i (by omega)
    rw [begL, plD, ih (by omega), hpB_one 100 s i (by omega)]
    by_cases e : bt s i = 117
    · rw [if_pos e, if_neg (by rw [decide_eq_true_eq, e]; decide)]
    · rw [if_neg e, if_pos (decide_eq_true (by show bt s i = 100; omega))]
def tabP (s : ByteArray) : List (List Int) := if dyck s = true then [plU s s.size, plD s s.size] else []
/-- The sum of the places of the valleys before place i + 1. -/
def vaN (s : ByteArray) : Nat → Nat
  | 0 => 0
  | i + 1 => vaN s i + if bt s i = 100 ∧ bt s (i + 1) = 117 then i + 1 else 0
theorem vaN_le (s : ByteArray) (i : Nat) : vaN s i ≤ i * 17 ∨ 16 < i := by
  induction i with
  | zero => exact .inl (Nat.le_refl _)
  | succ i ih =>
    by_cases h : 16 < i + 1
    · exact .inr h
    · left
      rw [vaN]; split <;> omega
def majP (s : ByteArray) : Int := if dyck s = true then (vaN s (s.size - 1) : Int) else -1
/-- The sum of a row. -/
def sumI (l : List Int) : Nat → Int
  | 0 => 0
  | i + 1 => sumI l i + l.getD i 0
theorem sumI_app (l : List Int) (x : Int) : ∀ i, i ≤ l.length → sumI (l ++ [x]) i = sumI l i := by
  intro i
  induction i with
  | zero => intro _; rfl
  | succ i ih =>
    intro hi
    rw [sumI, sumI, ih (by omega)]
    congr 1
    rw [List.getD_eq_getElem?_getD, List.getElem?_append_left (by omega), ← List.getD_eq_getElem?_getD]
theorem sumI_snoc (l : List Int) (x : Int) : sumI (l ++ [x]) (l ++ [x]).length = sumI l l.length + x := by
  rw [List.length_append, List.length_singleton, sumI, sumI_app l x _ (Nat.le_refl _)]
  simp [List.getD]
theorem begL_bd (part s : ByteArray) : ∀ n i, i < (begL part s n).length → 1 ≤ (begL part s n).getD i 0 ∧ (begL part s n).getD i 0 ≤ (n : Int) := by
  intro n
  induction n with
  | zero => intro i h; simp [begL] at h
  | succ n ih =>
    intro i h
    rw [begL] at h ⊢
    split at h
    · rename_i hb
      rw [if_pos hb]
      rw [List.length_append, List.length_singleton] at h
      by_cases e : i < (begL part s n).length
      · rw [List.getD_eq_getElem?_getD, List.getElem?_append_left e, ← List.getD_eq_getElem?_getD]
        have := ih i e; omega
      · obtain rfl : i = (begL part s n).length := by omega
        have : ((begL part s n) ++ [(n : Int) + 1]).getD (begL part s n).length 0 = (n : Int) + 1 := by simp [List.getD]
        rw [this]; omega
    · rename_i hb
      rw [if_neg hb]
      have := ih i h; omega
theorem sum_va (s : ByteArray) : ∀ n, n + 1 ≤ s.size → sumI (begL ⟨#[100, 117]⟩ s n) (begL ⟨#[100, 117]⟩ s n).length = (vaN s n : Int) := by
  intro n
  induction n with
  | zero => intro _; rfl
  | succ n ih =>
    intro hn
    have h := ih (by omega)
    rw [begL, vaN, hpB_two 100 117 s n (by omega), decide_eq_true (show n + 1 < s.size by omega), Bool.true_and]
    by_cases e : bt s n = 100 ∧ bt s (n + 1) = 117
    · rw [if_pos e, if_pos (by rw [decide_eq_true (show bt s n = ((100 : UInt8).toNat : Int) from e.1), decide_eq_true (show bt s (n + 1) = ((117 : UInt8).toNat : Int) from e.2)]; rfl), sumI_snoc, h]
      push_cast; omega
    · rw [if_neg e, if_neg, h, Nat.add_zero]
      intro hh
      rw [Bool.and_eq_true, decide_eq_true_eq, decide_eq_true_eq] at hh
      exact e ⟨hh.1, hh.2⟩
theorem sum_maj {s : ByteArray} (hd : dyck s = true) : sumI (begL ⟨#[100, 117]⟩ s s.size) (begL ⟨#[100, 117]⟩ s s.size).length = majP s := by
  rw [show majP s = (vaN s (s.size - 1) : Int) from if_pos hd]
  rcases Nat.eq_zero_or_pos s.size with h0 | h0
  · rw [h0]; rfl
  · have h := sum_va s (s.size - 1) (by omega)
    obtain ⟨n, hn⟩ : ∃ n, s.size = n + 1 := ⟨s.size - 1, by omega⟩
    rw [hn, Nat.add_sub_cancel] at h ⊢
    rw [← h, begL, hpB_two 100 117 s n (by omega), decide_eq_false (show ¬ n + 1 < s.size by omega), Bool.false_and, Bool.and_false]
    rfl

end Go.Proofs.Ytbdnelijfbnfnaa
end

section
namespace Go.Proofs.Ytbdnelijfbnfnaa
open Go.ChangeShapes Go.WideShapes Go.ChangeAt Go.RowKit
open Go.PlainAid (bt bt_nonneg bt_le get_bt)
set_option linter.unusedVariables false

theorem rowIter {w : World} {base n k : Nat} {v : Value} {xs : List Int} {s : ByteArray} {i j : Nat} (h : w.ownsRow base 3 1 v n (xs.map (Value.int .i64))) (hk : w.heap[k]? = some (.stringIter s i)) : (w.iterAt k s j).ownsRow base 3 1 v n (xs.map (Value.int .i64)) := by
  refine ⟨h.1, ?_⟩
  rcases h.2 with h | ⟨g, cap, cur, rfl, h1, h2, h3⟩
  · exact .inl h
  · exact .inr ⟨g, cap, cur, rfl, h1, (Lib.iterAt_other _ _ _ _ _ (by intro e; rw [e, hk] at h2; simp at h2)).trans h2, h3⟩

set_option maxRecDepth 100000 in
set_option maxHeartbeats 1600000 in
theorem beginningsOfI (part s : ByteArray) (w : World) (hd : dyck s = true) :
    Calls Try.prog 37 #[.string part, .string s] w fun e w' => ∃ v, e = .returned v ∧ w'.ownsRow w.heap.size 3 1 v (begL part s s.size).length ((begL part s s.size).map (Value.int .i64)) ∧ Below w.heap.size w w' := by
  have HD := Lib.hid hd
  have h16 := dyck_size hd
  clear hd
  go_enter Try.func37, Try.ntmps37
  go_wp2
  go_loopw [5] (fun st wr => ∃ i : Nat, i ≤ s.size ∧ AtS wr w.heap.size s i ∧ wr.ownsRow (w.heap.size + 1) 3 1 st (begL part s i).length ((begL part s i).map (Value.int .i64)) ∧ w.heap.size + 1 ≤ wr.heap.size ∧ Below w.heap.size w wr) (fun _ wr => s.size - wr.iterPos w.heap.size)
  case atStart => exact ⟨0, Nat.zero_le _, World.iter_heap w s 0, World.ownsRow_nil _ _ _ _, by simp [World.iter], (Below.refl _ _).alloc (Nat.le_refl _) _⟩
  case round =>
    obtain ⟨i, hi1, hit, hst, hsz, hb⟩ := hrel
    have HIT := Lib.hid hit
    have HST := Lib.hid hst
    have HB := Lib.hid hb
    clear hit hst hb
    by_cases hlt : i < s.size
    · obtain ⟨W, hW⟩ : ∃ W, W = wr.iterAt w.heap.size s (i + 1) := ⟨_, rfl⟩
      have HIT1 := Lib.hid (show AtS W w.heap.size s (i + 1) by rw [hW]; exact HIT.out.move)
      have HST1 := Lib.hid (show W.ownsRow (w.heap.size + 1) 3 1 u5 (begL part s i).length ((begL part s i).map (Value.int .i64)) by rw [hW]; exact rowIter HST.out HIT.out)
      have HB4 := Lib.hid (show Below w.heap.size w W by rw [hW]; exact Lib.below_iterAt HB.out (by omega) _ _)
      have hzW : w.heap.size + 1 ≤ W.heap.size := by rw [hW, Lib.iterAt_size]; exact hsz
      have hl := dyck_letter HD.out i hlt
      obtain ⟨c, hc⟩ : ∃ c, s[i].toNat = c := ⟨_, rfl⟩
      have hnx := next_letter (P := Try.prog) wr _ s i c HIT.out hlt hc (by omega)
      rw [← hW] at hnx
      have hle := begL_len part s i
      have hii : (i : Int) ≤ (s.size : Int) := by omega
      have HBS := Lib.hid (show begL part s (i + 1) = if hpB part s i = true then begL part s i ++ [(i : Int) + 1] else begL part s i from rfl)
      have HCP := Lib.hid (show ∀ w, Calls Try.prog 51 #[.string (s.extract i s.size), .string part] w fun e w' => e = .returned (.bool (hpB part s i)) ∧ w = w' from fun w => by
        have h := Try.strings_HasPrefix (s.extract i s.size) part w
        rw [ext_rest s i (by omega)] at h
        exact h.mono (fun _ _ h => ⟨h.1, h.2.symm⟩))
      have hrw := fun k (e : some k = u5.ownBlock) => (World.ownsRow.lt HST1.out k e.symm).1
      have HRW := Lib.hid hrw
      clear hc hl hW hrw HST
      generalize begL part s i = S at *
      rcases hb : hpB part s i with _ | _
      · rw [hb] at HCP
        have HE := Lib.hid (HBS.out.trans (if_neg (by simp [hb])))
        clear HBS hb
        go_wp2_with fail
        (with_reducible refine (HCP.out _).mono ?_)
        rintro e w' ⟨rfl, rfl⟩
        go_wp2
        go_roundw
        case rel => exact ⟨i + 1, by omega, HIT1.out, by rw [HE.out]; exact HST1.out, hzW, HB4.out⟩
        case measure =>
          rw [HIT.out.pos, HIT1.out.pos]; omega
      · rw [hb] at HCP
        have HE := Lib.hid (HBS.out.trans (if_pos hb))
        clear HBS hb
        go_wp2_with fail
        (with_reducible refine (HCP.out _).mono ?_)
        rintro e w' ⟨rfl, rfl⟩
        go_wp2_with (at_builtin; go_must (refine wpAppInt rfl _ _ rfl (w.heap.size + 1) u5 _ S rfl (World.ownsRow.alloc HST1.out _) W.heap.size _ _ rfl (cell_one _ _ _) (by omega) (by simp; omega) ?_); intro v' w' hown' hg')
        have hz3 := hg'.size
        have HA3 := Lib.hid (show AtS w' w.heap.size s (i + 1) from (HIT1.out.alloc _).grown hg' (fun e => by have := HRW.out _ e.symm; omega))
        go_roundw
        case rel => exact ⟨i + 1, by omega, HA3.out, by rw [HE.out]; simpa using hown', by simp at hz3; omega, (HB4.out.alloc (by omega) _).grown hg' (by simp; omega) (fun k hk => by have := HRW.out k hk.symm; omega)⟩
        case measure =>
          rw [HIT.out.pos, HA3.out.pos]; omega
    · have hnx := fun ty => Lib.run_next_end_at (P := Try.prog) wr _ s i ty HIT.out hlt
      obtain rfl : i = s.size := by omega
      go_wp2
      go_ret
      exact ⟨_, rfl, by
        obtain ⟨h1, h2⟩ := HST.out
        exact ⟨h1, h2.elim .inl fun ⟨g, cap, cur, e, hg, r⟩ => .inr ⟨g, cap, cur, e, by omega, r⟩⟩, HB.out⟩


end Go.Proofs.Ytbdnelijfbnfnaa
end

section
namespace Go.Proofs.Ytbdnelijfbnfnaa
open Go.ChangeShapes Go.WideShapes Go.ChangeAt Go.RowKit
open Go.PlainAid (bt bt_nonneg bt_le get_bt bt_end)
set_option linter.unusedVariables false

/-- A string appended to a row of this call's own, in a region. -/
theorem stepAppS1 {w : World} {ops : Array Oper} {o : Oper} {a : Act} {K : Act → World → Prop} {Q : Exit → Act → World → Prop} {E : Prop} (hgd : o.guard = none) (s x : Operand)
    (ho : o.op = .call { callee := .builtin .append, args := #[s, x], argTypes := #[32, 32] })
    (base : Nat) (v : Value) (n : Nat) (xs : List ByteArray) (hs : a.eval s = v) (hown : w.ownsRow base 9 1 v n (xs.map Value.string))
    (b c : Nat) (y : ByteArray) (hx : a.eval x = .slice (some ⟨b, 0, none⟩) 1 c) (hcell : w.cell? ⟨b, 0, none⟩ = some (.string y))
    (hn : n ≤ 1099511627776) (hbase : base ≤ w.heap.size)
    (h : ∀ v' w', w'.ownsRow base 9 1 v' (n + 1) ((xs ++ [y]).map Value.string) → w.grownBy w' v.ownBlock → K (a.put o.dst v') w') :
    if Region.wanted o (yielded ops a.tmps) = true then Oper.wp Try.prog o a w K Q else E := by
  have hw : Region.wanted o (yielded ops a.tmps) = true := by simp [Region.wanted, hgd]
  rw [if_pos hw]
  obtain ⟨i0, hi, hz0, hz1, hz2⟩ := info_parts info9
  obtain ⟨v', w', hr, h2, h3, h4⟩ := run_append_own (P := Try.prog) w base 32 o.type 9 i0 (.string ⟨#[]⟩) 1 16 Try.underlying32 hi hz0 hz1 hz2 rfl (by decide) v n _ hown ⟨b, 0, none⟩ 1 c [.string y] rfl (fun j u hj => by
    match j, hj with
    | 0, hj => simp at hj; subst hj; simpa [Addr.add] using hcell) (fun u hu => by simp at hu; subst hu; rfl) (by unfold maxLen; omega) (by omega) hbase
  unfold Oper.wp execOp
  simp only [ho, resolve, invoke, builtin, Sem.run_bind, Sem.run_pure, Result.andThen_ok, List.map_toArray, List.map_cons, List.map_nil, hs, hx, hr]
  exact h v' w' (by simpa using h2) h3
theorem sl_mid (s : ByteArray) (x m : Nat) (h1 : x ≤ m) (h2 : m ≤ s.size) (W : World) : (Instr.slice 9 (.string s) (some (.int .i64 (x : Int))) (some (.int .i64 (m : Int))) none).run Try.prog W = .ok (.string (s.extract x m)) W := by
  rw [run_slice_string W 9 s .i64 .i64 (x : Int) (m : Int) Try.underlying9 (by omega) (by omega) (by omega)]; simp
theorem sl_to (s : ByteArray) (m : Nat) (h2 : m ≤ s.size) (W : World) : (Instr.slice 9 (.string s) none (some (.int .i64 (m : Int))) none).run Try.prog W = .ok (.string (s.extract 0 m)) W := by
  rw [run_slice_string_h W 9 s Try.underlying9 .i64 (m : Int) (by omega) (by omega)]; simp
theorem sl_fr (s : ByteArray) (m : Nat) (h2 : m ≤ s.size) (W : World) : (Instr.slice 9 (.string s) (some (.int .i64 (m : Int))) none none).run Try.prog W = .ok (.string (s.extract m s.size)) W := by
  rw [run_slice_string_l W 9 s Try.underlying9 .i64 (m : Int) (by omega) (by omega)]; simp
theorem du_list : (⟨#[100, 117]⟩ : ByteArray).toList = [100, 117] := by rw [ByteArray.toList_eq]
theorem cell_one_drew {w : World} {x : Value} {t : TypeId} {b : Nat} (hb : b = w.heap.size) : (w.alloc (.cells #[x] t)).drew.cell? ⟨b, 0, none⟩ = some x := cell_one_at hb
theorem ud_size : (⟨#[117, 100]⟩ : ByteArray).size = 2 := rfl

set_option maxRecDepth 100000 in
set_option maxHeartbeats 3200000 in
theorem coversOf (s : ByteArray) (w : World) (hs : s.size ≤ 1099511627776) : Calls Try.prog 17 #[.string s] w (AnsS (covP s) w) := by
  rcases hd : dyck s with _ | _
  · have HP := Lib.hid (cov_no hd)
    have HD := Lib.hid hd
    clear hd
    go_enter Try.func17, Try.ntmps17
    go_wp2
    go_loop [3, 4] (fun v y => v = .slice (some ⟨w.heap.size, 0, none⟩) 0 0 ∧ y = .int .i64 1) (fun _ _ => 0)
    case atStart => exact ⟨rfl, rfl⟩
    case round =>
      obtain ⟨rfl, rfl⟩ := hrel
      by_cases h1 : (1 : Int) < (s.size : Int)
      · go_wp2_with fail
        (with_reducible refine (isDyck_no s _ hs HD.out).mono ?_)
        rintro e w1 ⟨rfl, rfl⟩
        go_wp2
        go_ret
        exact ⟨_, rfl, by rw [HP.out]; exact ⟨_, _, rfl, .inl rfl⟩, (Below.refl _ _).alloc (Nat.le_refl _) _⟩
      · go_wp2
        go_ret
        exact ⟨_, rfl, by rw [HP.out]; exact ⟨_, _, rfl, .inl rfl⟩, (Below.refl _ _).alloc (Nat.le_refl _) _⟩
  · have HP := Lib.hid (cov_yes hd)
    have HD := Lib.hid hd
    have h16 := dyck_size hd
    have HLE := Lib.hid (cvL_le s)
    clear hd
    go_enter Try.func17, Try.ntmps17
    go_wp2
    go_loopw [3, 4] (fun v y wr => ∃ i : Nat, 1 ≤ i ∧ (i ≤ s.size ∨ i = 1) ∧ y = .int .i64 i ∧ wr.ownsRow w.heap.size 9 1 v (cvL s i).length ((cvL s i).map Value.string) ∧ Below w.heap.size w wr) (fun _ y _ => s.size - (intOf y).toNat)
    case atStart => exact ⟨1, Nat.le_refl _, .inr rfl, rfl, by rw [cvL_no (k := 0) (fun h => by have := h.1; omega)]; exact World.ownsRow_made w #[] 0 (Nat.le_refl _) (Nat.zero_le _) (by simp), (Below.refl _ _).alloc (Nat.le_refl _) _⟩
    case round =>
      obtain ⟨i, hi1, hi2, rfl, hrow, hb⟩ := hrel
      have HROW := Lib.hid hrow
      have HB := Lib.hid hb
      have hB := hb.size
      have hle := HLE.out i
      clear hrow hb
      by_cases hlt : i < s.size
      · have hii : (i : Int) < (s.size : Int) := by omega
        obtain ⟨j, hj⟩ : ∃ j, i = j + 1 := ⟨i - 1, by omega⟩
        obtain ⟨k, hk⟩ : ∃ k, k = i + 1 := ⟨_, rfl⟩
        have gj : (i : Int) - 1 = (j : Int) := by omega
        have gk : (i : Int) + 1 = (k : Int) := by omega
        have hj16 : j ≤ 16 := by omega
        have hk17 : k ≤ 17 := by omega
        have hm := sl_mid s j k (by omega) (by omega)
        have ht := sl_to s j (by omega)
        have hf := sl_fr s k (by omega)
        have h2 := two_at18 s j (by omega)
        rw [show j + 2 = k by omega] at h2
        have hv : decide (bt s j = 100 ∧ bt s (j + 1) = 117) = decide (vale s i) := by
          subst hj
          exact decide_eq_decide.2 ⟨fun c => ⟨by omega, by rw [Nat.add_sub_cancel]; exact c.1, c.2⟩, fun h => ⟨by have := h.2.1; rwa [Nat.add_sub_cancel] at this, h.2.2⟩⟩
        rw [hv, du_list] at h2
        have hwj : IntKind.i64.wrap (j : Int) = (j : Int) := IntWalk.i64_in _ (by omega)
        have hwk : IntKind.i64.wrap (k : Int) = (k : Int) := IntWalk.i64_in _ (by omega)
        have HI2 := Lib.hid (show (i + 1 ≤ s.size ∨ i + 1 = 1) ∧ s.size - (i + 1) < s.size - i by omega)
        by_cases c : vale s i
        · rw [decide_eq_true c] at h2
          have HL := Lib.hid (cvL_yes c)
          have HC := Lib.hid (show (s.extract 0 j ++ ⟨#[117, 100]⟩) ++ s.extract k s.size = cvP s i by subst hj; subst hk; rfl)
          have y1 : (s.extract 0 j).size ≤ 16 := by rw [ByteArray.size_extract]; omega
          have y2 : (s.extract k s.size).size ≤ 16 := by rw [ByteArray.size_extract]; omega
          clear c hv hj hk
          generalize s.extract j k = X1 at *
          generalize s.extract 0 j = X2 at *
          generalize s.extract k s.size = X3 at *
          have z1 : ¬ 9223372036854775807 < X2.size + (⟨#[117, 100]⟩ : ByteArray).size := by rw [ud_size]; omega
          have z2 : ¬ 9223372036854775807 < (X2 ++ ⟨#[117, 100]⟩ : ByteArray).size + X3.size := by rw [ByteArray.size_append, ud_size]; omega
          have x1 : ¬ 9223372036854775807 < X2.size + 2 := by omega
          have x2 : ¬ 9223372036854775807 < X2.size + 2 + X3.size := by omega
          go_wp2_with fail
          (with_reducible refine (isDyck_yes s _ hs HD.out).mono ?_)
          rintro e w1 ⟨rfl, rfl⟩
          go_wp2
          go_region_law (refine stepAppS1 rfl _ _ (by rfl) w.heap.size _ (cvL s i).length (cvL s i) (by rfl) (World.ownsRow.alloc (row_drew HROW.out) _) _ 1 ((X2 ++ ⟨#[117, 100]⟩) ++ X3) (by rfl) (by first | exact cell_one_at (by simp) | exact cell_one_at rfl | exact cell_one_drew (by simp) | exact cell_one_drew rfl) (by omega) (by first | (simp; omega) | omega | exact Nat.le_trans hB (by simp)) ?_; intro v' w' hown' hg'; have HOW := Lib.hid hown'; have HBG := Lib.hid ((show Below w.heap.size w _ from (by first | exact (below_drewN HB.out _).alloc hB _ | exact ((HB.out).alloc hB _).drew | exact ((below_drewN HB.out 1).alloc hB _).drew)).grown hg' (by first | (simp; omega) | omega) (fun k hk => (World.ownsRow.lt HROW.out k hk).1)); clear hown' hg')
          all_goals go_wp2
          all_goals exact ⟨⟨i + 1, by omega, HI2.out.1, (by first | (simp; done) | (simp; omega)), by rw [HL.out, ← HC.out, List.length_append, List.length_singleton]; exact HOW.out, HBG.out⟩, by have := HI2.out.2; simp [intOf]; omega⟩
        · rw [decide_eq_false c] at h2
          have HL := Lib.hid (cvL_no c)
          clear c hv hj hk
          generalize s.extract j k = X1 at *
          go_wp2_with fail
          (with_reducible refine (isDyck_yes s _ hs HD.out).mono ?_)
          rintro e w1 ⟨rfl, rfl⟩
          go_wp2
          exact ⟨⟨i + 1, by omega, HI2.out.1, (by first | (simp; done) | (simp; omega)), by rw [HL.out]; exact HROW.out, HB.out⟩, by have := HI2.out.2; simp [intOf]; omega⟩
      · have hii : ¬ (i : Int) < (s.size : Int) := by omega
        have HE := Lib.hid (show cvL s i = cvL s s.size by
          rcases hi2 with h | h
          · rw [show i = s.size by omega]
          · subst h
            have : s.size = 0 ∨ s.size = 1 := by omega
            rcases this with h | h
            · rw [h, cvL_no (k := 0) (fun h => by have := h.1; omega)]
            · rw [h])
        go_wp2
        go_ret
        exact ⟨_, rfl, by rw [HP.out, ← HE.out]; exact OwnS.of_row HROW.out, HB.out⟩

end Go.Proofs.Ytbdnelijfbnfnaa
end

section
namespace Go.Proofs.Ytbdnelijfbnfnaa
open Go.ChangeShapes Go.WideShapes Go.ChangeAt Go.RowKit
open Go.PlainAid (bt bt_nonneg bt_le get_bt bt_end)
set_option linter.unusedVariables false

theorem beg_vl (s : ByteArray) : ∀ i, i ≤ s.size → begL ⟨#[100, 117]⟩ s i = vlL s (i + 1)
  | 0, _ => by rw [vlL_no (k := 0) (fun h => by have := h.1; omega)]; rfl
  | i + 1, h => by
    have hv : hpB ⟨#[100, 117]⟩ s i = decide (vale s (i + 1)) := by
      rw [hpB_two 100 117 s i (by omega), Bool.eq_iff_iff]
      simp only [Bool.and_eq_true, decide_eq_true_eq]
      constructor
      · rintro ⟨h1, h2, h3⟩; exact ⟨by omega, by rw [Nat.add_sub_cancel]; exact h1, h3⟩
      · intro h
        have h1 := h.2.1
        have h3 := h.2.2
        rw [Nat.add_sub_cancel] at h1
        refine ⟨h1, ?_, h3⟩
        rcases Nat.lt_or_ge (i + 1) s.size with h4 | h4
        · exact h4
        · rw [bt_end s (by omega)] at h3; omega
    rw [begL, beg_vl s i (by omega), hv]
    by_cases c : vale s (i + 1)
    · rw [if_pos (decide_eq_true c), vlL_yes c]; congr 2
    · rw [if_neg (by rw [decide_eq_false c]; simp), vlL_no c]
theorem beg_all (s : ByteArray) : begL ⟨#[100, 117]⟩ s s.size = vlL s s.size := by
  rw [beg_vl s s.size (Nat.le_refl _), vlL_no]
  intro h
  have := h.2.2
  rw [bt_end s (Nat.le_refl _)] at this; omega
/-- The covers by the first i places. -/
def cvM (s : ByteArray) (P : List Int) (i : Nat) : List ByteArray := (P.take i).map fun y => cvP s y.toNat
theorem cvM_zero (s : ByteArray) (P : List Int) : cvM s P 0 = [] := by simp [cvM]
theorem cvM_next (s : ByteArray) (P : List Int) (i q : Nat) (h : i < P.length) (hq : P.getD i 0 = (q : Int)) : cvM s P (i + 1) = cvM s P i ++ [cvP s q] := by
  unfold cvM
  rw [List.take_add_one, List.map_append]
  rw [List.getD_eq_getElem?_getD, List.getElem?_eq_getElem h, Option.getD_some] at hq
  rw [List.getElem?_eq_getElem h, hq]; simp
theorem cvM_all (s : ByteArray) (P : List Int) : cvM s P P.length = P.map fun y => cvP s y.toNat := by unfold cvM; rw [List.take_length]
set_option maxRecDepth 100000 in
set_option maxHeartbeats 800000 in
theorem coversOfI (s : ByteArray) (w : World) (hs : s.size ≤ 1099511627776) : Calls Try.prog 15 #[.string s] w (AnsS (covP s) w) := by
  rcases hd : dyck s with _ | _
  · have HP := Lib.hid (cov_no hd)
    have HD := Lib.hid hd
    clear hd
    go_enter Try.func15, Try.ntmps15
    go_wp2_with fail
    (with_reducible refine (isDyckI_no s _ HD.out).mono ?_)
    rintro e w1 ⟨rfl, hb1⟩
    go_wp2
    go_ret
    exact ⟨_, rfl, by rw [HP.out]; exact ⟨_, _, rfl, .inl rfl⟩, hb1⟩
  · have HP := Lib.hid (((cov_yes hd).trans (cvL_map s s.size)).trans (cvM_all s _).symm)
    have HD := Lib.hid hd
    have h16 := dyck_size hd
    have HB := Lib.hid (fun W => beginningsOfI ⟨#[100, 117]⟩ s W hd)
    rw [beg_all] at HB
    have HIN := Lib.hid (vlL_in s s.size)
    have hle := vlL_le s s.size
    clear hd
    generalize vlL s s.size = P at *
    have hP16 : P.length ≤ 16 := by omega
    go_enter Try.func15, Try.ntmps15
    go_wp2_with fail
    (with_reducible refine (isDyckI_yes s _ HD.out).mono ?_)
    rintro e w1 ⟨rfl, hb1⟩
    have HB1 := Lib.hid hb1
    have z1 := hb1.size
    clear hb1
    go_wp2_with fail
    (with_reducible refine (HB.out _).mono ?_)
    rintro e w2 ⟨v2, rfl, hrow, hb2⟩
    have HB2 := Lib.hid (HB1.out.trans (hb2.mono z1))
    have z2 := HB2.out.size
    have HO := Lib.hid (OwnI.of_row hrow)
    obtain ⟨A2, c2, rfl, -⟩ := id HO.out
    clear hrow hb2
    go_wp2
    go_loopw [3, 12] (fun v y wr => ∃ i : Nat, i ≤ P.length ∧ y = .int .i64 i ∧ wr.ownsRow w2.heap.size 9 1 v i ((cvM s P i).map Value.string) ∧ Below w2.heap.size w2 wr) (fun _ y _ => P.length - (intOf y).toNat)
    case atStart => exact ⟨0, Nat.zero_le _, rfl, by rw [cvM_zero]; exact ⟨rfl, .inl ⟨rfl, rfl⟩⟩, Below.refl _ _⟩
    case round =>
      obtain ⟨i, hi, rfl, hrow, hb⟩ := hrel
      have HROW := Lib.hid hrow
      have HBW := Lib.hid hb
      have hB := hb.size
      clear hrow hb
      by_cases hlt : i < P.length
      · have hii : (i : Int) < (P.length : Int) := by omega
        obtain ⟨g1, p1, e1, -, -, hc1, -⟩ := (HO.out.keep HBW.out (Nat.le_refl _)).cell (j := i) hlt
        simp only [Value.slice.injEq] at e1
        obtain ⟨rfl, -, rfl⟩ := e1
        obtain ⟨q, hq, hq1, hq2⟩ := HIN.out (P.getD i 0) (by
          rw [List.getD_eq_getElem?_getD, List.getElem?_eq_getElem hlt]; exact List.getElem_mem _)
        have HL := Lib.hid (cvM_next s P i q hlt hq)
        rw [hq] at hc1
        obtain ⟨j, hj⟩ : ∃ j, q = j + 1 := ⟨q - 1, by omega⟩
        obtain ⟨k, hk⟩ : ∃ k, k = q + 1 := ⟨_, rfl⟩
        have gj : (q : Int) - 1 = (j : Int) := by omega
        have gk : (q : Int) + 1 = (k : Int) := by omega
        have hwj : IntKind.i64.wrap (j : Int) = (j : Int) := IntWalk.i64_in _ (by omega)
        have hwk : IntKind.i64.wrap (k : Int) = (k : Int) := IntWalk.i64_in _ (by omega)
        have hj16 : j ≤ 16 := by omega
        have hk17 : k ≤ 17 := by omega
        have ht := sl_to s j (by omega)
        have hf := sl_fr s k (by omega)
        have HC := Lib.hid (show (s.extract 0 j ++ ⟨#[117, 100]⟩) ++ s.extract k s.size = cvP s q by subst hj; subst hk; rfl)
        have y1 : (s.extract 0 j).size ≤ 16 := by rw [ByteArray.size_extract]; omega
        have y2 : (s.extract k s.size).size ≤ 16 := by rw [ByteArray.size_extract]; omega
        clear hj hk hq hq1 hq2
        generalize s.extract 0 j = X2 at *
        generalize s.extract k s.size = X3 at *
        have zz1 : ¬ 9223372036854775807 < X2.size + (⟨#[117, 100]⟩ : ByteArray).size := by rw [ud_size]; omega
        have zz2 : ¬ 9223372036854775807 < (X2 ++ ⟨#[117, 100]⟩ : ByteArray).size + X3.size := by rw [ByteArray.size_append, ud_size]; omega
        have x1 : ¬ 9223372036854775807 < X2.size + 2 := by omega
        have x2 : ¬ 9223372036854775807 < X2.size + 2 + X3.size := by omega
        go_wp2
        go_region_law (refine stepAppS1 rfl _ _ (by rfl) w2.heap.size _ i (cvM s P i) (by rfl) (World.ownsRow.alloc (row_drew HROW.out) _) _ 1 ((X2 ++ ⟨#[117, 100]⟩) ++ X3) (by rfl) (by first | exact cell_one_at (by simp) | exact cell_one_at rfl | exact cell_one_drew (by simp) | exact cell_one_drew rfl) (by omega) (by first | (simp; omega) | omega | exact Nat.le_trans hB (by simp)) ?_; intro v' w' hown' hg'; have HOW := Lib.hid hown'; have HBG := Lib.hid ((show Below w2.heap.size w2 _ from (by first | exact (below_drewN HBW.out _).alloc hB _ | exact ((HBW.out).alloc hB _).drew | exact ((below_drewN HBW.out 1).alloc hB _).drew)).grown hg' (by first | (simp; omega) | omega) (fun k hk => (World.ownsRow.lt HROW.out k hk).1)); clear hown' hg')
        all_goals go_wp2
        all_goals exact ⟨⟨i + 1, by omega, by simp, by rw [HL.out, ← HC.out]; exact HOW.out, HBG.out⟩, by simp [intOf]; omega⟩
      · obtain rfl : i = P.length := by omega
        go_wp2
        go_ret
        refine ⟨_, rfl, ?_, HB2.out.trans (HBW.out.mono z2)⟩
        rw [HP.out]
        exact (OwnS.of_row HROW.out).wide z2 (Nat.le_refl _)

end Go.Proofs.Ytbdnelijfbnfnaa
end

section
namespace Go.Proofs.Ytbdnelijfbnfnaa
open Go.ChangeShapes Go.WideShapes Go.ChangeAt Go.RowKit
set_option linter.unusedVariables false

def Z256 : Array Value := Array.replicate 256 (.int .i64 0)
theorem zeroTab (w : World) : (zeroValue 80).run Try.prog w = .ok (.agg Z256) w := by kernel_rfl
theorem sizeTab : (Try.prog.info? 80).map (·.size) = some 256 := by kernel_rfl

/-- Block g holds the table f. -/
def TabB (w : World) (g : Nat) (f : Nat → Int) : Prop := ∃ C : Array Value, w.heap[g]? = some (.cells C 80 (0, 0)) ∧ C.size = 256 ∧ ∀ q, q < 256 → C[q]? = some (.int .i64 (f q))
theorem TabB.lt {w : World} {g : Nat} {f : Nat → Int} (h : TabB w g f) : g < w.heap.size := by
  obtain ⟨C, h1, -⟩ := h
  exact (Array.getElem?_eq_some_iff.1 h1).1
theorem TabB.cell {w : World} {g : Nat} {f : Nat → Int} (h : TabB w g f) {q : Nat} (hq : q < 256) : w.cell? ⟨g, q, none⟩ = some (.int .i64 (f q)) ∧ w.frozen? ⟨g, q, none⟩ = false := by
  obtain ⟨C, h1, -, h2⟩ := h
  refine ⟨?_, by simp [World.frozen?, h1]⟩
  rw [cell_of_row w g q C _ (0, 0) h1]
  exact h2 q hq
theorem TabB.keep {w w' : World} {g : Nat} {f : Nat → Int} (h : TabB w g f) (e : w'.heap[g]? = w.heap[g]?) : TabB w' g f := by
  obtain ⟨C, h1, h2⟩ := h
  exact ⟨C, e.trans h1, h2⟩
theorem TabB.alloc {w : World} {g : Nat} {f : Nat → Int} (h : TabB w g f) (o : Obj) : TabB (w.alloc o) g f :=
  h.keep (by
    have := h.lt
    rw [show (w.alloc o).heap = w.heap.push o from rfl, Array.getElem?_push, if_neg (by omega)])
theorem TabB.below {w w' : World} {g B : Nat} {f : Nat → Int} (h : TabB w g f) (hb : Below B w w') (hg : g < B) : TabB w' g f := h.keep (hb.block g hg)
theorem TabB.set {w : World} {g k : Nat} {f f' : Nat → Int} {y : Int} (h : TabB w g f) (hk : k < 256) (hy : f' k = y) (ho : ∀ q, q < 256 → q ≠ k → f' q = f q) : TabB (w.setCell ⟨g, k, none⟩ (.int .i64 y)) g f' := by
  obtain ⟨C, h1, h0, h2⟩ := h
  refine ⟨C.setIfInBounds k (.int .i64 y), by simp [World.setCell, Array.getElem?_modify, h1], by simpa using h0, fun q hq => ?_⟩
  by_cases e : q = k
  · subst e
    rw [Array.getElem?_setIfInBounds_self_of_lt (by omega), hy]
  · rw [Array.getElem?_setIfInBounds_ne (by omega), h2 q hq, ho q hq e]
theorem TabB.other {w : World} {g g' k : Nat} {f : Nat → Int} (h : TabB w g f) (hne : g' ≠ g) (y : Value) : TabB (w.setCell ⟨g', k, none⟩ y) g f :=
  h.keep (by simp [World.setCell, Array.getElem?_modify, hne])
theorem TabB.same {w : World} {g : Nat} {f f' : Nat → Int} (h : TabB w g f) (ho : ∀ q, q < 256 → f' q = f q) : TabB w g f' := by
  obtain ⟨C, h1, h0, h2⟩ := h
  exact ⟨C, h1, h0, fun q hq => by rw [h2 q hq, ho q hq]⟩
theorem TabB.new (w : World) : TabB (w.alloc (.cells Z256 80)) w.heap.size fun _ => 0 := by
  refine ⟨Z256, by rw [show (w.alloc (.cells Z256 80)).heap = w.heap.push (.cells Z256 80) from rfl]; simp, by simp [Z256], fun q hq => ?_⟩
  simp [Z256, hq]

/-- The whole table. -/
def wyQ (q : Nat) : Int := wy (q / 16) (q % 16)
def ballotCells : Array Value := ((List.range 256).map fun q => Value.int .i64 (wyQ q)).toArray
theorem ballot_size : ballotCells.size = 256 := by simp [ballotCells]
theorem ballot_get (q : Nat) (h : q < 256) : ballotCells[q]? = some (.int .i64 (wyQ q)) := by simp [ballotCells, h]
theorem TabB.whole {w : World} {g : Nat} (h : TabB w g wyQ) : w.heap[g]? = some (.cells ballotCells 80 (0, 0)) := by
  obtain ⟨C, h1, h0, h2⟩ := h
  have : C = ballotCells := by
    apply Array.ext (by rw [h0, ballot_size])
    intro i hi hi'
    have e1 := h2 i (by omega)
    have e2 := ballot_get i (by omega)
    rw [Array.getElem?_eq_getElem hi] at e1
    rw [Array.getElem?_eq_getElem hi'] at e2
    rw [← e2] at e1
    exact Option.some.inj e1
  rw [h1, this]
theorem TabB.of {w : World} {g : Nat} (h : w.heap[g]? = some (.cells ballotCells 80 (0, 0))) : TabB w g wyQ := ⟨_, h, ballot_size, ballot_get⟩

/-- The table when the columns before k and the rows before r of column k are filled. -/
def blF (k r : Nat) : Nat → Int := fun q => if q % 16 < k ∨ (q % 16 = k ∧ q / 16 < r) then wyQ q else 0
theorem blF_in (k r q : Nat) (h : q % 16 < k ∨ (q % 16 = k ∧ q / 16 < r)) : blF k r q = wyQ q := if_pos h
theorem blF_out (k r q : Nat) (h : ¬ (q % 16 < k ∨ (q % 16 = k ∧ q / 16 < r))) : blF k r q = 0 := if_neg h
theorem blF_next (k r q : Nat) (hk : k < 16) (h : q ≠ r * 16 + k) : blF k (r + 1) q = blF k r q := by
  by_cases e : q % 16 < k ∨ (q % 16 = k ∧ q / 16 < r)
  · rw [blF_in _ _ _ e, blF_in _ _ _ (by omega)]
  · rw [blF_out _ _ _ e, blF_out _ _ _ (by omega)]
theorem blF_col (k q : Nat) : blF (k + 1) 0 q = blF k (k + 1) q := by
  by_cases e : q % 16 < k ∨ (q % 16 = k ∧ q / 16 < k + 1)
  · rw [blF_in _ _ _ e, blF_in _ _ _ (by omega)]
  · rw [blF_out _ _ _ e]
    by_cases e' : q % 16 = k
    · rw [blF_in _ _ _ (by omega)]
      exact wy_low _ _ (by omega)
    · rw [blF_out _ _ _ (by omega)]
theorem wyQ_at (u d : Nat) (h : d < 16) : wyQ (u * 16 + d) = wy u d := by
  unfold wyQ
  rw [show (u * 16 + d) / 16 = u by omega, show (u * 16 + d) % 16 = d by omega]
theorem wy_sum (p k : Nat) (h : p + 1 ≤ k + 1) : wy (p + 1) (k + 1) = wy p (k + 1) + wy (p + 1) k := by
  by_cases e : p = k
  · subst e
    rw [wy_diag, wy_low (p + 1) p (by omega)]; omega
  · exact wy_step p k (by omega)

set_option maxRecDepth 100000 in
set_option maxHeartbeats 3200000 in
theorem makeBallots (w : World) : Calls Try.prog 62 #[] w fun e w' => e = .returned (.agg ballotCells) ∧ Below w.heap.size w w' := by
  have hz := zeroTab
  have HN1 := Lib.hid (TabB.new (w.alloc (.cells Z256 80)))
  have HN0 := Lib.hid (TabB.new w)
  generalize Z256 = zz at hz HN1 HN0
  go_enter Try.func62, Try.ntmps62
  go_wp2
  have HB0 := Lib.hid (((Below.refl w.heap.size w).alloc (Nat.le_refl _) (.cells zz 80)).alloc (by simp) (.cells zz 80))
  have HR0 := Lib.hid (HN0.out.alloc (.cells zz 80))
  have hsz : (w.alloc (.cells zz 80)).heap.size = w.heap.size + 1 := by simp
  rw [hsz] at HN1
  clear hsz HN0
  go_loopw [4] (fun y wr => ∃ k : Nat, k ≤ 16 ∧ y = .int .i64 k ∧ TabB wr (w.heap.size + 1) (blF k 0) ∧ TabB wr w.heap.size (fun _ => 0) ∧ Below w.heap.size w wr) (fun y _ => 16 - (intOf y).toNat)
  case atStart => exact ⟨0, by omega, rfl, HN1.out.same (fun q hq => blF_out _ _ _ (by omega)), HR0.out, HB0.out⟩
  case round =>
    obtain ⟨k, hk, rfl, ht, hr, hb⟩ := hrel
    have HT := Lib.hid ht
    have HR := Lib.hid hr
    have HB := Lib.hid hb
    clear ht hr hb
    by_cases hlt : k < 16
    · have hki : (k : Int) < 16 := by omega
      obtain ⟨hc, hf⟩ := HT.out.cell (q := k) (by omega)
      generalize blF k 0 k = z0 at hc
      go_wp2
      have HT1 := Lib.hid (show TabB (wr.setCell ⟨w.heap.size + 1, k, none⟩ (.int .i64 1)) (w.heap.size + 1) (blF k 1) from HT.out.set (by omega) (by rw [blF_in _ _ _ (by omega)]; unfold wyQ; rw [show k / 16 = 0 by omega]; rfl) (fun q _ hne => blF_next _ _ _ hlt (by omega)))
      have HR1 := Lib.hid (show TabB (wr.setCell ⟨w.heap.size + 1, k, none⟩ (.int .i64 1)) w.heap.size (fun _ => 0) from HR.out.other (by omega) _)
      have HB1 := Lib.hid (HB.out.setCell (p := ⟨w.heap.size + 1, k, none⟩) (by simp) (.int .i64 1))
      generalize (wr.setCell ⟨w.heap.size + 1, k, none⟩ (.int .i64 1)) = wa at HT1 HR1 HB1
      go_loopw [3] (fun y wr => ∃ r : Nat, 1 ≤ r ∧ r ≤ k + 1 ∧ y = .int .i64 r ∧ TabB wr (w.heap.size + 1) (blF k r) ∧ TabB wr w.heap.size (fun _ => 0) ∧ Below w.heap.size w wr) (fun y _ => k + 1 - (intOf y).toNat)
      case atStart => exact ⟨1, by omega, by omega, rfl, HT1.out, HR1.out, HB1.out⟩
      case round =>
        obtain ⟨r, h1r, hrk, rfl, ht, hr, hb⟩ := hrel
        have HT2 := Lib.hid ht
        have HR2 := Lib.hid hr
        have HB2 := Lib.hid hb
        clear ht hr hb
        by_cases hle : r ≤ k
        · have hrki : (r : Int) ≤ (k : Int) := by omega
          obtain ⟨p, hp⟩ : ∃ p, r = p + 1 := ⟨r - 1, by omega⟩
          obtain ⟨q, hq⟩ : ∃ q, k = q + 1 := ⟨k - 1, by omega⟩
          have hrp : (r : Int) - 1 = (p : Int) := by omega
          have hkq : (k : Int) - 1 = (q : Int) := by omega
          obtain ⟨hc1, -⟩ := HT2.out.cell (q := p * 16 + k) (by omega)
          obtain ⟨hc2, -⟩ := HT2.out.cell (q := r * 16 + q) (by omega)
          obtain ⟨hc3, hf3⟩ := HT2.out.cell (q := r * 16 + k) (by omega)
          rw [blF_in _ _ _ (by omega), wyQ_at _ _ (by omega)] at hc1 hc2
          have HW := Lib.hid (show wy r k = wy p k + wy r q by rw [hp, hq]; exact wy_sum p q (by omega))
          have hbd1 := wy_fit p k (by omega) (by omega)
          have hbd2 := wy_fit r q (by omega) (by omega)
          have hpl : (p : Int) < 16 := by omega
          have hql : (q : Int) < 16 := by omega
          have hrl : (r : Int) < 16 := by omega
          have HP := Lib.hid hp
          have HQ := Lib.hid hq
          clear hp hq
          generalize blF k r (r * 16 + k) = z3 at hc3
          generalize wy p k = x at hc1 HW hbd1
          generalize wy r q = y at hc2 HW hbd2
          go_wp2
          go_region
          all_goals go_wp2
          all_goals refine ⟨⟨r + 1, by omega, by omega, by simp, ?_, ?_, (HB2.out.setCell (p := ⟨w.heap.size + 1, r * 16 + k, none⟩) (by simp) _).drew⟩, by simp [intOf]; omega⟩
          · exact (HT2.out.set (k := r * 16 + k) (f' := blF k (r + 1)) (by omega) (by rw [blF_in _ _ _ (by omega), wyQ_at _ _ (by omega)]; exact HW.out) (fun q _ hne => blF_next _ _ _ hlt hne)).keep rfl
          · exact (HR2.out.other (g' := w.heap.size + 1) (by omega) _).keep rfl
        · obtain rfl : r = k + 1 := by omega
          have hrki : ¬ ((k : Int) + 1 ≤ (k : Int)) := by omega
          go_wp2
          refine ⟨⟨k + 1, by omega, by simp, HT2.out.same (fun q _ => blF_col k q), HR2.out, HB2.out⟩, by simp [intOf]; omega⟩
    · obtain rfl : k = 16 := by omega
      have HW := Lib.hid (TabB.whole (HT.out.same (f' := wyQ) (fun q hq => (blF_in _ _ _ (by omega)).symm)))
      obtain ⟨C0, hC0, hC1, -⟩ := HR.out
      have HC0 := Lib.hid hC0
      have HC1 := Lib.hid hC1
      have HSZ := Lib.hid ballot_size
      have HALL := Lib.hid (show ballotCells.all (·.oneCell') = true from Array.all_eq_true_iff_forall_mem.2 (fun v hv => by
        simp only [ballotCells, List.mem_toArray, List.mem_map] at hv
        obtain ⟨q, -, rfl⟩ := hv
        rfl))
      clear hC0 hC1 hz
      obtain ⟨cs, hcs⟩ : ∃ cs, cs = ballotCells := ⟨_, rfl⟩
      have HCS := Lib.hid hcs
      rw [← hcs] at HW HSZ HALL
      clear hcs
      go_wp2_with (first
        | (refine wpList_load_row rfl _ _ rfl (w.heap.size + 1) rfl 80 cs (0, 0) _ HW.out Try.underlying80 rfl (by rw [HSZ.out]; exact sizeTab) ?_)
        | (refine wpList_store_row rfl _ _ _ rfl w.heap.size cs rfl rfl 80 C0 HC0.out (by rw [HSZ.out]; exact sizeTab) (by rw [HC1.out, HSZ.out]) HALL.out ?_))
      have hg : (wr.setRow w.heap.size cs).heap[w.heap.size]? = some (.cells cs 80 (0, 0)) := by
        simp [World.setRow, Array.getElem?_modify, HC0.out]
      refine bodyPost_ret (v := .agg cs) (results_cell_row Try.results62 _ _ w.heap.size 80 cs (0, 0) _ rfl hg Try.underlying80 rfl (by rw [HSZ.out]; exact sizeTab)) rfl ⟨by rw [HCS.out], below_setRow HB.out (Nat.le_refl _) _⟩

end Go.Proofs.Ytbdnelijfbnfnaa
end

section
namespace Go.Proofs.Ytbdnelijfbnfnaa
open Go.ChangeShapes Go.WideShapes Go.ChangeAt Go.RowKit
set_option linter.unusedVariables false

/-- A binomial number, step by step. -/
def bn (n : Nat) : Nat → Int
  | 0 => 1
  | i + 1 => bn n i * ((n : Int) - i) / ((i : Int) + 1)
theorem bn_zero (n : Nat) : bn n 0 = 1 := rfl
theorem bn_succ (n i : Nat) : bn n (i + 1) = bn n i * ((n : Int) - i) / ((i : Int) + 1) := rfl
set_option maxRecDepth 100000 in
theorem bn_all : ∀ n, n < 16 → ∀ k, k < 16 → 0 ≤ bn n k ∧ bn n k ≤ 6435 := by decide
theorem bn_bd (n k : Nat) (h : n ≤ 15) (hk : k ≤ 15) : 0 ≤ bn n k ∧ bn n k ≤ 6435 := bn_all n (by omega) k (by omega)

def narP (n k : Int) : Int := if 0 ≤ n ∧ n ≤ 15 ∧ 0 ≤ k ∧ k ≤ n then (if n = 0 then 1 else if k = 0 then 0 else bn n.toNat k.toNat * bn n.toNat (k.toNat - 1) / n) else 0

end Go.Proofs.Ytbdnelijfbnfnaa
end

section
namespace Go.Proofs.Ytbdnelijfbnfnaa
open Go.ChangeShapes Go.WideShapes Go.ChangeAt Go.RowKit
set_option linter.unusedVariables false

theorem tab_row (cs : Array Value) (k : Nat) (hk : k < 16) (w : World) : (Instr.index 80 (.agg cs) (.int .i64 k)).run Try.prog w = .ok (.agg (cs.extract (k * 16) (k * 16 + 16))) w := by
  have h1 : (0 : Int) ≤ (k : Int) ∧ (k : Int) < 16 := by omega
  simp [Instr.index, run_underlying Try.underlying80, asIntOf, h1, go_sem]
  intro h; omega
theorem row_cell (cs : Array Value) (v : Value) (q : Nat) (hq : q < 16) (hv : cs[q]? = some v) (w : World) : (Instr.index 78 (.agg cs) (.int .i64 q)).run Try.prog w = .ok v w := by
  have h1 : (0 : Int) ≤ (q : Int) ∧ (q : Int) < 16 := by omega
  simp [Instr.index, run_underlying Try.underlying78, asIntOf, h1, go_sem]
  rw [if_pos hq, hv]; rfl
theorem row_get (k q : Nat) (hk : k < 16) (hq : q < 16) : (ballotCells.extract (k * 16) (k * 16 + 16))[q]? = some (.int .i64 (wy k q)) := by
  have hs := ballot_size
  rw [Array.getElem?_extract, if_pos (by omega), ballot_get _ (by omega), wyQ_at _ _ hq]

set_option maxRecDepth 100000 in
set_option maxHeartbeats 800000 in
theorem ballotNumberI (u d : Int) (w : World) : Calls Try.prog 43 #[.int .i64 u, .int .i64 d] w fun e w' => e = .returned (.int .i64 (ballP u d)) ∧ Below w.heap.size w w' := by
  by_cases h0 : u < 0
  · have HP := Lib.hid (show ballP u d = 0 from if_neg (by omega))
    go_enter Try.func43, Try.ntmps43
    go_wp2
    go_ret
    exact ⟨ret_int HP.out.symm, Below.refl _ _⟩
  by_cases h2 : d < u
  · have HP := Lib.hid (show ballP u d = 0 from if_neg (by omega))
    have h0' : decide (u < 0) = false := by simpa using h0
    go_enter Try.func43, Try.ntmps43
    go_wp2
    go_ret
    exact ⟨ret_int HP.out.symm, Below.refl _ _⟩
  have h0' : decide (u < 0) = false := by simpa using h0
  have h2' : decide (d < u) = false := by simpa using h2
  by_cases h3 : 15 < d
  · have HP := Lib.hid (show ballP u d = 0 from if_neg (by omega))
    go_enter Try.func43, Try.ntmps43
    go_wp2
    go_ret
    exact ⟨ret_int HP.out.symm, Below.refl _ _⟩
  have h3' : decide (15 < d) = false := by simpa using h3
  obtain ⟨k, rfl⟩ : ∃ k : Nat, u = k := ⟨u.toNat, by omega⟩
  obtain ⟨q, rfl⟩ : ∃ q : Nat, d = q := ⟨d.toNat, by omega⟩
  have HP := Lib.hid (show ballP k q = wy k q from if_pos (by omega))
  have hk : (k : Int) < 16 := by omega
  have hq : (q : Int) < 16 := by omega
  go_enter Try.func43, Try.ntmps43
  go_wp2_with fail
  refine (makeBallots _).mono ?_
  rintro e w1 ⟨rfl, hb⟩
  have hI1 := tab_row ballotCells k (by omega)
  have hI2 := row_cell _ _ q (by omega) (row_get k q (by omega) (by omega))
  generalize ballotCells.extract (k * 16) (k * 16 + 16) = row at hI1 hI2
  go_wp2
  go_ret
  exact ⟨ret_int HP.out.symm, hb⟩

set_option maxRecDepth 100000 in
theorem catalanNumberI (n : Int) (w : World) : Calls Try.prog 21 #[.int .i64 n] w fun e w' => e = .returned (.int .i64 (catP n)) ∧ Below w.heap.size w w' := by
  by_cases h0 : n < 0
  · have HP := Lib.hid (show catP n = -1 from if_neg (by omega))
    go_enter Try.func21, Try.ntmps21
    go_wp2
    go_ret
    exact ⟨ret_int HP.out.symm, Below.refl _ _⟩
  have h0' : decide (n < 0) = false := by simpa using h0
  by_cases h1 : 15 < n
  · have HP := Lib.hid (show catP n = -1 from if_neg (by omega))
    go_enter Try.func21, Try.ntmps21
    go_wp2
    go_ret
    exact ⟨ret_int HP.out.symm, Below.refl _ _⟩
  have h1' : decide (15 < n) = false := by simpa using h1
  have HP := Lib.hid (show catP n = ballP n n by unfold catP ballP; rw [if_pos (by omega), if_pos (by omega)])
  go_enter Try.func21, Try.ntmps21
  go_wp2_with fail
  refine (ballotNumberI n n _).mono ?_
  rintro e w1 ⟨rfl, hb⟩
  go_wp2
  go_ret
  exact ⟨ret_int HP.out.symm, hb⟩

end Go.Proofs.Ytbdnelijfbnfnaa
end

section
namespace Go.Proofs.Ytbdnelijfbnfnaa
open Go.ChangeShapes Go.WideShapes Go.ChangeAt Go.RowKit
set_option linter.unusedVariables false

theorem Code.carry {w w' : World} {A : Option Addr} {n : Nat} (h : Code w w.heap.size A n) (hb : Below w.heap.size w w') : Code w' w'.heap.size A n := by
  have h1 := h.keep hb.block
  refine ⟨h1.1, fun j hj => ?_⟩
  obtain ⟨b, off, z, e1, e2, e3⟩ := h1.2 j hj
  exact ⟨b, off, z, e1, Nat.lt_of_lt_of_le e2 hb.size, e3⟩
theorem rnk_bd (w : ByteArray) : -1 ≤ rnkP w ∧ rnkP w ≤ 100 := by
  rcases h : dyck w with _ | _
  · rw [rnk_no h]; omega
  · have h16 := dyck_size h
    have h1 := tmL_nn h (w.size + 1) (Nat.le_refl _)
    have h2 := (tmL_bd (xs := heightsP w) (n := w.size + 1) (fun j hj => hs_fit h j hj) (w.size + 1) (Nat.le_refl _)).2
    rw [rnk_yes h]; omega
theorem list_lenH (s : ByteArray) : s.data.toList.length = s.size := by simp
theorem all_ofH {P : List UInt8 → Bool} {k : Nat} {s : ByteArray} (h : (List.range k).all (fun n => (enumP 0 n).all P) = true) (hd : dyck s = true) (hs : s.size < k) : P s.data.toList = true := by
  rw [dyck_short (dyck_size hd)] at hd
  have hm := enumP_all _ _ hd
  rw [list_lenH] at hm
  exact List.all_eq_true.1 (List.all_eq_true.1 h s.size (by simpa using hs)) _ hm
theorem one_ofH {P : List UInt8 → Bool} {n : Nat} {s : ByteArray} (h : (enumP 0 n).all P = true) (hd : dyck s = true) (hs : s.size = n) : P s.data.toList = true := by
  rw [dyck_short (dyck_size hd)] at hd
  have hm := enumP_all _ _ hd
  rw [list_lenH, hs] at hm
  exact List.all_eq_true.1 h _ hm
theorem cov_all {s : ByteArray} (hs : Word s) : ∀ c ∈ covP s, isbP s c = true ∧ rnkP c = rnkP s + 1 ∧ dstP s c = 1 ∧ c.size ≤ 16 := by
  intro c hc
  rcases hd : dyck s with _ | _
  · rw [cov_no hd] at hc; exact absurd hc List.not_mem_nil
  · have hk : okCov s.data.toList = true := by
      rcases hs with h | rfl | rfl
      · by_cases h12 : s.size < 12
        · exact all_ofH cov0 hd h12
        · by_cases h2 : s.size = 12
          · exact one_ofH cov6 hd h2
          · have := dyck_even hd; omega
      · rw [dyck_long (by decide)] at hd; cases hd
      · exact cov8
    unfold okCov at hk
    have h2 := List.all_eq_true.1 hk c hc
    simp only [Bool.and_eq_true, decide_eq_true_eq] at h2
    exact ⟨h2.1.1.1, h2.1.1.2, h2.1.2, h2.2⟩
theorem cat_small : ∀ n : Nat, n < 8 → 0 ≤ catP (n : Int) ∧ catP (n : Int) ≤ 1000 := by decide +kernel
theorem str_beq (a b : ByteArray) : (a.toList == b.toList) = decide (a = b) := by
  by_cases h : a = b
  · subst h; simp
  · rw [decide_eq_false h]
    rcases hq : (a.toList == b.toList) with _ | _
    · rfl
    · exfalso
      rw [beq_iff_eq] at hq
      exact h (ByteArray.ext (Array.toList_inj.1 (by rwa [ByteArray.toList_eq, ByteArray.toList_eq] at hq)))

set_option maxRecDepth 100000 in
set_option maxHeartbeats 6400000 in
theorem heights_walk (A : Option Addr) (n cap : Nat) (w : World) (hc : n ≤ 1048576 → Code w w.heap.size A n) :
    Calls Try.prog 3 #[.slice A n cap] w fun e w' => e = .returned (.bool true) ∧ Below w.heap.size w w' := by
  by_cases hbig : 1048576 < n
  · have hd : decide (1048576 < n) = true := by simpa using hbig
    clear hc
    go_enter Try.func3, Try.ntmps3
    go_wp2_with fail
    (with_reducible refine (bigC A n cap _).mono ?_)
    rintro e w1 ⟨rfl, rfl⟩
    go_wp2
    go_ret
    exact ⟨rfl, Below.refl _ _⟩
  have hdn : decide (1048576 < n) = false := by simpa using hbig
  have HC := Lib.hid (hc (by omega))
  clear hc hbig
  go_enter Try.func3, Try.ntmps3
  go_wp2_with fail
  (with_reducible refine (bigC A n cap _).mono ?_)
  rintro e w0 ⟨rfl, rfl⟩
  go_wp2_with fail
  (with_reducible refine (drawLowerPath A n cap _ HC.out).mono ?_)
  rintro e w1 ⟨a, b, ha, hb20, rfl, hb⟩
  have ha20 : a.size ≤ 20 := ha
  have hb20 : b.size ≤ 20 := hb20
  have Hw1 := Lib.hid hb
  clear hb ha
  have F1 := Lib.hid (fun W => LowerPathI a b W (by omega) (by omega))
  have F2 := Lib.hid (fun W => specLowerPath a b W (by omega) (by omega))
  have F3 := Lib.hid (fun W => UpperPathI a b W (by omega) (by omega))
  have F4 := Lib.hid (fun W => specUpperPath a b W (by omega) (by omega))
  have F5 := Lib.hid (fun W => distanceBetweenI a b W (by omega) (by omega))
  have F6 := Lib.hid (fun W => distanceBetween a b W (by omega) (by omega))
  rw [(thr_fit a b).1] at F1 F2
  rw [(thr_fit a b).2] at F3 F4
  rcases hf : fitB a b with _ | _
  · skip
    rw [hf] at F1 F2 F3 F4
    generalize thrP min a b = m at *
    generalize thrP max a b = v at *
    generalize dstP a b = d at *
    have hmm : (m.toList != m.toList) = false := by simp
    have hvv : (v.toList != v.toList) = false := by simp
    have hdd : (d != d) = false := by simp
    clear hf
    go_wp2_with fail
    (with_reducible refine (F1.out _).mono ?_)
    rintro e w2 ⟨rfl, hb⟩
    have hz2 := hb.size
    have Hw2 := Lib.hid (Hw1.out.trans (hb.mono Hw1.out.size))
    clear hb
    go_wp2_with fail
    (with_reducible refine (F2.out _).mono ?_)
    rintro e w3 ⟨rfl, hb⟩
    have hz3 := hb.size
    have Hw3 := Lib.hid (Hw2.out.trans (hb.mono Hw2.out.size))
    clear hb
    go_wp2_with fail
    (with_reducible refine (F3.out _).mono ?_)
    rintro e w4 ⟨rfl, hb⟩
    have hz4 := hb.size
    have Hw4 := Lib.hid (Hw3.out.trans (hb.mono Hw3.out.size))
    clear hb
    go_wp2_with fail
    (with_reducible refine (F4.out _).mono ?_)
    rintro e w5 ⟨rfl, hb⟩
    have hz5 := hb.size
    have Hw5 := Lib.hid (Hw4.out.trans (hb.mono Hw4.out.size))
    clear hb
    go_wp2_with fail
    (with_reducible refine (F5.out _).mono ?_)
    rintro e w6 ⟨rfl, hb⟩
    have hz6 := hb.size
    have Hw6 := Lib.hid (Hw5.out.trans (hb.mono Hw5.out.size))
    clear hb
    go_wp2_with fail
    (with_reducible refine (F6.out _).mono ?_)
    rintro e w7 ⟨rfl, hb⟩
    have hz7 := hb.size
    have Hw7 := Lib.hid (Hw6.out.trans (hb.mono Hw6.out.size))
    clear hb
    have HC8 := Lib.hid (HC.out.carry Hw7.out)
    go_wp2_with fail
    (with_reducible refine (drawCoversOf A n cap _ HC8.out).mono ?_)
    rintro e w8 ⟨x, hx, rfl, hb⟩
    have hz8 := hb.size
    have Hw8 := Lib.hid (Hw7.out.trans (hb.mono Hw7.out.size))
    clear hb
    have hx18 := hx.size
    have HCA := Lib.hid (cov_all hx)
    have hcl := cov_le x
    have F20 := Lib.hid (fun W => coversOfI x W (by omega))
    have F21 := Lib.hid (fun W => coversOf x W (by omega))
    have FR := Lib.hid (fun W => rankOfPathI x W (by omega))
    have FS := Lib.hid (fun W => rankOfPath x W (by omega))
    have hrx := rnk_bd x
    have FB := Lib.hid (fun c W (h : c.size ≤ 16) => isBelowI x c W (by omega) (by omega))
    have FD := Lib.hid (fun c W (h : c.size ≤ 16) => distanceBetweenI x c W (by omega) (by omega))
    have FC := Lib.hid (fun c W (h : c.size ≤ 16) => rankOfPathI c W (by omega))
    clear hx
    generalize covP x = cs at *
    generalize hrr : rnkP x = rx at *
    have HRX := Lib.hid hrr
    clear hrr
    go_wp2_with fail
    (with_reducible refine (F20.out _).mono ?_)
    rintro e w9 ⟨v9, rfl, ho, hb⟩
    obtain ⟨A9, c9, rfl, -⟩ := id ho
    have C1 := Lib.hid ho
    have hz9 := hb.size
    have Hw9 := Lib.hid (Hw8.out.trans (hb.mono Hw8.out.size))
    clear ho hb
    go_wp2_with fail
    (with_reducible refine (F21.out _).mono ?_)
    rintro e w10 ⟨v10, rfl, ho, hb⟩
    obtain ⟨A10, c10, rfl, -⟩ := id ho
    have C2 := Lib.hid ho
    have hz10 := hb.size
    have Hw10 := Lib.hid (Hw9.out.trans (hb.mono Hw9.out.size))
    have C1 := Lib.hid (C1.out.keep hb (by omega))
    clear ho hb
    go_wp2_with fail
    (with_reducible refine (sameS _ _ _ _ _ _ cs _ C1.out C2.out (by omega)).mono ?_)
    rintro e w11 ⟨rfl, hb⟩
    have C1 := Lib.hid (C1.out.keep hb (by omega))
    have hz11 := hb.size
    have Hw11 := Lib.hid (Hw10.out.trans (hb.mono Hw10.out.size))
    clear hb C2
    go_wp2
    go_loopw [16] (fun b wr => ∃ i : Nat, i ≤ cs.length ∧ b = .int .i64 i ∧ Below w11.heap.size w11 wr) (fun b _ => cs.length - (intOf b).toNat)
    case atStart => exact ⟨0, Nat.zero_le _, rfl, Below.refl _ _⟩
    case round =>
      obtain ⟨i, hi, rfl, hbl⟩ := hrel
      have HBL := Lib.hid hbl
      have hzl := hbl.size
      clear hbl
      by_cases hlt : i < cs.length
      · have hii : (i : Int) < (cs.length : Int) := by omega
        have HCO := Lib.hid (C1.out.keep HBL.out (by omega))
        obtain ⟨g1, p1, e1, hg1, hg2, hcx, -⟩ := HCO.out.cell hlt
        simp only [Value.slice.injEq] at e1
        obtain ⟨rfl, -, -⟩ := e1
        obtain ⟨q1, q2, q3, q4⟩ := HCA.out (cs.getD i E0) (by rw [List.getD_eq_getElem?_getD, List.getElem?_eq_getElem hlt]; exact List.getElem_mem hlt)
        have G1 := Lib.hid (fun W => FB.out (cs.getD i E0) W q4)
        have G2 := Lib.hid (fun W => FC.out (cs.getD i E0) W q4)
        have G3 := Lib.hid (fun W => FD.out (cs.getD i E0) W q4)
        rw [q1] at G1
        rw [q2] at G2
        rw [q3] at G3
        clear q1 q2 q3
        generalize cs.getD i E0 = c at *
        go_wp2_with fail
        (with_reducible refine (G1.out _).mono ?_)
        rintro e x1 ⟨rfl, hb⟩
        have X1 := Lib.hid (HBL.out.trans (hb.mono hzl))
        have hx1 := hb.size
        have hcx1 := (hb.cell (p := ⟨g1, i, none⟩) (show g1 < wr.heap.size by omega)).trans hcx
        clear hb
        go_wp2_with fail
        (with_reducible refine (G2.out _).mono ?_)
        rintro e x2 ⟨rfl, hb⟩
        have X2 := Lib.hid (X1.out.trans (hb.mono (by omega)))
        have hx2 := hb.size
        have hcx2 := (hb.cell (p := ⟨g1, i, none⟩) (show g1 < x1.heap.size by omega)).trans hcx1
        clear hb
        go_wp2_with fail
        (with_reducible refine (FR.out _).mono ?_)
        rintro e x3 ⟨rfl, hb⟩
        have X3 := Lib.hid (X2.out.trans (hb.mono (by omega)))
        have hx3 := hb.size
        have hcx3 := (hb.cell (p := ⟨g1, i, none⟩) (show g1 < x2.heap.size by omega)).trans hcx2
        clear hb
        have hrr : ((rx + 1) != (rx + 1)) = false := by simp
        go_wp2_with fail
        (with_reducible refine (G3.out _).mono ?_)
        rintro e x4 ⟨rfl, hb⟩
        have X4 := Lib.hid (X3.out.trans (hb.mono (by omega)))
        clear hb
        go_wp2
        exact ⟨⟨i + 1, by omega, by simp, X4.out⟩, by simp [intOf]; omega⟩
      · obtain rfl : i = cs.length := by omega
        have hii : ¬ (cs.length : Int) < (cs.length : Int) := by omega
        have Hw12 := Lib.hid (Hw11.out.trans (HBL.out.mono Hw11.out.size))
        have HC13 := Lib.hid (HC.out.carry Hw12.out)
        go_wp2_with fail
        (with_reducible refine (drawCountBelow A n cap _ HC13.out).mono ?_)
        rintro e w13 ⟨y, y0, y1, rfl, hb⟩
        have hz13 := hb.size
        have Hw13 := Lib.hid (Hw12.out.trans (hb.mono Hw12.out.size))
        clear hb
        have F30 := Lib.hid (fun W => countBelowI y W)
        have F31 := Lib.hid (fun W => countBelow y W)
        by_cases hy : y < 0
        · skip
          have hcb : cblP y = -1 := if_neg (by omega)
          rw [hcb] at F30 F31
          clear hcb
          go_wp2_with fail
          (with_reducible refine (F30.out _).mono ?_)
          rintro e w14 ⟨rfl, hb⟩
          have hz14 := hb.size
          have Hw14 := Lib.hid (Hw13.out.trans (hb.mono Hw13.out.size))
          clear hb
          go_wp2_with fail
          (with_reducible refine (F31.out _).mono ?_)
          rintro e w15 ⟨rfl, hb⟩
          have hz15 := hb.size
          have Hw15 := Lib.hid (Hw14.out.trans (hb.mono Hw14.out.size))
          clear hb
          have HC16 := Lib.hid (HC.out.carry Hw15.out)
          go_wp2_with fail
          (with_reducible refine (drawIsBelow A n cap _ HC16.out).mono ?_)
          rintro e w16 ⟨s, t, hs, ht, rfl, hb⟩
          have hz16 := hb.size
          have Hw16 := Lib.hid (Hw15.out.trans (hb.mono Hw15.out.size))
          clear hb
          have hs20 : s.size ≤ 20 := hs
          have ht20 : t.size ≤ 20 := ht
          have F40 := Lib.hid (fun W => isBelowI s t W (by omega) (by omega))
          have F41 := Lib.hid (fun W => isBelow s t W (by omega) (by omega))
          generalize isbP s t = z at *
          have hzz : (z == z) = true := by simp
          clear hs ht
          go_wp2_with fail
          (with_reducible refine (F40.out _).mono ?_)
          rintro e w17 ⟨rfl, hb⟩
          have hz17 := hb.size
          have Hw17 := Lib.hid (Hw16.out.trans (hb.mono Hw16.out.size))
          clear hb
          go_wp2_with fail
          (with_reducible refine (F41.out _).mono ?_)
          rintro e w18 ⟨rfl, hb⟩
          have hz18 := hb.size
          have Hw18 := Lib.hid (Hw17.out.trans (hb.mono Hw17.out.size))
          clear hb
          go_wp2_with fail
          (with_reducible refine (FR.out _).mono ?_)
          rintro e w19 ⟨rfl, hb⟩
          have hz19 := hb.size
          have Hw19 := Lib.hid (Hw18.out.trans (hb.mono Hw18.out.size))
          clear hb
          go_wp2_with fail
          (with_reducible refine (FS.out _).mono ?_)
          rintro e w20 ⟨rfl, hb⟩
          have hz20 := hb.size
          have Hw20 := Lib.hid (Hw19.out.trans (hb.mono Hw19.out.size))
          clear hb
          go_wp2
          go_ret
          exact ⟨by simp, Hw20.out⟩
        · skip
          obtain ⟨j, rfl⟩ : ∃ j : Nat, y = j := ⟨y.toNat, by omega⟩
          have hcb := cb_all j (by omega)
          have c1 := cat_small j (by omega)
          have c2 := cat_small (j + 2) (by omega)
          have c3 := cat_small (j + 1) (by omega)
          rw [show ((j + 2 : Nat) : Int) = (j : Int) + 2 by omega] at c2
          rw [show ((j + 1 : Nat) : Int) = (j : Int) + 1 by omega] at c3
          have F32 := Lib.hid (fun W => catalanNumberI (j : Int) W)
          have F33 := Lib.hid (fun W => catalanNumberI ((j : Int) + 2) W)
          have F34 := Lib.hid (fun W => catalanNumberI ((j : Int) + 1) W)
          have hk0 : 0 ≤ cblP (j : Int) := by unfold cblP; rw [if_pos (by omega)]; omega
          generalize catP (j : Int) = u1 at *
          generalize catP ((j : Int) + 2) = u2 at *
          generalize catP ((j : Int) + 1) = u3 at *
          have m1 : 0 ≤ u1 * u2 ∧ u1 * u2 ≤ 1000000 := ⟨Int.mul_nonneg c1.1 c2.1, Int.le_trans (Int.mul_le_mul c1.2 c2.2 c2.1 (by omega)) (by decide)⟩
          have m2 : 0 ≤ u3 * u3 ∧ u3 * u3 ≤ 1000000 := ⟨Int.mul_nonneg c3.1 c3.1, Int.le_trans (Int.mul_le_mul c3.2 c3.2 c3.1 (by omega)) (by decide)⟩
          obtain ⟨p1, hp1⟩ : ∃ p1, u1 * u2 = p1 := ⟨_, rfl⟩
          obtain ⟨p2, hp2⟩ : ∃ p2, u3 * u3 = p2 := ⟨_, rfl⟩
          rw [hp1] at m1
          rw [hp2] at m2
          rw [hp1, hp2] at hcb
          generalize cblP (j : Int) = kb at *
          have HCB := Lib.hid hcb
          have hkb : (kb != (p1 - p2)) = false := by simp [HCB.out]
          have hkk : (kb != kb) = false := by simp
          have dk : decide (0 ≤ kb) = true := decide_eq_true hk0
          clear hcb
          go_wp2_with fail
          (with_reducible refine (F30.out _).mono ?_)
          rintro e w14 ⟨rfl, hb⟩
          have hz14 := hb.size
          have Hw14 := Lib.hid (Hw13.out.trans (hb.mono Hw13.out.size))
          clear hb
          go_wp2_with fail
          (with_reducible refine (F31.out _).mono ?_)
          rintro e w15 ⟨rfl, hb⟩
          have hz15 := hb.size
          have Hw15 := Lib.hid (Hw14.out.trans (hb.mono Hw14.out.size))
          clear hb
          go_wp2_with fail
          (with_reducible refine (F32.out _).mono ?_)
          rintro e w16 ⟨rfl, hb⟩
          have hz16 := hb.size
          have Hw16 := Lib.hid (Hw15.out.trans (hb.mono Hw15.out.size))
          clear hb
          go_wp2_with fail
          (with_reducible refine (F33.out _).mono ?_)
          rintro e w17 ⟨rfl, hb⟩
          have hz17 := hb.size
          have Hw17 := Lib.hid (Hw16.out.trans (hb.mono Hw16.out.size))
          clear hb
          go_wp2_with fail
          (with_reducible refine (F34.out _).mono ?_)
          rintro e w18 ⟨rfl, hb⟩
          have hz18 := hb.size
          have Hw18 := Lib.hid (Hw17.out.trans (hb.mono Hw17.out.size))
          clear hb
          go_wp2_with fail
          (with_reducible refine (F34.out _).mono ?_)
          rintro e w19 ⟨rfl, hb⟩
          have hz19 := hb.size
          have Hw19 := Lib.hid (Hw18.out.trans (hb.mono Hw18.out.size))
          clear hb
          have HC20 := Lib.hid (HC.out.carry Hw19.out)
          go_wp2_with fail
          (with_reducible refine (drawIsBelow A n cap _ HC20.out).mono ?_)
          rintro e w20 ⟨s, t, hs, ht, rfl, hb⟩
          have hz20 := hb.size
          have Hw20 := Lib.hid (Hw19.out.trans (hb.mono Hw19.out.size))
          clear hb
          have hs20 : s.size ≤ 20 := hs
          have ht20 : t.size ≤ 20 := ht
          have F40 := Lib.hid (fun W => isBelowI s t W (by omega) (by omega))
          have F41 := Lib.hid (fun W => isBelow s t W (by omega) (by omega))
          generalize isbP s t = z at *
          have hzz : (z == z) = true := by simp
          clear hs ht
          go_wp2_with fail
          (with_reducible refine (F40.out _).mono ?_)
          rintro e w21 ⟨rfl, hb⟩
          have hz21 := hb.size
          have Hw21 := Lib.hid (Hw20.out.trans (hb.mono Hw20.out.size))
          clear hb
          go_wp2_with fail
          (with_reducible refine (F41.out _).mono ?_)
          rintro e w22 ⟨rfl, hb⟩
          have hz22 := hb.size
          have Hw22 := Lib.hid (Hw21.out.trans (hb.mono Hw21.out.size))
          clear hb
          go_wp2_with fail
          (with_reducible refine (FR.out _).mono ?_)
          rintro e w23 ⟨rfl, hb⟩
          have hz23 := hb.size
          have Hw23 := Lib.hid (Hw22.out.trans (hb.mono Hw22.out.size))
          clear hb
          go_wp2_with fail
          (with_reducible refine (FS.out _).mono ?_)
          rintro e w24 ⟨rfl, hb⟩
          have hz24 := hb.size
          have Hw24 := Lib.hid (Hw23.out.trans (hb.mono Hw23.out.size))
          clear hb
          go_wp2
          go_ret
          exact ⟨by simp, Hw24.out⟩
  · skip
    obtain ⟨k1, k2, k3, k4, k5, k6, k7⟩ := heights_all hf
    have hms := thr_size min (.inl rfl) (a := a) (b := b) ha20
    have hvs := thr_size max (.inr rfl) (a := a) (b := b) ha20
    rw [hf] at F1 F2 F3 F4
    have F7 := Lib.hid (fun W => isBelowI (thrP min a b) a W (by omega) (by omega))
    rw [k1] at F7
    have F8 := Lib.hid (fun W => isBelowI (thrP min a b) b W (by omega) (by omega))
    rw [k2] at F8
    have F9 := Lib.hid (fun W => isBelowI a (thrP max a b) W (by omega) (by omega))
    rw [k3] at F9
    have F10 := Lib.hid (fun W => isBelowI b (thrP max a b) W (by omega) (by omega))
    rw [k4] at F10
    have F11 := Lib.hid (fun W => isBelowI a b W (by omega) (by omega))
    rw [k7] at F11
    have R1 := Lib.hid (fun W => rankOfPathI (thrP min a b) W (by omega))
    have R2 := Lib.hid (fun W => rankOfPathI (thrP max a b) W (by omega))
    have R3 := Lib.hid (fun W => rankOfPathI a W (by omega))
    have R4 := Lib.hid (fun W => rankOfPathI b W (by omega))
    have b1 := rnk_bd (thrP min a b)
    have b2 := rnk_bd (thrP max a b)
    have b3 := rnk_bd a
    have b4 := rnk_bd b
    have hbe := str_beq (thrP min a b) a
    generalize rnkP (thrP min a b) = r1 at *
    generalize rnkP (thrP max a b) = r2 at *
    generalize rnkP a = r3 at *
    generalize rnkP b = r4 at *
    generalize dstP a b = d at *
    generalize decide (thrP min a b = a) = q at *
    generalize thrP min a b = m at *
    generalize thrP max a b = v at *
    have K5 := Lib.hid k5
    have K6 := Lib.hid k6
    have hk5 : ((r1 + r2) != (r3 + r4)) = false := by simp [K5.out]
    have hk6 : (d != (r2 - r1)) = false := by simp [K6.out]
    have hqq : (q != q) = false := by simp
    clear k1 k2 k3 k4 k5 k6 k7 hf
    have hmm : (m.toList != m.toList) = false := by simp
    have hvv : (v.toList != v.toList) = false := by simp
    have hdd : (d != d) = false := by simp
    go_wp2_with fail
    (with_reducible refine (F1.out _).mono ?_)
    rintro e w2 ⟨rfl, hb⟩
    have hz2 := hb.size
    have Hw2 := Lib.hid (Hw1.out.trans (hb.mono Hw1.out.size))
    clear hb
    go_wp2_with fail
    (with_reducible refine (F2.out _).mono ?_)
    rintro e w3 ⟨rfl, hb⟩
    have hz3 := hb.size
    have Hw3 := Lib.hid (Hw2.out.trans (hb.mono Hw2.out.size))
    clear hb
    go_wp2_with fail
    (with_reducible refine (F3.out _).mono ?_)
    rintro e w4 ⟨rfl, hb⟩
    have hz4 := hb.size
    have Hw4 := Lib.hid (Hw3.out.trans (hb.mono Hw3.out.size))
    clear hb
    go_wp2_with fail
    (with_reducible refine (F4.out _).mono ?_)
    rintro e w5 ⟨rfl, hb⟩
    have hz5 := hb.size
    have Hw5 := Lib.hid (Hw4.out.trans (hb.mono Hw4.out.size))
    clear hb
    go_wp2_with fail
    (with_reducible refine (F5.out _).mono ?_)
    rintro e w6 ⟨rfl, hb⟩
    have hz6 := hb.size
    have Hw6 := Lib.hid (Hw5.out.trans (hb.mono Hw5.out.size))
    clear hb
    go_wp2_with fail
    (with_reducible refine (F6.out _).mono ?_)
    rintro e w7 ⟨rfl, hb⟩
    have hz7 := hb.size
    have Hw7 := Lib.hid (Hw6.out.trans (hb.mono Hw6.out.size))
    clear hb
    go_wp2_with fail
    (with_reducible refine (F7.out _).mono ?_)
    rintro e w8 ⟨rfl, hb⟩
    have hz8 := hb.size
    have Hw8 := Lib.hid (Hw7.out.trans (hb.mono Hw7.out.size))
    clear hb
    go_wp2_with fail
    (with_reducible refine (F8.out _).mono ?_)
    rintro e w9 ⟨rfl, hb⟩
    have hz9 := hb.size
    have Hw9 := Lib.hid (Hw8.out.trans (hb.mono Hw8.out.size))
    clear hb
    go_wp2_with fail
    (with_reducible refine (F9.out _).mono ?_)
    rintro e w10 ⟨rfl, hb⟩
    have hz10 := hb.size
    have Hw10 := Lib.hid (Hw9.out.trans (hb.mono Hw9.out.size))
    clear hb
    go_wp2_with fail
    (with_reducible refine (F10.out _).mono ?_)
    rintro e w11 ⟨rfl, hb⟩
    have hz11 := hb.size
    have Hw11 := Lib.hid (Hw10.out.trans (hb.mono Hw10.out.size))
    clear hb
    go_wp2_with fail
    (with_reducible refine (R1.out _).mono ?_)
    rintro e w12 ⟨rfl, hb⟩
    have hz12 := hb.size
    have Hw12 := Lib.hid (Hw11.out.trans (hb.mono Hw11.out.size))
    clear hb
    go_wp2_with fail
    (with_reducible refine (R2.out _).mono ?_)
    rintro e w13 ⟨rfl, hb⟩
    have hz13 := hb.size
    have Hw13 := Lib.hid (Hw12.out.trans (hb.mono Hw12.out.size))
    clear hb
    go_wp2_with fail
    (with_reducible refine (R3.out _).mono ?_)
    rintro e w14 ⟨rfl, hb⟩
    have hz14 := hb.size
    have Hw14 := Lib.hid (Hw13.out.trans (hb.mono Hw13.out.size))
    clear hb
    go_wp2_with fail
    (with_reducible refine (R4.out _).mono ?_)
    rintro e w15 ⟨rfl, hb⟩
    have hz15 := hb.size
    have Hw15 := Lib.hid (Hw14.out.trans (hb.mono Hw14.out.size))
    clear hb
    go_wp2_with fail
    (with_reducible refine (R2.out _).mono ?_)
    rintro e w16 ⟨rfl, hb⟩
    have hz16 := hb.size
    have Hw16 := Lib.hid (Hw15.out.trans (hb.mono Hw15.out.size))
    clear hb
    go_wp2_with fail
    (with_reducible refine (R1.out _).mono ?_)
    rintro e w17 ⟨rfl, hb⟩
    have hz17 := hb.size
    have Hw17 := Lib.hid (Hw16.out.trans (hb.mono Hw16.out.size))
    clear hb
    go_wp2_with fail
    (with_reducible refine (F11.out _).mono ?_)
    rintro e w18 ⟨rfl, hb⟩
    have hz18 := hb.size
    have Hw18 := Lib.hid (Hw17.out.trans (hb.mono Hw17.out.size))
    clear hb
    have HC19 := Lib.hid (HC.out.carry Hw18.out)
    go_wp2_with fail
    (with_reducible refine (drawCoversOf A n cap _ HC19.out).mono ?_)
    rintro e w19 ⟨x, hx, rfl, hb⟩
    have hz19 := hb.size
    have Hw19 := Lib.hid (Hw18.out.trans (hb.mono Hw18.out.size))
    clear hb
    have hx18 := hx.size
    have HCA := Lib.hid (cov_all hx)
    have hcl := cov_le x
    have F20 := Lib.hid (fun W => coversOfI x W (by omega))
    have F21 := Lib.hid (fun W => coversOf x W (by omega))
    have FR := Lib.hid (fun W => rankOfPathI x W (by omega))
    have FS := Lib.hid (fun W => rankOfPath x W (by omega))
    have hrx := rnk_bd x
    have FB := Lib.hid (fun c W (h : c.size ≤ 16) => isBelowI x c W (by omega) (by omega))
    have FD := Lib.hid (fun c W (h : c.size ≤ 16) => distanceBetweenI x c W (by omega) (by omega))
    have FC := Lib.hid (fun c W (h : c.size ≤ 16) => rankOfPathI c W (by omega))
    clear hx
    generalize covP x = cs at *
    generalize hrr : rnkP x = rx at *
    have HRX := Lib.hid hrr
    clear hrr
    go_wp2_with fail
    (with_reducible refine (F20.out _).mono ?_)
    rintro e w20 ⟨v20, rfl, ho, hb⟩
    obtain ⟨A20, c20, rfl, -⟩ := id ho
    have C1 := Lib.hid ho
    have hz20 := hb.size
    have Hw20 := Lib.hid (Hw19.out.trans (hb.mono Hw19.out.size))
    clear ho hb
    go_wp2_with fail
    (with_reducible refine (F21.out _).mono ?_)
    rintro e w21 ⟨v21, rfl, ho, hb⟩
    obtain ⟨A21, c21, rfl, -⟩ := id ho
    have C2 := Lib.hid ho
    have hz21 := hb.size
    have Hw21 := Lib.hid (Hw20.out.trans (hb.mono Hw20.out.size))
    have C1 := Lib.hid (C1.out.keep hb (by omega))
    clear ho hb
    go_wp2_with fail
    (with_reducible refine (sameS _ _ _ _ _ _ cs _ C1.out C2.out (by omega)).mono ?_)
    rintro e w22 ⟨rfl, hb⟩
    have C1 := Lib.hid (C1.out.keep hb (by omega))
    have hz22 := hb.size
    have Hw22 := Lib.hid (Hw21.out.trans (hb.mono Hw21.out.size))
    clear hb C2
    go_wp2
    go_loopw [16] (fun b wr => ∃ i : Nat, i ≤ cs.length ∧ b = .int .i64 i ∧ Below w22.heap.size w22 wr) (fun b _ => cs.length - (intOf b).toNat)
    case atStart => exact ⟨0, Nat.zero_le _, rfl, Below.refl _ _⟩
    case round =>
      obtain ⟨i, hi, rfl, hbl⟩ := hrel
      have HBL := Lib.hid hbl
      have hzl := hbl.size
      clear hbl
      by_cases hlt : i < cs.length
      · have hii : (i : Int) < (cs.length : Int) := by omega
        have HCO := Lib.hid (C1.out.keep HBL.out (by omega))
        obtain ⟨g1, p1, e1, hg1, hg2, hcx, -⟩ := HCO.out.cell hlt
        simp only [Value.slice.injEq] at e1
        obtain ⟨rfl, -, -⟩ := e1
        obtain ⟨q1, q2, q3, q4⟩ := HCA.out (cs.getD i E0) (by rw [List.getD_eq_getElem?_getD, List.getElem?_eq_getElem hlt]; exact List.getElem_mem hlt)
        have G1 := Lib.hid (fun W => FB.out (cs.getD i E0) W q4)
        have G2 := Lib.hid (fun W => FC.out (cs.getD i E0) W q4)
        have G3 := Lib.hid (fun W => FD.out (cs.getD i E0) W q4)
        rw [q1] at G1
        rw [q2] at G2
        rw [q3] at G3
        clear q1 q2 q3
        generalize cs.getD i E0 = c at *
        go_wp2_with fail
        (with_reducible refine (G1.out _).mono ?_)
        rintro e x1 ⟨rfl, hb⟩
        have X1 := Lib.hid (HBL.out.trans (hb.mono hzl))
        have hx1 := hb.size
        have hcx1 := (hb.cell (p := ⟨g1, i, none⟩) (show g1 < wr.heap.size by omega)).trans hcx
        clear hb
        go_wp2_with fail
        (with_reducible refine (G2.out _).mono ?_)
        rintro e x2 ⟨rfl, hb⟩
        have X2 := Lib.hid (X1.out.trans (hb.mono (by omega)))
        have hx2 := hb.size
        have hcx2 := (hb.cell (p := ⟨g1, i, none⟩) (show g1 < x1.heap.size by omega)).trans hcx1
        clear hb
        go_wp2_with fail
        (with_reducible refine (FR.out _).mono ?_)
        rintro e x3 ⟨rfl, hb⟩
        have X3 := Lib.hid (X2.out.trans (hb.mono (by omega)))
        have hx3 := hb.size
        have hcx3 := (hb.cell (p := ⟨g1, i, none⟩) (show g1 < x2.heap.size by omega)).trans hcx2
        clear hb
        have hrr : ((rx + 1) != (rx + 1)) = false := by simp
        go_wp2_with fail
        (with_reducible refine (G3.out _).mono ?_)
        rintro e x4 ⟨rfl, hb⟩
        have X4 := Lib.hid (X3.out.trans (hb.mono (by omega)))
        clear hb
        go_wp2
        exact ⟨⟨i + 1, by omega, by simp, X4.out⟩, by simp [intOf]; omega⟩
      · obtain rfl : i = cs.length := by omega
        have hii : ¬ (cs.length : Int) < (cs.length : Int) := by omega
        have Hw23 := Lib.hid (Hw22.out.trans (HBL.out.mono Hw22.out.size))
        have HC24 := Lib.hid (HC.out.carry Hw23.out)
        go_wp2_with fail
        (with_reducible refine (drawCountBelow A n cap _ HC24.out).mono ?_)
        rintro e w24 ⟨y, y0, y1, rfl, hb⟩
        have hz24 := hb.size
        have Hw24 := Lib.hid (Hw23.out.trans (hb.mono Hw23.out.size))
        clear hb
        have F30 := Lib.hid (fun W => countBelowI y W)
        have F31 := Lib.hid (fun W => countBelow y W)
        by_cases hy : y < 0
        · skip
          have hcb : cblP y = -1 := if_neg (by omega)
          rw [hcb] at F30 F31
          clear hcb
          go_wp2_with fail
          (with_reducible refine (F30.out _).mono ?_)
          rintro e w25 ⟨rfl, hb⟩
          have hz25 := hb.size
          have Hw25 := Lib.hid (Hw24.out.trans (hb.mono Hw24.out.size))
          clear hb
          go_wp2_with fail
          (with_reducible refine (F31.out _).mono ?_)
          rintro e w26 ⟨rfl, hb⟩
          have hz26 := hb.size
          have Hw26 := Lib.hid (Hw25.out.trans (hb.mono Hw25.out.size))
          clear hb
          have HC27 := Lib.hid (HC.out.carry Hw26.out)
          go_wp2_with fail
          (with_reducible refine (drawIsBelow A n cap _ HC27.out).mono ?_)
          rintro e w27 ⟨s, t, hs, ht, rfl, hb⟩
          have hz27 := hb.size
          have Hw27 := Lib.hid (Hw26.out.trans (hb.mono Hw26.out.size))
          clear hb
          have hs20 : s.size ≤ 20 := hs
          have ht20 : t.size ≤ 20 := ht
          have F40 := Lib.hid (fun W => isBelowI s t W (by omega) (by omega))
          have F41 := Lib.hid (fun W => isBelow s t W (by omega) (by omega))
          generalize isbP s t = z at *
          have hzz : (z == z) = true := by simp
          clear hs ht
          go_wp2_with fail
          (with_reducible refine (F40.out _).mono ?_)
          rintro e w28 ⟨rfl, hb⟩
          have hz28 := hb.size
          have Hw28 := Lib.hid (Hw27.out.trans (hb.mono Hw27.out.size))
          clear hb
          go_wp2_with fail
          (with_reducible refine (F41.out _).mono ?_)
          rintro e w29 ⟨rfl, hb⟩
          have hz29 := hb.size
          have Hw29 := Lib.hid (Hw28.out.trans (hb.mono Hw28.out.size))
          clear hb
          go_wp2_with fail
          (with_reducible refine (FR.out _).mono ?_)
          rintro e w30 ⟨rfl, hb⟩
          have hz30 := hb.size
          have Hw30 := Lib.hid (Hw29.out.trans (hb.mono Hw29.out.size))
          clear hb
          go_wp2_with fail
          (with_reducible refine (FS.out _).mono ?_)
          rintro e w31 ⟨rfl, hb⟩
          have hz31 := hb.size
          have Hw31 := Lib.hid (Hw30.out.trans (hb.mono Hw30.out.size))
          clear hb
          go_wp2
          go_ret
          exact ⟨by simp, Hw31.out⟩
        · skip
          obtain ⟨j, rfl⟩ : ∃ j : Nat, y = j := ⟨y.toNat, by omega⟩
          have hcb := cb_all j (by omega)
          have c1 := cat_small j (by omega)
          have c2 := cat_small (j + 2) (by omega)
          have c3 := cat_small (j + 1) (by omega)
          rw [show ((j + 2 : Nat) : Int) = (j : Int) + 2 by omega] at c2
          rw [show ((j + 1 : Nat) : Int) = (j : Int) + 1 by omega] at c3
          have F32 := Lib.hid (fun W => catalanNumberI (j : Int) W)
          have F33 := Lib.hid (fun W => catalanNumberI ((j : Int) + 2) W)
          have F34 := Lib.hid (fun W => catalanNumberI ((j : Int) + 1) W)
          have hk0 : 0 ≤ cblP (j : Int) := by unfold cblP; rw [if_pos (by omega)]; omega
          generalize catP (j : Int) = u1 at *
          generalize catP ((j : Int) + 2) = u2 at *
          generalize catP ((j : Int) + 1) = u3 at *
          have m1 : 0 ≤ u1 * u2 ∧ u1 * u2 ≤ 1000000 := ⟨Int.mul_nonneg c1.1 c2.1, Int.le_trans (Int.mul_le_mul c1.2 c2.2 c2.1 (by omega)) (by decide)⟩
          have m2 : 0 ≤ u3 * u3 ∧ u3 * u3 ≤ 1000000 := ⟨Int.mul_nonneg c3.1 c3.1, Int.le_trans (Int.mul_le_mul c3.2 c3.2 c3.1 (by omega)) (by decide)⟩
          obtain ⟨p1, hp1⟩ : ∃ p1, u1 * u2 = p1 := ⟨_, rfl⟩
          obtain ⟨p2, hp2⟩ : ∃ p2, u3 * u3 = p2 := ⟨_, rfl⟩
          rw [hp1] at m1
          rw [hp2] at m2
          rw [hp1, hp2] at hcb
          generalize cblP (j : Int) = kb at *
          have HCB := Lib.hid hcb
          have hkb : (kb != (p1 - p2)) = false := by simp [HCB.out]
          have hkk : (kb != kb) = false := by simp
          have dk : decide (0 ≤ kb) = true := decide_eq_true hk0
          clear hcb
          go_wp2_with fail
          (with_reducible refine (F30.out _).mono ?_)
          rintro e w25 ⟨rfl, hb⟩
          have hz25 := hb.size
          have Hw25 := Lib.hid (Hw24.out.trans (hb.mono Hw24.out.size))
          clear hb
          go_wp2_with fail
          (with_reducible refine (F31.out _).mono ?_)
          rintro e w26 ⟨rfl, hb⟩
          have hz26 := hb.size
          have Hw26 := Lib.hid (Hw25.out.trans (hb.mono Hw25.out.size))
          clear hb
          go_wp2_with fail
          (with_reducible refine (F32.out _).mono ?_)
          rintro e w27 ⟨rfl, hb⟩
          have hz27 := hb.size
          have Hw27 := Lib.hid (Hw26.out.trans (hb.mono Hw26.out.size))
          clear hb
          go_wp2_with fail
          (with_reducible refine (F33.out _).mono ?_)
          rintro e w28 ⟨rfl, hb⟩
          have hz28 := hb.size
          have Hw28 := Lib.hid (Hw27.out.trans (hb.mono Hw27.out.size))
          clear hb
          go_wp2_with fail
          (with_reducible refine (F34.out _).mono ?_)
          rintro e w29 ⟨rfl, hb⟩
          have hz29 := hb.size
          have Hw29 := Lib.hid (Hw28.out.trans (hb.mono Hw28.out.size))
          clear hb
          go_wp2_with fail
          (with_reducible refine (F34.out _).mono ?_)
          rintro e w30 ⟨rfl, hb⟩
          have hz30 := hb.size
          have Hw30 := Lib.hid (Hw29.out.trans (hb.mono Hw29.out.size))
          clear hb
          have HC31 := Lib.hid (HC.out.carry Hw30.out)
          go_wp2_with fail
          (with_reducible refine (drawIsBelow A n cap _ HC31.out).mono ?_)
          rintro e w31 ⟨s, t, hs, ht, rfl, hb⟩
          have hz31 := hb.size
          have Hw31 := Lib.hid (Hw30.out.trans (hb.mono Hw30.out.size))
          clear hb
          have hs20 : s.size ≤ 20 := hs
          have ht20 : t.size ≤ 20 := ht
          have F40 := Lib.hid (fun W => isBelowI s t W (by omega) (by omega))
          have F41 := Lib.hid (fun W => isBelow s t W (by omega) (by omega))
          generalize isbP s t = z at *
          have hzz : (z == z) = true := by simp
          clear hs ht
          go_wp2_with fail
          (with_reducible refine (F40.out _).mono ?_)
          rintro e w32 ⟨rfl, hb⟩
          have hz32 := hb.size
          have Hw32 := Lib.hid (Hw31.out.trans (hb.mono Hw31.out.size))
          clear hb
          go_wp2_with fail
          (with_reducible refine (F41.out _).mono ?_)
          rintro e w33 ⟨rfl, hb⟩
          have hz33 := hb.size
          have Hw33 := Lib.hid (Hw32.out.trans (hb.mono Hw32.out.size))
          clear hb
          go_wp2_with fail
          (with_reducible refine (FR.out _).mono ?_)
          rintro e w34 ⟨rfl, hb⟩
          have hz34 := hb.size
          have Hw34 := Lib.hid (Hw33.out.trans (hb.mono Hw33.out.size))
          clear hb
          go_wp2_with fail
          (with_reducible refine (FS.out _).mono ?_)
          rintro e w35 ⟨rfl, hb⟩
          have hz35 := hb.size
          have Hw35 := Lib.hid (Hw34.out.trans (hb.mono Hw34.out.size))
          clear hb
          go_wp2
          go_ret
          exact ⟨by simp, Hw35.out⟩

end Go.Proofs.Ytbdnelijfbnfnaa
end
