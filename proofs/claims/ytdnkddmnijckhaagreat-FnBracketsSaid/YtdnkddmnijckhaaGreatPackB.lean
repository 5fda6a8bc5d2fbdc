/- What the functions of chapter 4 answer for brackets that are drawn, with letters for the answers. -/
import Derived.Test.YtdnkddmnijckhaaGreatPlainB
import Derived.Test.YtdnkddmnijckhaaGreatDrawQ
import Derived.Test.YtdnkddmnijckhaaGreatImpl4E
namespace Go.Proofs.YtdnkddmnijckhaaGreat
open Go.ChangeShapes Go.WideShapes Go.ChangeAt Go.RowKit
open Go.PlainAid (bt bt_nonneg bt_le get_bt bt_end)
set_option linter.unusedVariables false

/-- In each world the function answers v and changes nothing that was there. -/
def Gv (f : FuncId) (args : Array Value) (v : Value) : Prop := ∀ w : World, Calls Tryz.prog f args w fun e w' => e = .returned v ∧ Below w.heap.size w w'
theorem Gv.now {f : FuncId} {a : Array Value} {v : Value} (h : Gv f a v) (w : World) : Calls Tryz.prog f a w fun e w' => e = .returned v ∧ Below w.heap.size w w' := h w
theorem gv_of {f : FuncId} {args : Array Value} {v : Value} (h : ∀ w : World, Calls Tryz.prog f args w fun e w' => e = .returned v ∧ w = w') : Gv f args v := fun w => (h w).mono fun _ _ h => ⟨h.1, h.2 ▸ Below.refl _ _⟩
theorem bytes_eta (s : ByteArray) : (⟨s.data.toList.toArray⟩ : ByteArray) = s := by
  apply ByteArray.ext
  simp
theorem str_of_list {a b : ByteArray} (h : a.data.toList = b.data.toList) : a = b := ByteArray.ext (Array.toList_inj.1 h)
theorem list_len (s : ByteArray) : s.data.toList.length = s.size := by simp

theorem all_of {P : List UInt8 → Bool} {k : Nat} {s : ByteArray} (h : (List.range k).all (fun n => (enumP 0 n).all P) = true) (hd : dyck s = true) (hs : s.size < k) : P s.data.toList = true := by
  rw [dyck_short (dyck_size hd)] at hd
  have hm := enumP_all _ _ hd
  rw [list_len] at hm
  exact List.all_eq_true.1 (List.all_eq_true.1 h s.size (by simpa using hs)) _ hm
theorem even_len : (List.range 12).all (fun n => (n % 2 == 0) || (enumP 0 n).isEmpty) = true := by decide +kernel
theorem one_of {P : List UInt8 → Bool} {n : Nat} {s : ByteArray} (h : (enumP 0 n).all P = true) (hd : dyck s = true) (hs : s.size = n) : P s.data.toList = true := by
  rw [dyck_short (dyck_size hd)] at hd
  have hm := enumP_all _ _ hd
  rw [list_len, hs] at hm
  exact List.all_eq_true.1 h _ hm
theorem odd_not {s : ByteArray} (hd : dyck s = true) {n : Nat} (hs : s.size = n) (hn : n < 12) (ho : n % 2 = 1) : False := by
  rw [dyck_short (dyck_size hd)] at hd
  have hm := enumP_all _ _ hd
  rw [list_len, hs] at hm
  have := List.all_eq_true.1 even_len n (by simpa using hn)
  simp only [ho, Bool.or_eq_true] at this
  rcases this with h | h
  · cases h
  · rw [List.isEmpty_iff] at h; rw [h] at hm; cases hm
theorem turn_all {s : ByteArray} (hd : dyck s = true) (hs : s.size ≤ 12) : okTurn s.data.toList = true := by
  by_cases h : s.size < 11
  · exact all_of turn0 hd h
  · by_cases h2 : s.size = 11
    · exact (odd_not hd h2 (by omega) (by omega)).elim
    · exact one_of turn12 hd (by omega)
theorem shift_all {s : ByteArray} (hd : dyck s = true) (hs : s.size ≤ 12) : okShift s.data.toList = true := by
  by_cases h : s.size < 9
  · exact all_of shift0 hd h
  · by_cases h2 : s.size = 9
    · exact (odd_not hd h2 (by omega) (by omega)).elim
    · by_cases h3 : s.size = 10
      · exact one_of shift10 hd h3
      · by_cases h4 : s.size = 11
        · exact (odd_not hd h4 (by omega) (by omega)).elim
        · refine one_of ?_ hd (show s.size = 12 by omega)
          rw [List.all_eq_true]
          intro l hl
          rw [← List.take_append_drop 44 (enumP 0 12), List.mem_append] at hl
          rcases hl with hl | hl
          · exact List.all_eq_true.1 shift12a l hl
          · rw [← List.take_append_drop 44 ((enumP 0 12).drop 44), List.mem_append, List.drop_drop] at hl
            rcases hl with hl | hl
            · exact List.all_eq_true.1 shift12b l hl
            · exact List.all_eq_true.1 shift12c l hl

theorem good_pob {x : ByteArray} (h : goodB x = true) : pobGood x ∧ 0 < x.size := by
  unfold goodB at h
  simp only [Bool.and_eq_true, decide_eq_true_eq, List.all_eq_true, List.mem_range, Bool.or_eq_true, beq_iff_eq] at h
  exact ⟨⟨h.1.1.2, h.1.2, h.2⟩, h.1.1.1⟩
theorem br_of_pob {x : ByteArray} (hg : pobGood x) : bracketsP (pobW x) = x := by
  obtain ⟨e, h, -⟩ := map_path hg
  rw [e] at h; exact h
theorem pob_brackets {w : ByteArray} (hd : dyck w = true) : pobGood (bracketsP w) ∧ pobW (bracketsP w) = w := by
  have hb : bracketsP w = ⟨(brL w w.size).toArray⟩ := if_pos hd
  have hz : (bracketsP w).size = w.size := by rw [hb]; exact brW_size w
  have e : pobW (bracketsP w) = w := by
    refine str_ext ((pobW_size _).trans hz) fun k hk => ?_
    rw [pobW_size, hz] at hk
    rw [pbW_bt _ _ (by rw [hz]; exact hk), hb, brW_bt w k hk]
    have h1 := dyck_letter hd k hk
    have h2 := get_bt w k hk
    rcases h1 with h1 | h1 <;> rw [← h2, h1] <;> rfl
  refine ⟨⟨by rw [hz]; exact dyck_size hd, fun j hj => ?_, by rw [e]; exact hd⟩, e⟩
  rw [hz] at hj
  rw [hb, brW_bt w j hj]
  split
  · exact .inl rfl
  · exact .inr rfl

theorem pkPartner (s : ByteArray) (i : Int) (hs : Short s) (hi : -1 ≤ i) : ∃ p : Int, Gv 6 #[.string s, .int .i64 i] (.int .i64 p) ∧ Gv 7 #[.string s, .int .i64 i] (.int .i64 p) ∧
    (p < 0 ∨ (0 ≤ p ∧ p ≤ 1000 ∧ p ≠ i ∧ Gv 6 #[.string s, .int .i64 p] (.int .i64 i))) := by
  have hs12 : s.size ≤ 12 := hs
  refine ⟨partnerP s i, fun w => partnerOfI s i w (by omega), gv_of fun w => partnerOf s i w (by omega), ?_⟩
  by_cases h : pobOk s = true ∧ 0 ≤ i ∧ i ≤ (s.size : Int) - 1
  · have hp : partnerP s i = partL (pobW s) i.toNat := if_pos h
    have hg : pobGood s := by
      by_cases hg : pobGood s
      · exact hg
      · rw [(pob_no hg).1] at h; cases h.1
    have hz := pobW_size s
    have hk := all_of part0 hg.2.2 (by omega)
    unfold okPart at hk
    simp only [bytes_eta, list_len, List.all_eq_true, List.mem_range, decide_eq_true_eq] at hk
    obtain ⟨a, b, c, d⟩ := hk i.toNat (by omega)
    right
    rw [hp]
    refine ⟨a, by omega, by omega, fun w => ?_⟩
    have h2 : partnerP s (partL (pobW s) i.toNat) = i := by
      unfold partnerP
      rw [if_pos ⟨h.1, a, by omega⟩, d]; omega
    have := partnerOfI s (partL (pobW s) i.toNat) w (by omega)
    rwa [h2] at this
  · left
    have hp : partnerP s i = -1 := if_neg h
    omega
theorem pkShift (x : ByteArray) (hs : Short x) : ∃ (y : ByteArray) (b : Bool), Gv 9 #[.string x] (.tuple #[.string y, .bool b]) ∧ Gv 10 #[.string x] (.tuple #[.string y, .bool b]) ∧
    (b = true → 0 < x.size → y = shOne x ∧ pobGood x) := by
  have hs12 : x.size ≤ 12 := hs
  refine ⟨shiftP x, pobOk x, fun w => shiftBracketsI x w (by omega), fun w => shiftBrackets x w (by omega), fun hb h0 => ?_⟩
  have hg : pobGood x := by
    by_cases hg : pobGood x
    · exact hg
    · rw [(pob_no hg).1] at hb; cases hb
  exact ⟨if_pos ⟨hb, h0⟩, hg⟩
theorem pkStep {y : ByteArray} (h : goodB y = true) : Gv 9 #[.string y] (.tuple #[.string (shOne y), .bool true]) := by
  obtain ⟨hg, h0⟩ := good_pob h
  have h16 := hg.1
  have hb := (pob_yes hg).1
  intro w
  have := shiftBracketsI y w (by omega)
  rwa [hb, show shiftP y = shOne y from if_pos ⟨hb, h0⟩] at this
/-- The shifts of brackets, and the matching turned. -/
theorem pkRound (x : ByteArray) (hs : Short x) (hg : pobGood x) (h0 : 0 < x.size) : ∃ (w v : ByteArray) (ms ys : List Int) (b1 b2 b3 : Bool), (∃ k, x.size = k + 1 ∧ shAll x k (shOne x) = true) ∧ ms.length ≤ 1000 ∧ ys.length ≤ 1000 ∧ Gv 11 #[.string x] (.tuple #[.string w, .bool true]) ∧
    (∀ W, Calls Tryz.prog 12 #[.string w] W (AnsIB ms b1 W)) ∧
    (∀ u lo hi W, OwnI W lo hi u ms → hi ≤ W.heap.size → Calls Tryz.prog 13 #[u, .int .i64 1] W (AnsIB ys b2 W)) ∧
    (∀ u lo hi W, OwnI W lo hi u ys → hi ≤ W.heap.size → Calls Tryz.prog 14 #[u] W fun e w' => e = .returned (.tuple #[.string v, .bool b3]) ∧ Below W.heap.size W w') ∧
    Gv 15 #[.string v] (.tuple #[.string (shOne x), .bool true]) := by
  have hs12 : x.size ≤ 12 := hs
  have hz := pobW_size x
  have hd := hg.2.2
  have hbr := br_of_pob hg
  have h1 := shift_all hd (by omega)
  have h2 := turn_all hd (by omega)
  unfold okShift at h1
  unfold okTurn at h2
  simp only [bytes_eta, list_len, hz, hbr] at h1
  simp only [bytes_eta, hbr, Bool.or_eq_true, Bool.and_eq_true, decide_eq_true_eq, beq_iff_eq] at h2
  rcases h2 with h2 | ⟨⟨⟨⟨h2, h3⟩, h3b⟩, h4⟩, h5⟩
  · rw [List.isEmpty_iff] at h2
    have := list_len (pobW x)
    rw [h2] at this
    simp at this
    omega
  · have hm : (matchingP (pobW x)).length ≤ 12 := by
      rw [show matchingP (pobW x) = mtL (pobW x) (pobW x).size from if_pos hd, mtL_len]; omega
    have hy : (turnP (matchingP (pobW x)) 1).length ≤ 12 := by
      rw [show turnP (matchingP (pobW x)) 1 = turnL (matchingP (pobW x)) (1 : Int).toNat from if_pos h2, turnL_len]; exact hm
    refine ⟨pobW x, pomP (turnP (matchingP (pobW x)) 1), matchingP (pobW x), turnP (matchingP (pobW x)) 1, _, _, _, ?_, by omega, by omega, gv_of fun w => ?_, fun W => matchingOf (pobW x) W (by omega), fun u lo hi W hu hh => turnMatching u _ 1 lo hi W hu hh (by omega) (by omega) (by omega), fun u lo hi W hu hh => pathOfMatching u _ lo hi W hu hh (by omega), gv_of fun w => ?_⟩
    · obtain ⟨k, hk⟩ : ∃ k, x.size = k + 1 := ⟨x.size - 1, by omega⟩
      rw [hk, shAll, Bool.and_eq_true] at h1
      exact ⟨k, hk, h1.2⟩
    · have := pathOfBrackets x w (by omega)
      rwa [(pob_yes hg).1, (pob_yes hg).2] at this
    · have := bracketsOf (pomP (turnP (matchingP (pobW x)) 1)) w (by omega)
      rwa [h4, str_of_list h5] at this
theorem pkBrackets (w : ByteArray) (hw : Word w) : ∃ (c : ByteArray) (n : Int), Gv 17 #[.string w] (.tuple #[.string c, .bool (dyck w)]) ∧ Gv 15 #[.string w] (.tuple #[.string c, .bool (dyck w)]) ∧
    (dyck w = true → Gv 18 #[.string c] (.tuple #[.string w, .bool true]) ∧ Gv 19 #[.string c] (.int .i64 n) ∧ Gv 20 #[.string w] (.int .i64 n)) := by
  have hz := hw.size
  have hbz := brackets_size w
  refine ⟨bracketsP w, areaP w, fun W => bracketsOfI w W (by omega), gv_of fun W => bracketsOf w W (by omega), fun hd => ?_⟩
  obtain ⟨hg, he⟩ := pob_brackets hd
  obtain ⟨g1, g2⟩ := pob_yes hg
  refine ⟨fun W => ?_, fun W => ?_, fun W => areaOfI w W (by omega)⟩
  · have := pathOfBracketsI (bracketsP w) W (by omega)
    rwa [g1, g2, he] at this
  · have := nestedPairsI (bracketsP w) W (by omega)
    rwa [show nestedP (bracketsP w) = areaP w by unfold nestedP; rw [if_pos g1, he]] at this
theorem pkLast (d : ByteArray) (hd : Short d) : ∃ (p : ByteArray) (o : Bool) (x y : Int), Gv 18 #[.string d] (.tuple #[.string p, .bool o]) ∧ Gv 11 #[.string d] (.tuple #[.string p, .bool o]) ∧
    Gv 22 #[.string d] (.int .i64 x) ∧ Gv 23 #[.string d] (.int .i64 x) ∧ Gv 19 #[.string d] (.int .i64 y) ∧ Gv 24 #[.string d] (.int .i64 y) := by
  have h12 : d.size ≤ 12 := hd
  exact ⟨pobP d, pobOk d, depthP d, nestedP d, fun w => pathOfBracketsI d w (by omega), gv_of fun w => pathOfBrackets d w (by omega), fun w => depthOfI d w (by omega), fun w => depthOf d w (by omega), fun w => nestedPairsI d w (by omega), fun w => nestedPairs d w (by omega)⟩

end Go.Proofs.YtdnkddmnijckhaaGreat
