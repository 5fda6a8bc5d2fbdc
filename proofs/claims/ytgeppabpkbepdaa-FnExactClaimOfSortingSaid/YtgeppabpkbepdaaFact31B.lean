/- The first three places, numbers taken off along a path, one pass by neighbours: plain. -/
import Derived.Test.YtgeppabpkbepdaaFact31
import Derived.Test.YtgeppabpkbepdaaFact10P
namespace Go.Proofs.Ytgeppabpkbepdaa
open Go.ChangeShapes Go.WideShapes Go.ChangeAt Go.RowKit
open Go.PlainAid (bt bt_nonneg bt_le get_bt)
set_option linter.unusedVariables false

def r3 (R : Int → Int → Int → Bool) (xs : List Int) (a b c : Nat) : Bool := R (xs.getD a 0) (xs.getD b 0) (xs.getD c 0)
def ftC (R : Int → Int → Int → Bool) (xs : List Int) (a b c : Nat) : Bool := decide (a < b ∧ b < c) && r3 R xs a b c
def ftB (R : Int → Int → Int → Bool) (xs : List Int) (a b : Nat) : Bool := !decide (∀ c, c < xs.length → ftC R xs a b c = false)
def ftA (R : Int → Int → Int → Bool) (xs : List Int) (a : Nat) : Bool := !decide (∀ b, b < xs.length → ftB R xs a b = false)
/-- The first three places in lexicographic order whose numbers are so related. -/
def ftP (R : Int → Int → Int → Bool) (xs : List Int) : List Int :=
  match (List.range xs.length).find? (ftA R xs) with
  | none => []
  | some a => match (List.range xs.length).find? (ftB R xs a) with
    | none => []
    | some b => match (List.range xs.length).find? (ftC R xs a b) with
      | none => []
      | some c => [(a : Int), (b : Int), (c : Int)]
theorem ftC_no {R : Int → Int → Int → Bool} {xs : List Int} {a b c : Nat} (h : a < b → b < c → r3 R xs a b c = false) : ftC R xs a b c = false := by
  unfold ftC
  by_cases e : a < b ∧ b < c
  · rw [h e.1 e.2, Bool.and_false]
  · rw [decide_eq_false e, Bool.false_and]
theorem ftB_no {R : Int → Int → Int → Bool} {xs : List Int} {a b : Nat} (h : ∀ c, a < b → b < c → c < xs.length → r3 R xs a b c = false) : ftB R xs a b = false := by
  unfold ftB
  rw [decide_eq_true fun c hc => ftC_no fun h1 h2 => h c h1 h2 hc]; rfl
theorem ftA_no {R : Int → Int → Int → Bool} {xs : List Int} {a : Nat} (h : ∀ b c, a < b → b < c → c < xs.length → r3 R xs a b c = false) : ftA R xs a = false := by
  unfold ftA
  rw [decide_eq_true fun b hb => ftB_no fun c h1 h2 h3 => h b c h1 h2 h3]; rfl
theorem ft_no {R : Int → Int → Int → Bool} {xs : List Int} (h : ∀ a b c, a < b → b < c → c < xs.length → r3 R xs a b c = false) : ftP R xs = [] := by
  unfold ftP
  rw [List.find?_eq_none.2 fun a _ => by rw [ftA_no fun b c => h a b c]; decide]
theorem ft_yes {R : Int → Int → Int → Bool} {xs : List Int} {a b c : Nat} (h1 : a < b) (h2 : b < c) (h3 : c < xs.length) (h : r3 R xs a b c = true)
    (na : ∀ a', a' < a → ∀ b' c', a' < b' → b' < c' → c' < xs.length → r3 R xs a' b' c' = false) (nb : ∀ b', a < b' → b' < b → ∀ c', b' < c' → c' < xs.length → r3 R xs a b' c' = false)
    (nc : ∀ c', b < c' → c' < c → r3 R xs a b c' = false) : ftP R xs = [(a : Int), (b : Int), (c : Int)] := by
  have yc : ftC R xs a b c = true := by unfold ftC; rw [h, decide_eq_true ⟨h1, h2⟩]; rfl
  have yb : ftB R xs a b = true := by
    unfold ftB
    rw [decide_eq_false fun hh => by rw [hh c h3] at yc; cases yc]; rfl
  have ya : ftA R xs a = true := by
    unfold ftA
    rw [decide_eq_false fun hh => by rw [hh b (by omega)] at yb; cases yb]; rfl
  have e1 : (List.range xs.length).find? (ftA R xs) = some a := List.find?_range_eq_some.2 ⟨ya, List.mem_range.2 (by omega), fun j hj => by rw [ftA_no (na j hj)]; rfl⟩
  have e2 : (List.range xs.length).find? (ftB R xs a) = some b := List.find?_range_eq_some.2 ⟨yb, List.mem_range.2 (by omega), fun j hj => by rw [ftB_no fun c' g1 g2 g3 => nb j g1 hj c' g2 g3]; rfl⟩
  have e3 : (List.range xs.length).find? (ftC R xs a b) = some c := List.find?_range_eq_some.2 ⟨yc, List.mem_range.2 h3, fun j hj => by rw [ftC_no fun _ g2 => nc j g2 hj]; rfl⟩
  unfold ftP
  rw [e1]; simp only []
  rw [e2]; simp only []
  rw [e3]
def patP (xs : List Int) : List Int := if permB xs = true then ftP r231 xs else []

/-- Neighbours that stand wrong change places. -/
def bbS (l : List Int) (k : Nat) : List Int := if l.getD (k + 1) 0 < l.getD k 0 then (l.set (k + 1) (l.getD k 0)).set k (l.getD (k + 1) 0) else l
def bbL (xs : List Int) : Nat → List Int
  | 0 => xs
  | k + 1 => bbS (bbL xs k) k
theorem bbL_len (xs : List Int) (k : Nat) : (bbL xs k).length = xs.length := by
  induction k with
  | zero => rfl
  | succ k ih => rw [bbL, bbS]; split; rw [List.length_set, List.length_set, ih]; exact ih
def bubP (xs : List Int) : List Int := if permB xs = true then bbL xs (xs.length - 1) else []
theorem getD_set (l : List Int) (i j : Nat) (y : Int) (hi : i < l.length) : (l.set i y).getD j 0 = if i = j then y else l.getD j 0 := by
  rw [List.getD_eq_getElem?_getD, List.getElem?_set, List.getD_eq_getElem?_getD]
  by_cases e : i = j
  · rw [if_pos e, if_pos e, if_pos (by omega)]; rfl
  · rw [if_neg e, if_neg e]
theorem set_comm2 (l : List Int) (k : Nat) (x y : Int) : (l.set (k + 1) x).set k y = (l.set k y).set (k + 1) x := List.set_comm _ _ (by omega)

/-- The numbers on the stack, and those that have been taken off. -/
def tkS (xs : List Int) (s : ByteArray) (i : Nat) : List Int := (psS s i).map fun k => xs.getD k.toNat 0
def tkO (xs : List Int) (s : ByteArray) : Nat → List Int
  | 0 => []
  | i + 1 => if bt s i = 117 then tkO xs s i else tkO xs s i ++ [xs.getD (psT s i) 0]
theorem tkS_len (xs : List Int) (s : ByteArray) (i : Nat) : (tkS xs s i).length = (psS s i).length := by unfold tkS; rw [List.length_map]
theorem tkS_up (xs : List Int) {s : ByteArray} {i : Nat} (e : bt s i = 117) : tkS xs s (i + 1) = tkS xs s i ++ [xs.getD (psN s i) 0] := by
  unfold tkS
  rw [psS, if_pos e, List.map_append]; rfl
theorem tkS_down (xs : List Int) {s : ByteArray} {i : Nat} (e : bt s i ≠ 117) : tkS xs s (i + 1) = (tkS xs s i).dropLast := by
  unfold tkS
  rw [psS, if_neg e, List.map_dropLast]
theorem tkS_top (xs : List Int) (s : ByteArray) (i : Nat) (h : 1 ≤ (psS s i).length) : (tkS xs s i).getD ((tkS xs s i).length - 1) 0 = xs.getD (psT s i) 0 := by
  rw [tkS_len]
  unfold tkS psT
  rw [List.getD_eq_getElem?_getD, List.getElem?_map, List.getD_eq_getElem?_getD (l := psS s i), List.getElem?_eq_getElem (by omega)]; rfl
theorem tkO_len (xs : List Int) (s : ByteArray) (i : Nat) : (tkO xs s i).length ≤ i := by
  induction i with
  | zero => exact Nat.le_refl _
  | succ i ih => rw [tkO]; split; omega; rw [List.length_append, List.length_singleton]; omega
theorem ps_lt {s : ByteArray} (hd : dyck s = true) {i : Nat} (hi : i < s.size) (e : bt s i = 117) : psN s i < s.size / 2 := by
  obtain ⟨h1, h2, h3⟩ := ps_ok hd (i + 1) (by omega)
  obtain ⟨k, hk1, hk2, hk3⟩ := hAt_path hd (i + 1) (by omega)
  have hz := df_low _ _ hk3
  have hr : (rest s (i + 1)).length = s.size - (i + 1) := by unfold rest; simp
  rw [psN, if_pos e] at h2
  push_cast at h2
  omega
theorem ps_le {s : ByteArray} (hd : dyck s = true) {i : Nat} (hi : i ≤ s.size) : psN s i ≤ s.size / 2 := by
  obtain ⟨h1, h2, h3⟩ := ps_ok hd i hi
  obtain ⟨k, hk1, hk2, hk3⟩ := hAt_path hd i (by omega)
  have hz := df_low _ _ hk3
  have hr : (rest s i).length = s.size - i := by unfold rest; simp
  omega
def outOk (s : ByteArray) (xs : List Int) : Bool := dyck s && permB xs && decide (s.size = 2 * xs.length)
def outP (s : ByteArray) (xs : List Int) : List Int := if outOk s xs = true then tkO xs s s.size else []

end Go.Proofs.Ytgeppabpkbepdaa
