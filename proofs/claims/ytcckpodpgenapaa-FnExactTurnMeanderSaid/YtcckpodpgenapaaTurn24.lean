/- TurnMeander, both functions. -/
import Derived.OwnWalk
import Derived.Test.YtcckpodpgenapaaSpec24A
import Derived.Test.YtcckpodpgenapaaImpl24A
import Derived.Test.YtcckpodpgenapaaSpec9B
import Derived.Test.YtcckpodpgenapaaImpl9B
namespace Go.Proofs.Ytcckpodpgenapaa
open Go.ChangeShapes Go.WideShapes Go.ChangeAt Go.RowKit
set_option linter.unusedVariables false

/-- Two lists of ints, the second behind the first, and whether. -/
def AnsIIB (xs ys : List Int) (b : Bool) (w : World) (e : Ending) (w' : World) : Prop :=
  ∃ v u m, e = .returned (.tuple #[v, u, .bool b]) ∧ OwnI w' w.heap.size m v xs ∧ OwnI w' m w'.heap.size u ys ∧ w.heap.size ≤ m ∧ m ≤ w'.heap.size ∧ Below w.heap.size w w'
theorem ret_iib {A A' : Value} {x y : Bool} (h : x = y) : Ending.returned (.tuple #[A, A', .bool x]) = .returned (.tuple #[A, A', .bool y]) := by rw [h]
def tmB (xs ys : List Int) : Bool := decide (1 ≤ lpP xs ys)
def tmP (xs ys zs : List Int) : List Int := if tmB xs ys = true then turnP zs 1 else []
theorem turnP_len (xs : List Int) (k : Int) : (turnP xs k).length ≤ 16 := by
  unfold turnP
  split
  · rename_i h
    rw [turnL_len]
    unfold turnOk at h
    rw [Bool.and_eq_true] at h
    exact (match_yes h.1).1
  · simp
theorem tmP_len (xs ys zs : List Int) : (tmP xs ys zs).length ≤ 16 := by
  unfold tmP
  split
  · exact turnP_len _ _
  · simp

set_option maxRecDepth 100000 in
set_option maxHeartbeats 1600000 in
theorem turnMeander (A A' : Option Addr) (xs ys : List Int) (cap cap' lo hi lo' hi' : Nat) (w : World) (hv : OwnI w lo hi (.slice A xs.length cap) xs) (hu : OwnI w lo' hi' (.slice A' ys.length cap') ys) (hhi : hi ≤ w.heap.size) (hhu : hi' ≤ w.heap.size) (hl : xs.length ≤ 1099511627776) (hl' : ys.length ≤ 1099511627776) :
    Calls Try.prog 41 #[.slice A xs.length cap, .slice A' ys.length cap'] w (AnsIIB (tmP xs ys xs) (tmP xs ys ys) (tmB xs ys) w) := by
  have H := Lib.hid (loopsOf A A' xs ys cap cap' lo hi lo' hi' w hv hu hhi hhu hl hl')
  have HT1 := Lib.hid (fun W (h : OwnI W lo hi (.slice A xs.length cap) xs) (hh : hi ≤ W.heap.size) => turnMatching _ xs 1 lo hi W h hh hl (by omega) (by omega))
  have HT2 := Lib.hid (fun W (h : OwnI W lo' hi' (.slice A' ys.length cap') ys) (hh : hi' ≤ W.heap.size) => turnMatching _ ys 1 lo' hi' W h hh hl' (by omega) (by omega))
  have HV := Lib.hid hv
  have HU := Lib.hid hu
  clear hv hu
  by_cases h1 : 1 ≤ lpP xs ys
  · have HO := Lib.hid (show tmB xs ys = true from decide_eq_true h1)
    have HP := Lib.hid (show tmP xs ys xs = turnP xs 1 from if_pos HO.out)
    have HQ := Lib.hid (show tmP xs ys ys = turnP ys 1 from if_pos HO.out)
    have d1 : decide (lpP xs ys < 1) = false := decide_eq_false (by omega)
    have d2 : ¬ lpP xs ys < 1 := by omega
    generalize lpP xs ys = z at *
    clear h1
    go_enter Try.func41, Try.ntmps41
    go_wp2_with fail
    (with_reducible refine H.out.mono ?_)
    rintro e w1 ⟨rfl, hb⟩
    have HB := Lib.hid hb
    have HU1 := Lib.hid (HU.out.keep hb hhu)
    have HV1 := Lib.hid (HV.out.keep hb hhi)
    have z1 := hb.size
    clear hb
    go_wp2_with fail
    (with_reducible refine (HT1.out _ HV1.out (by omega)).mono ?_)
    rintro e w2 ⟨v, rfl, ho, hb⟩
    have HB2 := Lib.hid (HB.out.trans (hb.mono z1))
    have HU2 := Lib.hid (HU1.out.keep hb (by omega))
    have z2 := hb.size
    have HO1 := Lib.hid ho
    clear hb ho
    go_wp2_with fail
    (with_reducible refine (HT2.out _ HU2.out (by omega)).mono ?_)
    rintro e w3 ⟨u, rfl, ho, hb⟩
    have HB3 := Lib.hid (HB2.out.trans (hb.mono (by omega)))
    have HO2 := Lib.hid (HO1.out.keep hb (Nat.le_refl _))
    have HO3 := Lib.hid ho
    have z3 := hb.size
    clear hb ho
    go_wp2
    go_ret3
    exact ⟨_, _, w2.heap.size, ret_iib HO.out.symm, by rw [HP.out]; exact HO2.out.wide z1 (Nat.le_refl _), by rw [HQ.out]; exact HO3.out, by omega, z3, HB3.out⟩
  · have HO := Lib.hid (show tmB xs ys = false from decide_eq_false h1)
    have HP := Lib.hid (fun zs => show tmP xs ys zs = [] from if_neg (by rw [HO.out]; simp))
    have d1 : decide (lpP xs ys < 1) = true := decide_eq_true (by omega)
    have d2 : lpP xs ys < 1 := by omega
    generalize lpP xs ys = z at *
    clear h1
    go_enter Try.func41, Try.ntmps41
    go_wp2_with fail
    (with_reducible refine H.out.mono ?_)
    rintro e w1 ⟨rfl, hb⟩
    have HB := Lib.hid hb
    have z1 := hb.size
    clear hb
    go_wp2
    go_ret3
    exact ⟨_, _, w.heap.size, ret_iib HO.out.symm, by rw [HP.out]; exact ⟨_, _, rfl, .inl rfl⟩, by rw [HP.out]; exact ⟨_, _, rfl, .inl rfl⟩, Nat.le_refl _, by simp; omega, (HB.out.alloc z1 _).alloc (by simp; omega) _⟩

set_option maxRecDepth 100000 in
set_option maxHeartbeats 1600000 in
theorem turnMeanderI (A A' : Option Addr) (xs ys : List Int) (cap cap' lo hi lo' hi' : Nat) (w : World) (hv : OwnI w lo hi (.slice A xs.length cap) xs) (hu : OwnI w lo' hi' (.slice A' ys.length cap') ys) (hhi : hi ≤ w.heap.size) (hhu : hi' ≤ w.heap.size) (hl : xs.length ≤ 1099511627776) (hl' : ys.length ≤ 1099511627776) :
    Calls Try.prog 42 #[.slice A xs.length cap, .slice A' ys.length cap'] w (AnsIIB (tmP xs ys xs) (tmP xs ys ys) (tmB xs ys) w) := by
  have H := Lib.hid (loopsOfI A A' xs ys cap cap' lo hi lo' hi' w hv hu hhi hhu hl hl')
  have HT1 := Lib.hid (fun W (h : OwnI W lo hi (.slice A xs.length cap) xs) (hh : hi ≤ W.heap.size) => turnMatchingI _ xs 1 lo hi W h hh hl (by omega) (by omega))
  have HT2 := Lib.hid (fun W (h : OwnI W lo' hi' (.slice A' ys.length cap') ys) (hh : hi' ≤ W.heap.size) => turnMatchingI _ ys 1 lo' hi' W h hh hl' (by omega) (by omega))
  have HV := Lib.hid hv
  have HU := Lib.hid hu
  clear hv hu
  by_cases h1 : 1 ≤ lpP xs ys
  · have HO := Lib.hid (show tmB xs ys = true from decide_eq_true h1)
    have HP := Lib.hid (show tmP xs ys xs = turnP xs 1 from if_pos HO.out)
    have HQ := Lib.hid (show tmP xs ys ys = turnP ys 1 from if_pos HO.out)
    have d1 : decide (lpP xs ys < 1) = false := decide_eq_false (by omega)
    have d2 : ¬ lpP xs ys < 1 := by omega
    generalize lpP xs ys = z at *
    clear h1
    go_enter Try.func42, Try.ntmps42
    go_wp2_with fail
    (with_reducible refine H.out.mono ?_)
    rintro e w1 ⟨rfl, hb⟩
    have HB := Lib.hid hb
    have HU1 := Lib.hid (HU.out.keep hb hhu)
    have HV1 := Lib.hid (HV.out.keep hb hhi)
    have z1 := hb.size
    clear hb
    go_wp2_with fail
    (with_reducible refine (HT1.out _ HV1.out (by omega)).mono ?_)
    rintro e w2 ⟨v, rfl, ho, hb⟩
    have HB2 := Lib.hid (HB.out.trans (hb.mono z1))
    have HU2 := Lib.hid (HU1.out.keep hb (by omega))
    have z2 := hb.size
    have HO1 := Lib.hid ho
    clear hb ho
    go_wp2_with fail
    (with_reducible refine (HT2.out _ HU2.out (by omega)).mono ?_)
    rintro e w3 ⟨u, rfl, ho, hb⟩
    have HB3 := Lib.hid (HB2.out.trans (hb.mono (by omega)))
    have HO2 := Lib.hid (HO1.out.keep hb (Nat.le_refl _))
    have HO3 := Lib.hid ho
    have z3 := hb.size
    clear hb ho
    go_wp2
    go_ret3
    exact ⟨_, _, w2.heap.size, ret_iib HO.out.symm, by rw [HP.out]; exact HO2.out.wide z1 (Nat.le_refl _), by rw [HQ.out]; exact HO3.out, by omega, z3, HB3.out⟩
  · have HO := Lib.hid (show tmB xs ys = false from decide_eq_false h1)
    have HP := Lib.hid (fun zs => show tmP xs ys zs = [] from if_neg (by rw [HO.out]; simp))
    have d1 : decide (lpP xs ys < 1) = true := decide_eq_true (by omega)
    have d2 : lpP xs ys < 1 := by omega
    generalize lpP xs ys = z at *
    clear h1
    go_enter Try.func42, Try.ntmps42
    go_wp2_with fail
    (with_reducible refine H.out.mono ?_)
    rintro e w1 ⟨rfl, hb⟩
    have HB := Lib.hid hb
    have z1 := hb.size
    clear hb
    go_wp2
    go_ret3
    exact ⟨_, _, w.heap.size, ret_iib HO.out.symm, by rw [HP.out]; exact ⟨_, _, rfl, .inl rfl⟩, by rw [HP.out]; exact ⟨_, _, rfl, .inl rfl⟩, Nat.le_refl _, z1, HB.out⟩

end Go.Proofs.Ytcckpodpgenapaa
