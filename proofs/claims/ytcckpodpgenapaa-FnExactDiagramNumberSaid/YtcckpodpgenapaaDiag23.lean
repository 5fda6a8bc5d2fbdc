/- DiagramNumber, both functions. -/
import Derived.Test.YtcckpodpgenapaaSpec23A
import Derived.Test.YtcckpodpgenapaaImpl23A
import Derived.Test.YtcckpodpgenapaaImpl9U
import Derived.Test.YtcckpodpgenapaaSpec3C
import Derived.Test.YtcckpodpgenapaaImpl3DN
namespace Go.Proofs.Ytcckpodpgenapaa
open Go.ChangeShapes Go.WideShapes Go.ChangeAt Go.RowKit
set_option linter.unusedVariables false

def dnP (xs : List Int) : Int := if diaB xs = true then rankP (pomP xs) else -1
theorem pom_size (xs : List Int) : (pomP xs).size ≤ 16 := by
  unfold pomP
  split
  · rename_i h
    rw [str_len, pmL_len]; exact cross_short h
  · decide

theorem diagramNumber (A : Option Addr) (xs : List Int) (cap lo hi : Nat) (w : World) (hv : OwnI w lo hi (.slice A xs.length cap) xs) (hhi : hi ≤ w.heap.size) (hl : xs.length ≤ 1099511627776) :
    Calls Try.prog 35 #[.slice A xs.length cap] w fun e w' => e = .returned (.int .i64 (dnP xs)) ∧ Below w.heap.size w w' := by
  have HM := Lib.hid (pathOfMatching _ xs lo hi w hv hhi hl)
  have HR := Lib.hid (fun W => rankPath (pomP xs) W (by have := pom_size xs; omega))
  have HD := Lib.hid (show dnP xs = if (decide (2 ≤ xs.length) && (crossP xs == 0)) = true then rankP (pomP xs) else -1 from rfl)
  generalize pomP xs = s at *
  generalize rankP s = r at *
  generalize dnP xs = d at *
  clear hv
  rcases hm : (crossP xs == 0) with _ | _
  · have HP := Lib.hid (show d = -1 by rw [HD.out, hm]; simp)
    rw [hm] at HM
    clear hm HD
    go_enter Try.func35, Try.ntmps35
    go_wp2_with fail
    (with_reducible refine HM.out.mono ?_)
    rintro e w' ⟨rfl, hb⟩
    go_wp2
    go_ret
    exact ⟨ret_int HP.out.symm, hb⟩
  · rw [hm] at HM
    by_cases h2 : 2 ≤ xs.length
    · have HP := Lib.hid (show d = r by rw [HD.out, hm, decide_eq_true h2]; rfl)
      have d2 : decide ((xs.length : Int) < 2) = false := decide_eq_false (by omega)
      clear hm HD
      go_enter Try.func35, Try.ntmps35
      go_wp2_with fail
      (with_reducible refine HM.out.mono ?_)
      rintro e w1 ⟨rfl, hb⟩
      have HB := Lib.hid hb
      clear hb
      go_wp2_with fail
      (with_reducible refine (HR.out _).mono ?_)
      rintro e w2 ⟨rfl, hb⟩
      have HB2 := Lib.hid (HB.out.trans (hb.mono HB.out.size))
      clear hb
      go_wp2
      go_ret
      exact ⟨ret_int HP.out.symm, HB2.out⟩
    · have HP := Lib.hid (show d = -1 by rw [HD.out, decide_eq_false h2]; rfl)
      have d2 : decide ((xs.length : Int) < 2) = true := decide_eq_true (by omega)
      have d3 : (xs.length : Int) < 2 := by omega
      clear hm HD
      go_enter Try.func35, Try.ntmps35
      go_wp2_with fail
      (with_reducible refine HM.out.mono ?_)
      rintro e w1 ⟨rfl, hb⟩
      go_wp2
      go_ret
      exact ⟨ret_int HP.out.symm, hb⟩

theorem diagramNumberI (A : Option Addr) (xs : List Int) (cap lo hi : Nat) (w : World) (hv : OwnI w lo hi (.slice A xs.length cap) xs) (hhi : hi ≤ w.heap.size) (hl : xs.length ≤ 1099511627776) :
    Calls Try.prog 36 #[.slice A xs.length cap] w fun e w' => e = .returned (.int .i64 (dnP xs)) ∧ Below w.heap.size w w' := by
  have HI := Lib.hid (isDiagramI A xs cap lo hi w hv hhi hl)
  have HM := Lib.hid (fun W (h : OwnI W lo hi (.slice A xs.length cap) xs) (hh : hi ≤ W.heap.size) => pathOfMatchingI A xs cap lo hi W h hh hl)
  have HR := Lib.hid (fun W => rankPathI (pomP xs) W)
  have HD := Lib.hid (show dnP xs = if diaB xs = true then rankP (pomP xs) else -1 from rfl)
  generalize pomP xs = s at *
  generalize rankP s = r at *
  generalize dnP xs = d at *
  have HV := Lib.hid hv
  clear hv
  rcases hm : diaB xs with _ | _
  · have HP := Lib.hid (show d = -1 by rw [HD.out, hm]; rfl)
    rw [hm] at HI
    clear hm HD
    go_enter Try.func36, Try.ntmps36
    go_wp2_with fail
    (with_reducible refine HI.out.mono ?_)
    rintro e w' ⟨rfl, hb⟩
    go_wp2
    go_ret
    exact ⟨ret_int HP.out.symm, hb⟩
  · have HP := Lib.hid (show d = r by rw [HD.out, hm]; rfl)
    rw [hm] at HI
    clear hm HD
    go_enter Try.func36, Try.ntmps36
    go_wp2_with fail
    (with_reducible refine HI.out.mono ?_)
    rintro e w1 ⟨rfl, hb⟩
    have HB := Lib.hid hb
    have HV1 := Lib.hid (HV.out.keep hb hhi)
    have z1 := hb.size
    clear hb
    go_wp2_with fail
    (with_reducible refine (HM.out _ HV1.out (by omega)).mono ?_)
    rintro e w2 ⟨rfl, hb⟩
    have HB2 := Lib.hid (HB.out.trans (hb.mono z1))
    clear hb
    go_wp2_with fail
    (with_reducible refine (HR.out _).mono ?_)
    rintro e w3 ⟨rfl, hb⟩
    have HB3 := Lib.hid (HB2.out.trans (hb.mono HB2.out.size))
    clear hb
    go_wp2
    go_ret
    exact ⟨ret_int HP.out.symm, HB3.out⟩

end Go.Proofs.Ytcckpodpgenapaa
