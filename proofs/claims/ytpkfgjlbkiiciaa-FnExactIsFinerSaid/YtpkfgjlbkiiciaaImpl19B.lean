/- The program's IsFiner. -/
import Derived.Test.YtpkfgjlbkiiciaaImpl19A
import Derived.Test.YtpkfgjlbkiiciaaImpl8D
import Derived.Deep.QuietTactic
import Derived.BigQuiet
namespace Go.Proofs.Ytpkfgjlbkiiciaa
open Go.ChangeShapes Go.WideShapes Go.ChangeAt Go.RowKit
set_option linter.unusedVariables false

set_option maxRecDepth 100000 in
theorem isFiner1 (f t n b : Nat) (A : Option Addr) (ys : List Int) (cap lo hi : Nat) (w : World) (hc : w.cell? ⟨b, 0, none⟩ = some (.slice A n cap)) (hb : b < w.heap.size) (hu : OwnI w lo hi (.slice A n cap) ys) (hhi : hi ≤ w.heap.size) (hn : ys.length = n) (hf : f < n) (ht : t < n) :
    Calls Try.prog 49 #[.agg #[.int .i64 (f : Int), .int .i64 (t : Int)], .pointer (some ⟨b, 0, none⟩)] w fun e w' => e = .returned (.bool (ys.getD f 0 != ys.getD t 0)) ∧ Below w.heap.size w w' := by
  have HB := Lib.hid ((Below.refl w.heap.size w).alloc (Nat.le_refl _) (.cells #[.int .i64 (f : Int), .int .i64 (t : Int)] 45))
  have HU := Lib.hid (hu.keep HB.out hhi)
  have hc2 := (HB.out.cell (p := ⟨b, 0, none⟩) hb).trans hc
  obtain ⟨g1, p1, e1, -, -, hcx, -⟩ := HU.out.cell (j := f) (by omega)
  obtain ⟨g2, p2, e2, -, -, hcy, -⟩ := HU.out.cell (j := t) (by omega)
  simp only [Value.slice.injEq] at e1 e2
  obtain ⟨rfl, -, -⟩ := e1
  obtain ⟨e2, -, -⟩ := e2
  obtain rfl : g1 = g2 := by simpa using e2
  have hfi : (f : Int) < (n : Int) := by omega
  have hti : (t : Int) < (n : Int) := by omega
  generalize ys.getD f 0 = x at *
  generalize ys.getD t 0 = y at *
  clear hc hu e2
  go_enter Try.func49, Try.ntmps49
  go_wp2
  go_quiet (fail)
  go_wp2
  go_ret
  exact ⟨rfl, below_drewN HB.out _⟩

/-- Every pair has its ends together. -/
def togB (ys : List Int) (l : List (Int × Int)) : Bool := l.all fun p => ys.getD p.1.toNat 0 == ys.getD p.2.toNat 0
theorem tog_no {ys : List Int} {l : List (Int × Int)} {i : Nat} (hi : i < l.length) (h : ys.getD (l.getD i (0, 0)).1.toNat 0 ≠ ys.getD (l.getD i (0, 0)).2.toNat 0) : togB ys l = false := by
  rcases hb : togB ys l with _ | _
  · rfl
  · unfold togB at hb
    rw [List.all_eq_true] at hb
    have := hb (l.getD i (0, 0)) (by rw [List.getD_eq_getElem?_getD, List.getElem?_eq_getElem hi]; exact List.getElem_mem hi)
    exact absurd (by simpa using this) h
theorem tog_yes {ys : List Int} {l : List (Int × Int)} (h : ∀ i, i < l.length → ys.getD (l.getD i (0, 0)).1.toNat 0 = ys.getD (l.getD i (0, 0)).2.toNat 0) : togB ys l = true := by
  unfold togB
  rw [List.all_eq_true]
  intro p hp
  obtain ⟨i, hi, rfl⟩ := List.mem_iff_getElem.1 hp
  have this := h i hi
  have e : l.getD i (0, 0) = l[i] := by rw [List.getD_eq_getElem?_getD, List.getElem?_eq_getElem hi]; rfl
  rw [e] at this
  exact beq_iff_eq.2 this

set_option maxRecDepth 100000 in
set_option maxHeartbeats 1600000 in
theorem indexFiner (n b : Nat) (A : Option Addr) (ys : List Int) (cap lo hi : Nat) (v : Value) (l : List (Int × Int)) (base : Nat) (w : World) (hv : RowC w base v l) (hlen : l.length ≤ 1099511) (hc : w.cell? ⟨b, 0, none⟩ = some (.slice A n cap)) (hb : b < w.heap.size) (hu : OwnI w lo hi (.slice A n cap) ys) (hhi : hi ≤ w.heap.size) (hn : ys.length = n)
    (hin : ∀ i, i < l.length → ∃ f t : Nat, l.getD i (0, 0) = ((f : Int), (t : Int)) ∧ f < n ∧ t < n) :
    Calls Try.prog 58 #[v, .func (.func 49) #[] #[.pointer (some ⟨b, 0, none⟩)]] w fun e w' => (∃ r : Int, e = .returned (.int .i64 r) ∧ decide (0 ≤ r) = !togB ys l) ∧ Below w.heap.size w w' := by
  obtain ⟨A2, cap2, rfl⟩ := hv.form
  have HV := Lib.hid hv
  have HU := Lib.hid hu
  have HC := Lib.hid hc
  have HIN := Lib.hid hin
  clear hv hu hc hin
  obtain ⟨m, hm⟩ : ∃ m, m = l.length := ⟨_, rfl⟩
  have HM := Lib.hid hm
  rw [← hm] at hlen ⊢
  clear hm
  go_enter Try.func58, Try.ntmps58
  go_wp2
  go_loopw [8] (fun y wr => ∃ i : Nat, i ≤ m ∧ y = .int .i64 i ∧ Below w.heap.size w wr ∧ ∀ j, j < i → ys.getD (l.getD j (0, 0)).1.toNat 0 = ys.getD (l.getD j (0, 0)).2.toNat 0) (fun y _ => m - (intOf y).toNat)
  case atStart => exact ⟨0, Nat.zero_le _, rfl, Below.refl _ _, fun j h => absurd h (Nat.not_lt_zero _)⟩
  case round =>
    obtain ⟨i, hi1, rfl, hbl, hle⟩ := hrel
    have HLE := Lib.hid hle
    have HB := Lib.hid hbl
    have zB := hbl.size
    clear hle hbl
    by_cases hlt : i < m
    · obtain ⟨f, t, efl, hf, ht⟩ := HIN.out i (by rw [← HM.out]; exact hlt)
      obtain ⟨g, c, e', hgl, hc0, hc1⟩ := HV.out.cell (j := i) (by rw [← HM.out]; exact hlt)
      simp only [Value.slice.injEq] at e'
      obtain ⟨rfl, -, -⟩ := e'
      rw [efl] at hc0 hc1
      have hw0 := (HB.out.cell (p := ⟨g, i * 2, none⟩) hgl).trans hc0
      have hw1 := (HB.out.cell (p := ⟨g, i * 2 + 1, none⟩) hgl).trans hc1
      clear hc0 hc1
      have hii : (i : Int) < (m : Int) := by omega
      have HW := Lib.hid (isFiner1 f t n b A ys cap lo hi wr ((HB.out.cell (p := ⟨b, 0, none⟩) hb).trans HC.out) (by omega) (HU.out.keep HB.out hhi) (by omega) hn hf ht)
      by_cases e : ys.getD f 0 = ys.getD t 0
      · rw [show (ys.getD f 0 != ys.getD t 0) = false by rw [e, bne_self_eq_false]] at HW
        have HSTEP := Lib.hid (show ∀ j, j < i + 1 → ys.getD (l.getD j (0, 0)).1.toNat 0 = ys.getD (l.getD j (0, 0)).2.toNat 0 from fun j hj => by
          by_cases ej : j = i
          · subst ej; rw [efl]; exact e
          · exact HLE.out j (by omega))
        clear e efl
        go_wp2_with fail
        (with_reducible refine HW.out.mono ?_)
        rintro e w' ⟨rfl, hb'⟩
        have HB' := Lib.hid (HB.out.trans (hb'.mono zB))
        clear hb'
        go_wp2
        exact ⟨⟨i + 1, by omega, by simp, HB'.out, HSTEP.out⟩, by simp [intOf]; omega⟩
      · rw [show (ys.getD f 0 != ys.getD t 0) = true from bne_iff_ne.2 e] at HW
        have HP := Lib.hid (tog_no (ys := ys) (l := l) (i := i) (by rw [← HM.out]; exact hlt) (by rw [efl]; simpa using e))
        clear e efl
        go_wp2_with fail
        (with_reducible refine HW.out.mono ?_)
        rintro e w' ⟨rfl, hb'⟩
        have HB' := Lib.hid (HB.out.trans (hb'.mono zB))
        clear hb'
        go_wp2
        go_ret
        exact ⟨⟨_, rfl, by rw [HP.out]; simp⟩, HB'.out⟩
    · obtain rfl : i = m := by omega
      have HIN2 := Lib.hid (show togB ys l = true from tog_yes fun j hj => HLE.out j (by rw [HM.out]; exact hj))
      go_wp2
      go_ret
      exact ⟨⟨_, rfl, by rw [HIN2.out]; rfl⟩, HB.out⟩

set_option maxRecDepth 100000 in
set_option maxHeartbeats 1600000 in
theorem isFinerP (A A' : Option Addr) (xs ys : List Int) (n cap cap' lo hi lo' hi' : Nat) (w : World) (hv : OwnI w lo hi (.slice A n cap) xs) (hu : OwnI w lo' hi' (.slice A' n cap') ys) (hhi : hi ≤ w.heap.size) (hhu : hi' ≤ w.heap.size) (hx : prtB xs = true) (hn : xs.length = n) (hn' : ys.length = n) :
    Calls Try.prog 30 #[.slice A n cap, .slice A' n cap'] w fun e w' => e = .returned (.bool (fnB xs ys)) ∧ Below w.heap.size w w' := by
  have h8 := (prt_yes hx).1
  have HBA := Lib.hid ((Below.refl w.heap.size w).alloc (Nat.le_refl _) (.cells #[.slice A' n cap'] 33))
  have HCL := Lib.hid (cell_one w (.slice A' n cap') 33)
  have HSZ := Lib.hid (show (w.alloc (.cells #[.slice A' n cap'] 33)).heap.size = w.heap.size + 1 by simp)
  have HCH := Lib.hid (chordsOf A xs cap lo hi (w.alloc (.cells #[.slice A' n cap'] 33)) (by rw [hn]; exact hv.keep HBA.out hhi) (by rw [HSZ.out]; omega) (fun y hy => by
    obtain ⟨i, hi, rfl⟩ := List.mem_iff_getElem.1 hy
    have := prt_lt hx hi
    rw [List.getD_eq_getElem?_getD, List.getElem?_eq_getElem hi] at this
    exact wf_small (by simp at this; omega)) (by omega))
  rw [hn] at HCH
  have HU := Lib.hid (hu.keep HBA.out hhu)
  have HR := Lib.hid (show togB ys (chdL xs n) = fnB xs ys by rw [← hn]; exact ch_fn xs ys)
  have HIN := Lib.hid (show ∀ i, i < (chdL xs n).length → ∃ f t : Nat, (chdL xs n).getD i (0, 0) = ((f : Int), (t : Int)) ∧ f < n ∧ t < n from fun i hi => by
    obtain ⟨f, t, e, h1, h2, -⟩ := chd_mem xs n ((chdL xs n).getD i (0, 0)) (by rw [List.getD_eq_getElem?_getD, List.getElem?_eq_getElem hi]; exact List.getElem_mem hi)
    exact ⟨f, t, e, by omega, h1⟩)
  have HCN := Lib.hid (chdL_le xs n)
  have HIX := Lib.hid (fun v base W (hv : RowC W base v (chdL xs n)) (hc : W.cell? ⟨w.heap.size, 0, none⟩ = some (.slice A' n cap')) (hb : w.heap.size < W.heap.size) (hu : OwnI W lo' hi' (.slice A' n cap') ys) (hh : hi' ≤ W.heap.size) => indexFiner n w.heap.size A' ys cap' lo' hi' v (chdL xs n) base W hv (by have := chdL_le xs n; omega) hc hb hu hh hn' HIN.out)
  rw [HR.out] at HIX
  have HCF := Lib.hid (fun v base W (hv : RowC W base v (chdL xs n)) (hc : W.cell? ⟨w.heap.size, 0, none⟩ = some (.slice A' n cap')) (hb : w.heap.size < W.heap.size) (hu : OwnI W lo' hi' (.slice A' n cap') ys) (hh : hi' ≤ W.heap.size) => show Calls Try.prog 50 #[v, .func (.func 49) #[] #[.pointer (some ⟨w.heap.size, 0, none⟩)]] W (fun e w' => e = .returned (.bool (!fnB xs ys)) ∧ Below W.heap.size W w') from by
    have HX := Lib.hid (HIX.out v base W hv hc hb hu hh)
    obtain ⟨A2, c2, rfl⟩ := hv.form
    clear hv hc hb hu hh HIX
    generalize fnB xs ys = r at *
    go_enter Try.func50, Try.ntmps50
    go_wp2_with fail
    (with_reducible refine HX.out.mono ?_)
    rintro e w' ⟨⟨r, rfl, hr⟩, hb⟩
    have HR := Lib.hid hr
    have HB := Lib.hid hb
    clear hr hb
    go_wp2
    go_ret
    exact ⟨ret_bool HR.out, HB.out⟩)
  clear hv hu hx hn hn' HIX
  generalize fnB xs ys = r at *
  go_enter Try.func30, Try.ntmps30
  go_wp2_with fail
  (with_reducible refine HCH.out.mono ?_)
  rintro e w1 ⟨v, rfl, hrow, hb⟩
  obtain ⟨A2, c2, rfl⟩ := hrow.form
  have HROW := Lib.hid hrow
  have HB1 := Lib.hid hb
  have z1 := hb.size
  have HC1 := Lib.hid ((hb.cell (p := ⟨w.heap.size, 0, none⟩) (by show w.heap.size < _; rw [HSZ.out]; omega)).trans HCL.out)
  have HU1 := Lib.hid (HU.out.keep hb (by rw [HSZ.out]; omega))
  rw [HSZ.out] at z1
  have HB2 := Lib.hid (HBA.out.trans (hb.mono (by rw [HSZ.out]; omega)))
  clear hrow hb
  go_wp2_with fail
  (with_reducible refine (HCF.out _ _ _ HROW.out HC1.out (by omega) HU1.out (by omega)).mono ?_)
  rintro e w2 ⟨rfl, hb⟩
  have HB3 := Lib.hid (HB2.out.trans (hb.mono (by omega)))
  clear hb
  go_wp2
  go_ret
  exact ⟨ret_bool (by simp), HB3.out⟩

theorem isFinerI (A A' : Option Addr) (xs ys : List Int) (cap cap' lo hi lo' hi' : Nat) (w : World) (hv : OwnI w lo hi (.slice A xs.length cap) xs) (hu : OwnI w lo' hi' (.slice A' ys.length cap') ys) (hhi : hi ≤ w.heap.size) (hhu : hi' ≤ w.heap.size) (hwf : ∀ y ∈ xs, (Lit.int .i64 y).wf = true) (hwf' : ∀ y ∈ ys, (Lit.int .i64 y).wf = true) :
    Calls Try.prog 14 #[.slice A xs.length cap, .slice A' ys.length cap'] w fun e w' => e = .returned (.bool (finB xs ys)) ∧ Below w.heap.size w w' := by
  have HM := Lib.hid (arePartitionsI A A' xs ys cap cap' lo hi lo' hi' w hv hu hhi hhu hwf hwf')
  have HV := Lib.hid hv
  have HU := Lib.hid hu
  clear hv hu
  rcases hm : twoB xs ys with _ | _
  · have HP := Lib.hid (show finB xs ys = false by unfold finB; rw [hm]; rfl)
    rw [hm] at HM
    clear hm
    go_enter Try.func14, Try.ntmps14
    go_wp2_with fail
    (with_reducible refine HM.out.mono ?_)
    rintro e w' ⟨rfl, hb⟩
    go_wp2
    go_ret
    exact ⟨ret_bool HP.out.symm, hb⟩
  · obtain ⟨hx, hy, hlen, h8⟩ := two_yes hm
    have HP := Lib.hid (show finB xs ys = fnB xs ys by unfold finB; rw [hm]; rfl)
    rw [hm] at HM
    have HME := Lib.hid (fun W (h : OwnI W lo hi (.slice A xs.length cap) xs) (h' : OwnI W lo' hi' (.slice A' xs.length cap') ys) (hh : hi ≤ W.heap.size) (hh' : hi' ≤ W.heap.size) => isFinerP A A' xs ys xs.length cap cap' lo hi lo' hi' W h h' hh hh' hx rfl hlen.symm)
    rw [← hlen] at HM HU ⊢
    clear hx hy hlen hm
    go_enter Try.func14, Try.ntmps14
    go_wp2_with fail
    (with_reducible refine HM.out.mono ?_)
    rintro e w1 ⟨rfl, hb⟩
    have HB := Lib.hid hb
    have HV1 := Lib.hid (HV.out.keep hb hhi)
    have HU1 := Lib.hid (HU.out.keep hb hhu)
    have z1 := hb.size
    clear hb
    go_wp2_with fail
    (with_reducible refine (HME.out _ HV1.out HU1.out (by omega) (by omega)).mono ?_)
    rintro e w2 ⟨rfl, hb⟩
    have HB2 := Lib.hid (HB.out.trans (hb.mono z1))
    clear hb
    go_wp2
    go_ret
    exact ⟨ret_bool HP.out.symm, HB2.out⟩

end Go.Proofs.Ytpkfgjlbkiiciaa
