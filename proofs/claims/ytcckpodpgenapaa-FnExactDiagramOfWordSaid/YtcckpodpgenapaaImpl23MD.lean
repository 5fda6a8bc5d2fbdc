/- The program's MultiplyDiagrams. -/
import Derived.Test.YtcckpodpgenapaaImpl23MB
import Derived.OwnWalk
namespace Go.Proofs.Ytcckpodpgenapaa
open Go.ChangeShapes Go.WideShapes Go.ChangeAt Go.RowKit
set_option linter.unusedVariables false

set_option maxRecDepth 100000 in
set_option maxHeartbeats 3200000 in
theorem multiplyDiagramsI_yes (A A' : Option Addr) (xs ys : List Int) (cap cap' lo hi lo' hi' : Nat) (w : World) (hv : OwnI w lo hi (.slice A xs.length cap) xs) (hu : OwnI w lo' hi' (.slice A' ys.length cap') ys) (hhi : hi ≤ w.heap.size) (hhu : hi' ≤ w.heap.size) (hl : xs.length ≤ 1099511627776) (hl' : ys.length ≤ 1099511627776) (hok : mdOk xs ys = true) :
    Calls Try.prog 26 #[.slice A xs.length cap, .slice A' ys.length cap'] w (AnsInB (mdP xs ys) (mdN xs ys) true w) := by
  have HMX := Lib.hid (isDiagramI A xs cap lo hi w hv hhi hl)
  have HMY := Lib.hid (fun W (h : OwnI W lo' hi' (.slice A' ys.length cap') ys) (hh : hi' ≤ W.heap.size) => isDiagramI A' ys cap' lo' hi' W h hh hl')
  obtain ⟨hmx, hmy, hlen, h2, h16, hdx, hdy⟩ := mdOk_yes hok
  rw [hdx] at HMX
  rw [hdy] at HMY
  have HU := Lib.hid hu
  have HV := Lib.hid hv
  obtain ⟨N, hN⟩ : ∃ N, N = xs.length := ⟨_, rfl⟩
  have HTM := Lib.hid (fun W (h1 : OwnI W lo hi (.slice A xs.length cap) xs) (h2 : OwnI W lo' hi' (.slice A' ys.length cap') ys) (h3 : hi ≤ W.heap.size) (h4 : hi' ≤ W.heap.size) => timesI A A' xs ys N cap cap' lo hi lo' hi' W (by rw [hN]; exact h1) (by rw [hN, hlen]; exact h2) h3 h4 hok hN)
  have hne : ((N : Int) != (N : Int)) = false := by simp
  rw [← hN] at HMX HV HTM ⊢
  rw [← hlen, ← hN] at HMY HU HTM ⊢
  clear hv hu hmx hmy hlen h2 h16 hdx hdy hok hl hl' hN
  go_enter Try.func26, Try.ntmps26
  go_wp2_with fail
  (with_reducible refine HMX.out.mono ?_)
  rintro e w1 ⟨rfl, hb⟩
  have HB := Lib.hid hb
  have HU1 := Lib.hid (HU.out.keep hb hhu)
  have HV1 := Lib.hid (HV.out.keep hb hhi)
  have z1 := hb.size
  clear hb
  go_wp2_with fail
  (with_reducible refine (HMY.out _ HU1.out (by omega)).mono ?_)
  rintro e w2 ⟨rfl, hb⟩
  have HB2 := Lib.hid (HB.out.trans (hb.mono z1))
  have HU2 := Lib.hid (HU1.out.keep hb (by omega))
  have HV2 := Lib.hid (HV1.out.keep hb (by omega))
  have z2 := hb.size
  clear hb
  go_wp2_with fail
  (with_reducible refine (HTM.out _ HV2.out HU2.out (by omega) (by omega)).mono ?_)
  rintro e w3 ⟨v3, rfl, ho, hb⟩
  have HO := Lib.hid ho
  have HB3 := Lib.hid (HB2.out.trans (hb.mono (by omega)))
  clear ho hb
  go_wp2
  go_ret3
  exact ⟨_, rfl, HO.out.wide (by omega) (Nat.le_refl _), HB3.out⟩

theorem multiplyDiagramsI_no (A A' : Option Addr) (xs ys : List Int) (cap cap' lo hi lo' hi' : Nat) (w : World) (hv : OwnI w lo hi (.slice A xs.length cap) xs) (hu : OwnI w lo' hi' (.slice A' ys.length cap') ys) (hhi : hi ≤ w.heap.size) (hhu : hi' ≤ w.heap.size) (hl : xs.length ≤ 1099511627776) (hl' : ys.length ≤ 1099511627776) (hok : mdOk xs ys = false) :
    Calls Try.prog 26 #[.slice A xs.length cap, .slice A' ys.length cap'] w (AnsInB (mdP xs ys) (mdN xs ys) false w) := by
  have HP := Lib.hid (show mdP xs ys = [] from if_neg (by rw [hok]; simp))
  have HZ := Lib.hid (show mdN xs ys = 0 from if_neg (by rw [hok]; simp))
  have HMX := Lib.hid (isDiagramI A xs cap lo hi w hv hhi hl)
  have HMY := Lib.hid (fun W (h : OwnI W lo' hi' (.slice A' ys.length cap') ys) (hh : hi' ≤ W.heap.size) => isDiagramI A' ys cap' lo' hi' W h hh hl')
  have HU := Lib.hid hu
  clear hv hu
  rcases hx : diaB xs with _ | _
  · rw [hx] at HMX
    clear hx hok
    go_enter Try.func26, Try.ntmps26
    go_wp2_with fail
    (with_reducible refine HMX.out.mono ?_)
    rintro e w1 ⟨rfl, hb⟩
    have HB := Lib.hid hb
    clear hb
    go_wp2
    go_ret3
    exact ⟨_, ret_inb rfl HZ.out.symm rfl, by rw [HP.out]; exact ⟨_, _, rfl, .inl rfl⟩, HB.out⟩
  rcases hy : diaB ys with _ | _
  · rw [hx] at HMX
    rw [hy] at HMY
    clear hx hy hok
    go_enter Try.func26, Try.ntmps26
    go_wp2_with fail
    (with_reducible refine HMX.out.mono ?_)
    rintro e w1 ⟨rfl, hb⟩
    have HB := Lib.hid hb
    have HU1 := Lib.hid (HU.out.keep hb hhu)
    have z1 := hb.size
    clear hb
    go_wp2_with fail
    (with_reducible refine (HMY.out _ HU1.out (by omega)).mono ?_)
    rintro e w2 ⟨rfl, hb⟩
    have HB2 := Lib.hid (HB.out.trans (hb.mono z1))
    clear hb
    go_wp2
    go_ret3
    exact ⟨_, ret_inb rfl HZ.out.symm rfl, by rw [HP.out]; exact ⟨_, _, rfl, .inl rfl⟩, HB2.out⟩
  · have hne : ((xs.length : Int) != (ys.length : Int)) = true := by
      have : xs.length ≠ ys.length := fun e => by unfold mdOk at hok; rw [hx, hy, decide_eq_true e] at hok; simp at hok
      simp; omega
    rw [hx] at HMX
    rw [hy] at HMY
    clear hx hy hok
    go_enter Try.func26, Try.ntmps26
    go_wp2_with fail
    (with_reducible refine HMX.out.mono ?_)
    rintro e w1 ⟨rfl, hb⟩
    have HB := Lib.hid hb
    have HU1 := Lib.hid (HU.out.keep hb hhu)
    have z1 := hb.size
    clear hb
    go_wp2_with fail
    (with_reducible refine (HMY.out _ HU1.out (by omega)).mono ?_)
    rintro e w2 ⟨rfl, hb⟩
    have HB2 := Lib.hid (HB.out.trans (hb.mono z1))
    clear hb
    go_wp2
    go_ret3
    exact ⟨_, ret_inb rfl HZ.out.symm rfl, by rw [HP.out]; exact ⟨_, _, rfl, .inl rfl⟩, HB2.out⟩
theorem multiplyDiagramsI (A A' : Option Addr) (xs ys : List Int) (cap cap' lo hi lo' hi' : Nat) (w : World) (hv : OwnI w lo hi (.slice A xs.length cap) xs) (hu : OwnI w lo' hi' (.slice A' ys.length cap') ys) (hhi : hi ≤ w.heap.size) (hhu : hi' ≤ w.heap.size) (hl : xs.length ≤ 1099511627776) (hl' : ys.length ≤ 1099511627776) :
    Calls Try.prog 26 #[.slice A xs.length cap, .slice A' ys.length cap'] w (AnsInB (mdP xs ys) (mdN xs ys) (mdOk xs ys) w) := by
  rcases hok : mdOk xs ys with _ | _
  · exact multiplyDiagramsI_no A A' xs ys cap cap' lo hi lo' hi' w hv hu hhi hhu hl hl' hok
  · exact multiplyDiagramsI_yes A A' xs ys cap cap' lo hi lo' hi' w hv hu hhi hhu hl hl' hok

end Go.Proofs.Ytcckpodpgenapaa
