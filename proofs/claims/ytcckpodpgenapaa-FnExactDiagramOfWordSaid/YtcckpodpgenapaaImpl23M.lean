/- The program's MultiplyDiagrams: strands by two functions that call each other. -/
import Derived.Test.YtcckpodpgenapaaSpec23M
import Derived.Test.YtcckpodpgenapaaImpl23A
import Derived.Test.YtcckpodpgenapaaLoop23
import Derived.OwnWalk
import Derived.Deep.DeepCutAuto
import Derived.Deep.RegionLaw
import Derived.BigRegion
namespace Go.Proofs.Ytcckpodpgenapaa
open Go.ChangeShapes Go.WideShapes Go.ChangeAt Go.RowKit
set_option linter.unusedVariables false

/-- Block B is a seam of two diagrams and of what has been passed. -/
def SmB (w : World) (B g H : Nat) (U L : Value) : Prop := w.heap[B]? = some (.cells #[U, L, .slice (some ⟨g, 0, none⟩) H H] 54 (0, 0))
theorem SmB.c0 {w : World} {B g H : Nat} {U L : Value} (h : SmB w B g H U L) : w.cell? ⟨B, 0, none⟩ = some U := by simp [World.cell?, show w.heap[B]? = _ from h]
theorem SmB.c1 {w : World} {B g H : Nat} {U L : Value} (h : SmB w B g H U L) : w.cell? ⟨B, 1, none⟩ = some L := by simp [World.cell?, show w.heap[B]? = _ from h]
theorem SmB.c2 {w : World} {B g H : Nat} {U L : Value} (h : SmB w B g H U L) : w.cell? ⟨B, 2, none⟩ = some (.slice (some ⟨g, 0, none⟩) H H) := by simp [World.cell?, show w.heap[B]? = _ from h]
theorem SmB.lt {w : World} {B g H : Nat} {U L : Value} (h : SmB w B g H U L) : B < w.heap.size := (Array.getElem?_eq_some_iff.1 h).1
theorem SmB.far {w w' : World} {B g H k : Nat} {U L : Value} (h : SmB w B g H U L) (hg : w.grownBy w' (some k)) (hne : B ≠ k) : SmB w' B g H U L :=
  (hg.block B h.lt (by simpa using hne)).trans h
theorem OwnI.far {w w' : World} {lo hi k : Nat} {v : Value} {xs : List Int} (h : OwnI w lo hi v xs) (hg : w.grownBy w' (some k)) (hd : k < lo ∨ hi ≤ k) : OwnI w' lo hi v xs := by
  obtain ⟨A, cap, e, h⟩ := h
  refine ⟨A, cap, e, ?_⟩
  rcases h with h | ⟨g, C, h1, h2, h3, h4, h5⟩
  · exact .inl h
  · exact .inr ⟨g, C, h1, h2, h3, (hg.block g (Array.getElem?_eq_some_iff.1 h4).1 (by simp; omega)).trans h4, h5⟩
theorem grown_tr {a b c : World} {r : Option Nat} (h : a.grownBy b r) (k : b.grownBy c r) : a.grownBy c r :=
  ⟨k.os.trans h.os, k.tape.trans h.tape, k.output.trans h.output, Nat.le_trans h.size k.size, fun i hi hne => (k.block i (Nat.lt_of_lt_of_le hi h.size) hne).trans (h.block i hi hne)⟩
theorem grown_set (w : World) (g j : Nat) (v : Value) : w.grownBy (w.setCell ⟨g, j, none⟩ v) (some g) :=
  ⟨rfl, rfl, rfl, by simp [World.setCell], fun k hk hne => Below.heap_setCell w ⟨g, j, none⟩ v k (by simpa using hne)⟩

theorem isSewn (B g H p : Nat) (U L : Value) (w : World) (h : SmB w B g H U L) :
    Calls Try.prog 59 #[.pointer (some ⟨B, 0, none⟩), .int .i64 (p : Int)] w fun e w' => e = .returned (.bool (decide (p < H))) ∧ w = w' := by
  have c2 := h.c2
  clear h
  go_enter Try.func59, Try.ntmps59
  go_wp2
  go_ret
  exact ⟨ret_bool (by first | rfl | simp), rfl⟩

def thN' (t : Bool) : Nat := if t = true then 60 else 58

set_option maxRecDepth 100000 in
set_option maxHeartbeats 3200000 in
theorem through (B g H N : Nat) (AU AL : Option Addr) (cu cl lo hi lo' hi' : Nat) (us bs : List Int) (u b : Nat → Nat) (hNH : H ≤ N) (hN16 : N ≤ 16) (hgB : g ≠ B) (hdu : g < lo ∨ hi ≤ g) (hdl : g < lo' ∨ hi' ≤ g)
    (hul : us.length = N) (hbl : bs.length = N) (hua : ∀ q, q < N → us.getD q 0 = (u q : Int)) (hba : ∀ q, q < N → bs.getD q 0 = (b q : Int)) (hiu : Inv N u) (hib : Inv N b) :
    ∀ (k : Nat) (t : Bool) (p : Nat) (s : Nat → Bool) (w : World), en u b H k t p → p < N → SmB w B g H (.slice AU N cu) (.slice AL N cl) → OwnI w lo hi (.slice AU N cu) us → OwnI w lo' hi' (.slice AL N cl) bs → TkB w g H s →
      Calls Try.prog (thN' t) #[.pointer (some ⟨B, 0, none⟩), .int .i64 (p : Int)] w fun e w' => e = .returned (.int .i64 ((wk u b N H k t p s).1 : Int)) ∧ TkB w' g H (wk u b N H k t p s).2 ∧ w.grownBy w' (some g) := by
  intro k
  induction k with
  | zero => intro t p s w h; exact absurd h id
  | succ k ih =>
    intro t p s w hen hp hsm ho1 ho2 htk
    have IH := Lib.hid (fun t' p' s' w' (h1 : en u b H k t' p') (h2 : p' < N) (h3 : SmB w' B g H (.slice AU N cu) (.slice AL N cl)) (h4 : OwnI w' lo hi (.slice AU N cu) us) (h5 : OwnI w' lo' hi' (.slice AL N cl) bs) (h6 : TkB w' g H s') => ih t' p' s' w' h1 h2 h3 h4 h5 h6)
    clear ih
    have hfi := (fT_inv hiu hib t hp).1
    have HSM := Lib.hid hsm
    have HO1 := Lib.hid ho1
    have HO2 := Lib.hid ho2
    have HTK := Lib.hid htk
    have hSW := Lib.hid (fun e => isSewn B g H e (.slice AU N cu) (.slice AL N cl) w hsm)
    have c0 := hsm.c0
    have c1 := hsm.c1
    have c2 := hsm.c2
    rcases t with _ | _
    · obtain ⟨g1, p1, e1, -, -, hc1, -⟩ := ho2.cell (j := p) (by omega)
      simp only [Value.slice.injEq] at e1
      obtain ⟨rfl, -, -⟩ := e1
      rw [hba p hp] at hc1
      have HEN := Lib.hid hen
      have HWO := Lib.hid (fun (h : H ≤ b p) => show wk u b N H (k + 1) false p s = (b p, s) from wk_out (t := false) h)
      have HWI := Lib.hid (fun (h : b p < H) => show wk u b N H (k + 1) false p s = wk u b N H k true (b p) (upb s (b p)) from wk_in (t := false) h)
      have HEI := Lib.hid (fun (h : b p < H) => show en u b H k true (b p) from en_in (t := false) hen h)
      have hfi : b p < N := hfi
      generalize b p = e at *
      have hpi : (p : Int) < (N : Int) := by omega
      clear hsm ho1 ho2 htk hen
      show Calls Try.prog 58 _ _ _
      by_cases h2 : H ≤ e
      · have HR := Lib.hid (HWO.out h2)
        have hd : decide (e < H) = false := decide_eq_false (by omega)
        rw [HR.out]
        have HSE := Lib.hid (hSW.out e)
        rw [hd] at HSE
        go_enter Try.func58, Try.ntmps58
        go_wp2_with fail
        (with_reducible refine HSE.out.mono ?_)
        rintro e' w' ⟨rfl, rfl⟩
        go_wp2
        go_ret
        exact ⟨rfl, HTK.out, World.grownBy.refl _ _⟩
      · have heH : e < H := by omega
        have HR := Lib.hid (HWI.out heH)
        have hd : decide (e < H) = true := decide_eq_true heH
        rw [HR.out]
        have HSE := Lib.hid (hSW.out e)
        rw [hd] at HSE
        obtain ⟨hc3, hf3⟩ := HTK.out.cell (q := e) heH
        have heHi : (e : Int) < (H : Int) := by omega
        have hgs := grown_set w g e (.bool true)
        have HGS := Lib.hid hgs
        have HIH := Lib.hid (IH.out true e (upb s e) (w.setCell ⟨g, e, none⟩ (.bool true)) (HEI.out heH) hfi (HSM.out.far hgs (Ne.symm hgB)) (HO1.out.far hgs hdu) (HO2.out.far hgs hdl) (HTK.out.upb heH))
        rw [show thN' true = 60 from rfl] at HIH
        generalize wk u b N H k true e (upb s e) = R at *
        generalize s e = y0 at hc3
        clear hgs
        go_enter Try.func58, Try.ntmps58
        go_wp2_with fail
        (with_reducible refine HSE.out.mono ?_)
        rintro e' w' ⟨rfl, rfl⟩
        go_wp2_with fail
        (with_reducible refine HIH.out.mono ?_)
        rintro e' w' ⟨rfl, ht, hg⟩
        have HT := Lib.hid ht
        have HG := Lib.hid hg
        clear ht hg
        go_wp2
        go_ret
        exact ⟨rfl, HT.out, grown_tr HGS.out HG.out⟩
    · obtain ⟨g1, p1, e1, -, -, hc1, -⟩ := ho1.cell (j := p) (by omega)
      simp only [Value.slice.injEq] at e1
      obtain ⟨rfl, -, -⟩ := e1
      rw [hua p hp] at hc1
      have HWO := Lib.hid (fun (h : H ≤ u p) => show wk u b N H (k + 1) true p s = (N - 1 - u p, s) from wk_out (t := true) h)
      have HWI := Lib.hid (fun (h : u p < H) => show wk u b N H (k + 1) true p s = wk u b N H k false (u p) (upb s (u p)) from wk_in (t := true) h)
      have HEI := Lib.hid (fun (h : u p < H) => show en u b H k false (u p) from en_in (t := true) hen h)
      have hfi : u p < N := hfi
      generalize u p = e at *
      have hpi : (p : Int) < (N : Int) := by omega
      clear hsm ho1 ho2 htk hen
      show Calls Try.prog 60 _ _ _
      by_cases h2 : H ≤ e
      · have HR := Lib.hid (HWO.out h2)
        have hd : decide (e < H) = false := decide_eq_false (by omega)
        rw [HR.out]
        have HSE := Lib.hid (hSW.out e)
        rw [hd] at HSE
        have HOP := Lib.hid (oppositeI (some ⟨g1, 0, none⟩) N cu (e : Int) w (by omega) (by omega) (by omega))
        rw [show (N : Int) - 1 - (e : Int) = ((N - 1 - e : Nat) : Int) by omega] at HOP
        go_enter Try.func60, Try.ntmps60
        go_wp2_with fail
        (with_reducible refine HSE.out.mono ?_)
        rintro e' w' ⟨rfl, rfl⟩
        go_wp2_with fail
        (with_reducible refine HOP.out.mono ?_)
        rintro e' w' ⟨rfl, rfl⟩
        go_wp2
        go_ret
        exact ⟨rfl, HTK.out, World.grownBy.refl _ _⟩
      · have heH : e < H := by omega
        have HR := Lib.hid (HWI.out heH)
        have hd : decide (e < H) = true := decide_eq_true heH
        rw [HR.out]
        have HSE := Lib.hid (hSW.out e)
        rw [hd] at HSE
        obtain ⟨hc3, hf3⟩ := HTK.out.cell (q := e) heH
        have heHi : (e : Int) < (H : Int) := by omega
        have hgs := grown_set w g e (.bool true)
        have HGS := Lib.hid hgs
        have HIH := Lib.hid (IH.out false e (upb s e) (w.setCell ⟨g, e, none⟩ (.bool true)) (HEI.out heH) hfi (HSM.out.far hgs (Ne.symm hgB)) (HO1.out.far hgs hdu) (HO2.out.far hgs hdl) (HTK.out.upb heH))
        rw [show thN' false = 58 from rfl] at HIH
        generalize wk u b N H k false e (upb s e) = R at *
        generalize s e = y0 at hc3
        clear hgs
        go_enter Try.func60, Try.ntmps60
        go_wp2_with fail
        (with_reducible refine HSE.out.mono ?_)
        rintro e' w' ⟨rfl, rfl⟩
        go_wp2_with fail
        (with_reducible refine HIH.out.mono ?_)
        rintro e' w' ⟨rfl, ht, hg⟩
        have HT := Lib.hid ht
        have HG := Lib.hid hg
        clear ht hg
        go_wp2
        go_ret
        exact ⟨rfl, HT.out, grown_tr HGS.out HG.out⟩

end Go.Proofs.Ytcckpodpgenapaa
