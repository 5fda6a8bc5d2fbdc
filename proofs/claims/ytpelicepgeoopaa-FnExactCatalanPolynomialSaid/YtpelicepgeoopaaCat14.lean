/- CatalanPolynomial, both functions. -/
import Derived.Test.YtpelicepgeoopaaBinI14
import Derived.Test.YtpelicepgeoopaaSpec14L
import Derived.Test.YtpelicepgeoopaaImpl14Y
import Derived.Test.YtpelicepgeoopaaDivAll14
import Derived.Test.YtpelicepgeoopaaNum14
namespace Go.Proofs.Ytpelicepgeoopaa
open Go.ChangeShapes Go.WideShapes Go.ChangeAt Go.RowKit
set_option linter.unusedVariables false

def cpOk (n : Int) : Bool := decide (0 ≤ n ∧ n ≤ 7)
def cpX (n : Nat) : List Int := dvX (gsP (2 * n) n) (List.replicate (n + 1) 1)
def cpP (n : Int) : List Int := if cpOk n = true then cpX n.toNat else []
set_option maxRecDepth 100000 in
theorem cp_ok : ∀ n, n < 8 → dvOk (gsP (2 * n) n) (List.replicate (n + 1) 1) = true := by decide +kernel
theorem cpP_len (n : Int) : (cpP n).length ≤ 1048576 := by
  unfold cpP
  split
  · have := dvX_len (gsP (2 * n.toNat) n.toNat) (List.replicate (n.toNat + 1) 1)
    unfold cpX; omega
  · simp

set_option maxRecDepth 100000 in
theorem catalanPolynomial (n : Int) (w : World) : Calls Try.prog 13 #[.int .i64 n] w (AnsIB (cpP n) (cpOk n) w) := by
  by_cases h : 0 ≤ n ∧ n ≤ 7
  · have HO := Lib.hid (show cpOk n = true from decide_eq_true h)
    have HP := Lib.hid (show cpP n = cpX n.toNat from if_pos HO.out)
    have HI := Lib.hid (fun W => l1In_yes n 0 7 W h.1 h.2)
    obtain ⟨m, rfl⟩ : ∃ m : Nat, n = (m : Int) := ⟨n.toNat, by omega⟩
    rw [Int.toNat_natCast] at HP
    obtain ⟨d, hd⟩ : ∃ d, d = 2 * m := ⟨_, rfl⟩
    have hdi : 2 * (m : Int) = (d : Int) := by omega
    obtain ⟨e, he⟩ : ∃ e, e = m + 1 := ⟨_, rfl⟩
    have hei : (m : Int) + 1 = (e : Int) := by omega
    have HC := Lib.hid (fun W => l14Binomial d m (by omega) (by omega) W)
    have HN := Lib.hid (fun W => l14Number e W (by omega))
    have hok := cp_ok m (by omega)
    obtain ⟨l1, l2⟩ := gs_len d (by omega) m (by omega)
    have HX := Lib.hid (show cpX m = dvX (gsP d m) (List.replicate e 1) by rw [hd, he]; rfl)
    rw [← hd, ← he] at hok
    generalize List.replicate e (1 : Int) = R at HN HX hok
    have HOK := Lib.hid hok
    have HL := Lib.hid (show (gsP d m).length ≤ 50 ∧ 0 < (gsP d m).length by omega)
    have he8 : e ≤ 8 := by omega
    have hd14 : d ≤ 14 := by omega
    clear h hok l1 l2 hd he
    go_enter Try.func13, Try.ntmps13
    go_wp2_with fail
    (with_reducible refine (HI.out _).mono ?_)
    rintro e w' ⟨rfl, rfl⟩
    go_wp2_with fail
    (with_reducible refine (HC.out _).mono ?_)
    rintro e w1 ⟨v1, rfl, ho1, hb1⟩
    obtain ⟨A1, c1, e1, -⟩ := id ho1
    subst e1
    have HO1 := Lib.hid ho1
    have HB1 := Lib.hid hb1
    have hz1 := hb1.size
    clear ho1 hb1
    go_wp2_with fail
    (with_reducible refine (HN.out _).mono ?_)
    rintro e w2 ⟨v2, rfl, ho2, hb2⟩
    obtain ⟨A2, c2, e2, -⟩ := id ho2
    subst e2
    have hz2 := hb2.size
    have HD := Lib.hid (l14Divide A1 A2 _ _ c1 c2 _ _ _ _ w2 (HO1.out.keep hb2 (Nat.le_refl _)) ho2 hz2 (Nat.le_refl _) HOK.out HL.out.2)
    have HB2 := Lib.hid (HB1.out.trans (hb2.mono hz1))
    clear ho2 hb2
    go_wp2_with fail
    (with_reducible refine HD.out.mono ?_)
    rintro e w3 ⟨v3, u3, rfl, ho3, hb3⟩
    have HO3 := Lib.hid (ho3.wide (show w.heap.size ≤ w2.heap.size by omega) (Nat.le_refl _))
    have HB3 := Lib.hid (HB2.out.trans (hb3.mono (by omega)))
    clear ho3 hb3
    go_wp2
    go_ret2
    exact ⟨_, ret_ib rfl HO.out.symm, by rw [HP.out, HX.out]; exact HO3.out, HB3.out⟩
  · have HO := Lib.hid (show cpOk n = false from decide_eq_false h)
    have HP := Lib.hid (show cpP n = [] from if_neg (by simp [HO.out]))
    have HI := Lib.hid (fun W => l1In_not n 0 7 W h)
    clear h
    go_enter Try.func13, Try.ntmps13
    go_wp2_with fail
    (with_reducible refine (HI.out _).mono ?_)
    rintro e w' ⟨rfl, rfl⟩
    go_wp2
    go_ret2
    exact ⟨_, ret_ib rfl HO.out.symm, by rw [HP.out]; exact ⟨_, _, rfl, .inl rfl⟩, (Below.refl _ _).alloc (Nat.le_refl _) _⟩

set_option maxRecDepth 100000 in
theorem catalanPolynomialI (n : Int) (w : World) : Calls Try.prog 14 #[.int .i64 n] w (AnsIB (cpP n) (cpOk n) w) := by
  by_cases h : 0 ≤ n ∧ n ≤ 7
  · have HO := Lib.hid (show cpOk n = true from decide_eq_true h)
    have HP := Lib.hid (show cpP n = cpX n.toNat from if_pos HO.out)
    obtain ⟨m, rfl⟩ : ∃ m : Nat, n = (m : Int) := ⟨n.toNat, by omega⟩
    rw [Int.toNat_natCast] at HP
    obtain ⟨d, hd⟩ : ∃ d, d = 2 * m := ⟨_, rfl⟩
    have hdi : 2 * (m : Int) = (d : Int) := by omega
    obtain ⟨e, he⟩ : ∃ e, e = m + 1 := ⟨_, rfl⟩
    have hei : (m : Int) + 1 = (e : Int) := by omega
    have hn0 : ¬ ((m : Int) < 0) := by omega
    have hn7 : ¬ ((7 : Int) < (m : Int)) := by omega
    have HC := Lib.hid (fun W => gaussianF d m (by omega) (by omega) W)
    have hnp : npP (e : Int) = List.replicate e 1 ∧ npOk (e : Int) = true := by
      have h1 : npOk (e : Int) = true := decide_eq_true (by omega)
      exact ⟨by unfold npP; rw [if_pos h1, Int.toNat_natCast], h1⟩
    have HN := Lib.hid (fun W => numberPolynomialI (e : Int) W)
    rw [hnp.1, hnp.2] at HN
    have hok := cp_ok m (by omega)
    obtain ⟨l1, l2⟩ := gs_len d (by omega) m (by omega)
    have HX := Lib.hid (show cpX m = dvX (gsP d m) (List.replicate e 1) by rw [hd, he]; rfl)
    rw [← hd, ← he] at hok
    generalize List.replicate e (1 : Int) = R at HN HX hok
    have HOK := Lib.hid hok
    have HL := Lib.hid (show (gsP d m).length ≤ 50 ∧ 0 < (gsP d m).length by omega)
    have he8 : e ≤ 8 := by omega
    have hd14 : d ≤ 14 := by omega
    clear h hok l1 l2 hd he hnp
    go_enter Try.func14, Try.ntmps14
    go_wp2_with fail
    (with_reducible refine (HN.out _).mono ?_)
    rintro e w1 ⟨v1, rfl, ho1, hb1⟩
    obtain ⟨A1, c1, e1, -⟩ := id ho1
    subst e1
    have HO1 := Lib.hid ho1
    have HB1 := Lib.hid hb1
    have hz1 := hb1.size
    clear ho1 hb1
    go_wp2_with fail
    (with_reducible refine (HC.out _).mono ?_)
    rintro e w2 ⟨A2, c2, rfl, hc2, ho2, hb2⟩
    have hz2 := hb2.size
    have HD := Lib.hid (dividePolynomialsI_cap A2 A1 _ _ c2 c1 _ _ _ _ w2 ho2 (HO1.out.keep hb2 (Nat.le_refl _)) (Nat.le_refl _) hz2 hc2 HOK.out HL.out.2)
    have HB2 := Lib.hid (HB1.out.trans (hb2.mono hz1))
    clear ho2 hb2
    go_wp2_with fail
    (with_reducible refine HD.out.mono ?_)
    rintro e w3 ⟨g3, u3, rfl, ho3, hb3⟩
    have HO3 := Lib.hid (ho3.wide (show w.heap.size ≤ w2.heap.size by omega) (Nat.le_refl _))
    have HB3 := Lib.hid (HB2.out.trans (hb3.mono (by omega)))
    clear ho3 hb3
    go_wp2
    go_ret2
    exact ⟨_, ret_ib rfl HO.out.symm, by rw [HP.out, HX.out]; exact HO3.out, HB3.out⟩
  · have HO := Lib.hid (show cpOk n = false from decide_eq_false h)
    have HP := Lib.hid (show cpP n = [] from if_neg (by simp [HO.out]))
    by_cases h2 : n < 0
    · clear h
      go_enter Try.func14, Try.ntmps14
      go_wp2
      go_ret2
      exact ⟨_, ret_ib rfl HO.out.symm, by rw [HP.out]; exact ⟨_, _, rfl, .inl rfl⟩, Below.refl _ _⟩
    · have h3 : 7 < n := by omega
      clear h
      go_enter Try.func14, Try.ntmps14
      go_wp2
      go_ret2
      exact ⟨_, ret_ib rfl HO.out.symm, by rw [HP.out]; exact ⟨_, _, rfl, .inl rfl⟩, Below.refl _ _⟩

end Go.Proofs.Ytpelicepgeoopaa
