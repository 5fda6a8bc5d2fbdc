/- DividePolynomials, both functions, for all arguments. -/
import Derived.Test.YtpelicepgeoopaaNil14S
import Derived.Test.YtpelicepgeoopaaNil14I
import Derived.Test.YtpelicepgeoopaaNilNone14
namespace Go.Proofs.Ytpelicepgeoopaa
open Go.ChangeShapes Go.WideShapes Go.ChangeAt Go.RowKit
set_option linter.unusedVariables false

theorem dividePolynomialsI (A A' : Option Addr) (xs ys : List Int) (cap cap' lo hi lo' hi' : Nat) (w : World) (hv : OwnI w lo hi (.slice A xs.length cap) xs) (hu : OwnI w lo' hi' (.slice A' ys.length cap') ys) (hhi : hi ≤ w.heap.size) (hhu : hi' ≤ w.heap.size) (hcap : xs.length ≤ cap) (hl : xs.length ≤ 1099511627776) (hl' : ys.length ≤ 1099511627776) :
    Calls Try.prog 28 #[.slice A xs.length cap, .slice A' ys.length cap'] w (AnsP (dvX xs ys) (dvY xs ys) (dvOk xs ys) w) := by
  rcases hf : facB xs with _ | _
  · exact dividePolynomialsI_no A A' xs ys cap cap' lo hi lo' hi' w hv hu hhi hhu hcap hl hl' (.inl hf)
  rcases hd : disB ys with _ | _
  · exact dividePolynomialsI_no A A' xs ys cap cap' lo hi lo' hi' w hv hu hhi hhu hcap hl hl' (.inr hd)
  by_cases h0 : 0 < xs.length
  · exact dividePolynomialsI_yes A A' xs ys cap cap' lo hi lo' hi' w hv hu hhi hhu hcap hf hd h0
  · have hn : xs.length = 0 := by omega
    cases A with
    | none =>
      have h := dividePolynomialsI_none A' ys xs.length cap cap' lo' hi' w hu hhu hd hn
      rw [List.eq_nil_of_length_eq_zero hn] at h ⊢
      exact h
    | some ad => exact dividePolynomialsI_emp ad A' xs ys cap cap' lo hi lo' hi' w hv hu hhi hhu hcap hf hd hn

end Go.Proofs.Ytpelicepgeoopaa
