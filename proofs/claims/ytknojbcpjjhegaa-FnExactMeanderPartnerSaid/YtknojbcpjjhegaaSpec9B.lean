/- The contracts of the model's TurnMatching and PathOfMatching. -/
import Derived.Test.YtknojbcpjjhegaaSpec9A
import Derived.Test.YtknojbcpjjhegaaSpec3A
import Derived.BigRegion
namespace Go.Proofs.Ytknojbcpjjhegaa
open Go.ChangeShapes Go.WideShapes Go.ChangeAt Go.RowKit
open Go.PlainAid (bt bt_nonneg bt_le get_bt)
set_option linter.unusedVariables false

/-- Where a point goes, and where it came from. -/
def tgt (n K i : Nat) : Nat := if K ≤ i then i - K else i + n - K
def src (n K q : Nat) : Nat := if q + K < n then q + K else q + K - n
theorem src_tgt {n K i : Nat} (hi : i < n) (hK : K < n) : src n K (tgt n K i) = i := by unfold src tgt; split <;> split <;> omega
theorem tgt_of {n K i q : Nat} (hq : q < n) (hK : K < n) (h : src n K q = i) : q = tgt n K i := by unfold src at h; unfold tgt; split at h <;> split <;> omega
theorem tgt_lt {n K i : Nat} (hi : i < n) (hK : K < n) : tgt n K i < n := by unfold tgt; split <;> omega
def tuV (n K : Nat) (y : Int) : Int := if (K : Int) ≤ y then y - K else y - K + n
theorem tuV_mod {n K : Nat} {y : Int} (h0 : 0 ≤ y) (h1 : y < n) (hK : K < n) : (y - (K : Int) + (n : Int)) % (n : Int) = tuV n K y := by
  unfold tuV
  split
  · rw [show y - (K : Int) + n = (y - K) + n * 1 by omega, Int.add_mul_emod_self_left, Int.emod_eq_of_lt (by omega) (by omega)]
  · rw [Int.emod_eq_of_lt (by omega) (by omega)]
theorem tuV_tgt {n K i : Nat} (hi : i < n) (hK : K < n) : tuV n K (i : Int) = (tgt n K i : Int) := by unfold tuV tgt; split <;> split <;> omega
/-- The matching carried on by K. -/
def turnL (xs : List Int) (K : Nat) : List Int := (List.range xs.length).map fun q => tuV xs.length K (xs.getD (src xs.length K q) 0)
theorem turnL_len (xs : List Int) (K : Nat) : (turnL xs K).length = xs.length := by simp [turnL]
theorem turnL_at (xs : List Int) (K q : Nat) (h : q < xs.length) : (turnL xs K).getD q 0 = tuV xs.length K (xs.getD (src xs.length K q) 0) := by simp [turnL, List.getD, h]
/-- The row when the first i points have been carried. -/
def tuF (xs : List Int) (K i : Nat) : Nat → Int := fun q => if src xs.length K q < i then tuV xs.length K (xs.getD (src xs.length K q) 0) else 0
def turnOk (xs : List Int) (k : Int) : Bool := matchP xs && decide (0 ≤ k ∧ k ≤ max 0 ((xs.length : Int) - 1))
def turnP (xs : List Int) (k : Int) : List Int := if turnOk xs k = true then turnL xs k.toNat else []
theorem OwnI.of_row' {w : World} {lo hi g d c : Nat} {f : Nat → Int} {xs : List Int} (h : RowI w g d f) (hl : xs.length = d + 1) (hx : ∀ j, j ≤ d → xs.getD j 0 = f j) (h1 : lo ≤ g) (h2 : g < hi) : OwnI w lo hi (.slice (some ⟨g, 0, none⟩) (d + 1) c) xs := by
  obtain ⟨C, h3, h4⟩ := h
  refine ⟨_, c, by rw [hl], .inr ⟨g, C, h1, h2, rfl, h3, fun j hj => ?_⟩⟩
  rw [h4 j (by omega), hx j (by omega)]
theorem ret_ib {A A' : Value} {x y : Bool} (h : A = A') (h' : x = y) : Ending.returned (.tuple #[A, .bool x]) = .returned (.tuple #[A', .bool y]) := by rw [h, h']

/-- u for each point whose partner comes later. -/
def pmL (xs : List Int) : Nat → List UInt8
  | 0 => []
  | j + 1 => pmL xs j ++ [if (j : Int) < xs.getD j 0 then 117 else 100]
theorem pmL_len (xs : List Int) (j : Nat) : (pmL xs j).length = j := by
  induction j with
  | zero => rfl
  | succ j ih => rw [pmL, List.length_append, ih]; rfl
def pomP (xs : List Int) : ByteArray := if (crossP xs == 0) = true then ⟨(pmL xs xs.length).toArray⟩ else ⟨#[]⟩
theorem cross_short {xs : List Int} (h : (crossP xs == 0) = true) : xs.length ≤ 16 := by
  unfold crossP at h
  rcases hm : matchP xs with _ | _
  · rw [hm] at h; simp at h
  · exact (match_yes hm).1

set_option maxRecDepth 100000 in
set_option maxHeartbeats 1600000 in
theorem pathOfMatching (v : Value) (xs : List Int) (lo hi : Nat) (w : World) (hv : OwnI w lo hi v xs) (hhi : hi ≤ w.heap.size) (hl : xs.length ≤ 1099511627776) :
    Calls Try.prog 65 #[v] w fun e w' => e = .returned (.tuple #[.string (pomP xs), .bool (crossP xs == 0)]) ∧ Below w.heap.size w w' := by
  have HN := Lib.hid (fun w' (h : OwnI w' lo hi v xs) => noncrossing v xs lo hi w' h hl)
  obtain ⟨A1, c1, rfl, k1⟩ := id hv
  clear k1
  have HV := Lib.hid hv
  clear hv
  rcases hc : crossP xs == 0 with _ | _
  · have HP := Lib.hid (show pomP xs = ⟨#[]⟩ from if_neg (by simp [hc]))
    rw [hc] at HN
    clear hc
    go_enter Try.func65, Try.ntmps65
    go_wp2
    refine wp_loop_rounds 1 ?_
    rw [rounds_succ]
    by_cases h0 : xs.length = 0
    · have h0' : ¬ (0 : Int) < (xs.length : Int) := by omega
      have HZ := Lib.hid h0
      clear h0
      go_wp2_with fail
      (with_reducible refine (HN.out _ HV.out).mono ?_)
      rintro e w1 ⟨rfl, hb⟩
      go_wp2
      go_ret2
      exact ⟨ret_sb HP.out.symm rfl, hb⟩
    · have h0' : (0 : Int) < (xs.length : Int) := by omega
      have HZ := Lib.hid h0
      clear h0
      go_wp2_with fail
      (with_reducible refine (HN.out _ HV.out).mono ?_)
      rintro e w1 ⟨rfl, hb1⟩
      have z1 := hb1.size
      go_wp2_with fail
      (with_reducible refine (HN.out _ (HV.out.keep hb1 hhi)).mono ?_)
      rintro e w2 ⟨rfl, hb2⟩
      go_wp2
      go_ret2
      exact ⟨ret_sb HP.out.symm rfl, hb1.trans (hb2.mono z1)⟩
  · have HP := Lib.hid (show pomP xs = ⟨(pmL xs xs.length).toArray⟩ from if_pos hc)
    have h16 := cross_short hc
    rw [hc] at HN
    clear hc
    go_enter Try.func65, Try.ntmps65
    go_wp2
    go_loopw [4, 5] (fun x y wr => ∃ j : Nat, j ≤ xs.length ∧ y = .int .i64 j ∧ x = .string ⟨(pmL xs j).toArray⟩ ∧ Below w.heap.size w wr) (fun _ y _ => xs.length - (intOf y).toNat)
    case atStart => exact ⟨0, Nat.zero_le _, rfl, rfl, Below.refl _ _⟩
    case round =>
      obtain ⟨j, hj, rfl, rfl, hb⟩ := hrel
      have HB := Lib.hid hb
      have zr := hb.size
      have hlen : (⟨(pmL xs j).toArray⟩ : ByteArray).size = j := by rw [str_len, pmL_len]
      have HVr := Lib.hid (HV.out.keep hb hhi)
      clear hb
      by_cases hlt : j < xs.length
      · have hji : (j : Int) < (xs.length : Int) := by omega
        have HSU := Lib.hid (show pmL xs (j + 1) = pmL xs j ++ [if (j : Int) < xs.getD j 0 then 117 else 100] from rfl)
        go_wp2_with fail
        (with_reducible refine (HN.out _ HVr.out).mono ?_)
        rintro e w1 ⟨rfl, hb⟩
        have HB1 := Lib.hid (HB.out.trans (hb.mono zr))
        obtain ⟨g1, p1, e1, -, -, hc1, -⟩ := (HVr.out.keep hb (by omega)).cell hlt
        simp only [Value.slice.injEq] at e1
        obtain ⟨rfl, -, rfl⟩ := e1
        clear hb
        generalize xs.getD j 0 = z at hc1 HSU
        by_cases e1 : (j : Int) < z
        · have HE := Lib.hid (HSU.out.trans (by rw [if_pos e1]))
          go_wp2
          refine ⟨⟨j + 1, by omega, by simp, ?_, HB1.out⟩, by simp [intOf]; omega⟩
          rw [HE.out, ← str_snoc]
        · have HE := Lib.hid (HSU.out.trans (by rw [if_neg e1]))
          have e1d : decide ((j : Int) < z) = false := decide_eq_false e1
          go_wp2
          refine ⟨⟨j + 1, by omega, by simp, ?_, HB1.out⟩, by simp [intOf]; omega⟩
          rw [HE.out, ← str_snoc]
      · obtain rfl : j = xs.length := by omega
        go_wp2_with fail
        (with_reducible refine (HN.out _ HVr.out).mono ?_)
        rintro e w1 ⟨rfl, hb⟩
        go_wp2
        go_ret2
        exact ⟨ret_sb HP.out.symm rfl, HB.out.trans (hb.mono zr)⟩

end Go.Proofs.Ytknojbcpjjhegaa
