/- Sums of polynomials; the model's l14Trim and AddPolynomials. -/
import Derived.Test.YtpelicepgeoopaaPoly14
import Derived.Test.YtpelicepgeoopaaRow10
import Derived.Test.YtpelicepgeoopaaTabA
import Derived.Test.YtpelicepgeoopaaAppA
import Derived.BigRegion
namespace Go.Proofs.Ytpelicepgeoopaa
open Go.ChangeShapes Go.WideShapes Go.ChangeAt Go.RowKit
set_option linter.unusedVariables false

theorem TabI.same {w : World} {g m : Nat} {f f' : Nat → Int} (h : TabI w g m f) (ho : ∀ q, q < m → f' q = f q) : TabI w g m f' := by
  obtain ⟨C, h1, h2, h3⟩ := h
  exact ⟨C, h1, h2, fun q hq => by rw [h3 q hq, ho q hq]⟩
/-- A list without the zeros at its end. -/
def trL (xs : List Int) : List Int := xs.take (trN xs xs.length)
theorem trL_len (xs : List Int) : (trL xs).length = trN xs xs.length := by
  unfold trL
  rw [List.length_take]
  have := trN_le xs xs.length
  omega
theorem trL_le (xs : List Int) : (trL xs).length ≤ xs.length := by rw [trL_len]; exact trN_le _ _
/-- The sum of two lists of coefficients, when the first i of the second have been added. -/
def adI (S p : List Int) (i : Nat) : List Int := (List.range (max S.length i)).map fun q => S.getD q 0 + if q < i then p.getD q 0 else 0
def adL (S p : List Int) : List Int := adI S p p.length
theorem adI_len (S p : List Int) (i : Nat) : (adI S p i).length = max S.length i := by simp [adI]
theorem adI_at (S p : List Int) (i : Nat) {q : Nat} (h : q < max S.length i) : (adI S p i).getD q 0 = S.getD q 0 + if q < i then p.getD q 0 else 0 := by simp [adI, List.getD, h]
theorem getD_out {S : List Int} {q : Nat} (h : S.length ≤ q) : S.getD q 0 = 0 := by
  rw [List.getD_eq_getElem?_getD, List.getElem?_eq_none h]; rfl
theorem adI_zero (S p : List Int) : adI S p 0 = S := by
  apply List.ext_getElem
  · rw [adI_len]; omega
  · intro q h1 h2
    simp [adI, List.getD, h2]
theorem adL_nil (p : List Int) : adL [] p = p := by
  unfold adL
  apply List.ext_getElem
  · rw [adI_len]; simp
  · intro q h1 h2
    simp [adI, List.getD, h2]
theorem adL_at (S p : List Int) {q : Nat} (h : q < max S.length p.length) : (adL S p).getD q 0 = S.getD q 0 + p.getD q 0 := by
  unfold adL
  rw [adI_at _ _ _ h]
  split
  · rfl
  · rw [getD_out (S := p) (by omega)]
theorem inB_at {L : Int} {xs : List Int} (h : inB L xs = true) (hL : 0 ≤ L) (q : Nat) : -L ≤ xs.getD q 0 ∧ xs.getD q 0 ≤ L := by
  rcases Nat.lt_or_ge q xs.length with h1 | h1
  · exact (inB_iff L xs).1 h q h1
  · rw [getD_out h1]; omega
theorem ply_yes {xs : List Int} (h : plyB xs = true) : xs.length ≤ 61 ∧ inB 1000000000 xs = true := by
  unfold plyB at h
  rw [Bool.and_eq_true, Bool.and_eq_true] at h
  exact ⟨of_decide_eq_true h.1.1, h.1.2⟩
def addOk (a b : List Int) : Bool := plyB a && plyB b && plyB (trL (adL a b))
def addP (a b : List Int) : List Int := if addOk a b = true then trL (adL a b) else []
theorem addP_len (a b : List Int) : (addP a b).length ≤ 61 := by
  unfold addP
  split
  · rename_i h
    unfold addOk at h
    rw [Bool.and_eq_true] at h
    exact (ply_yes h.2).1
  · simp

set_option maxRecDepth 100000 in
set_option maxHeartbeats 1600000 in
theorem l14Trim (g : Nat) (xs : List Int) (cap lo hi : Nat) (w : World) (hv : OwnI w lo hi (.slice (some ⟨g, 0, none⟩) xs.length cap) xs) (hhi : hi ≤ w.heap.size) (hg : g < w.heap.size) (hcap : xs.length ≤ cap) (hl : xs.length ≤ 1099511627) :
    Calls Try.prog 39 #[.slice (some ⟨g, 0, none⟩) xs.length cap] w (AnsI (trL xs) w) := by
  have HV := Lib.hid hv
  have HT := Lib.hid (show trL xs = xs.take (trN xs xs.length) from rfl)
  have HROW0 := Lib.hid (show (w.alloc (.cells #[] 3)).ownsRow w.heap.size 3 1 (.slice (some ⟨w.heap.size, 0, none⟩) 0 0) 0 (([] : List Int).map (Value.int .i64)) from World.ownsRow_made w #[] 0 (Nat.le_refl _) (Nat.zero_le _) (by simp))
  obtain ⟨n, hn⟩ : ∃ n, n = xs.length := ⟨_, rfl⟩
  have HN := Lib.hid hn
  rw [← hn] at hl hcap HT HV ⊢
  clear hv hn
  go_enter Try.func39, Try.ntmps39
  go_wp2
  go_loop [3] (fun y => ∃ k : Nat, k ≤ n ∧ y = .int .i64 k ∧ trN xs k = trN xs n) (fun y => (intOf y).toNat)
  case atStart => exact ⟨n, Nat.le_refl _, rfl, rfl⟩
  case round =>
    obtain ⟨k, hk, rfl, ht⟩ := hrel
    have HTK := Lib.hid ht
    clear ht
    have hsl := fun W => run_upto W (some ⟨g, 0, none⟩) n cap k (by omega)
    have HE := Lib.hid (show trN xs k = k → trL xs = xs.take k from fun h => by rw [HT.out, ← HTK.out, h])
    have fin : (trN xs k = k) → True := fun _ => trivial
    by_cases h0 : k = 0
    · subst h0
      have d0 : decide ((0 : Int) < ((0 : Nat) : Int)) = false := by decide
      have HE2 := Lib.hid (HE.out rfl)
      clear fin
      go_wp2_with (at_builtin; go_must (refine wpAppA rfl _ _ rfl w.heap.size _ 0 [] [] rfl HROW0.out g 0 0 cap rfl rfl (fun j hj => absurd hj (Nat.not_lt_zero _)) (by omega) (by omega) (by simp) ?_); intro v' w' hown' hg')
      go_ret
      refine ⟨_, rfl, ?_, ((Below.refl _ w).alloc (Nat.le_refl _) _).grown hg' (by simp) (fun k hk => (World.ownsRow.lt HROW0.out k hk).1)⟩
      rw [HE2.out]
      exact OwnI.of_row hown'
    · obtain ⟨m, hm⟩ : ∃ m, m = k - 1 := ⟨_, rfl⟩
      obtain ⟨g1, p1, e1, -, -, hc1, -⟩ := HV.out.cell (j := m) (by have := HN.out; omega)
      simp only [Value.slice.injEq, Option.some.injEq, Addr.mk.injEq] at e1
      obtain ⟨⟨rfl, -⟩, -, rfl⟩ := e1
      have hki : (0 : Int) < (k : Int) := by omega
      have d0 : decide ((0 : Int) < (k : Int)) = true := decide_eq_true hki
      have hmi : (k : Int) - 1 = (m : Int) := by omega
      have hmlt : (m : Int) < (n : Int) := by omega
      have hmw : IntKind.i64.wrap (m : Int) = (m : Int) := IntWalk.i64_in _ (by omega)
      have HS := Lib.hid (show trN xs k = if xs.getD m 0 = 0 then trN xs m else k by rw [show k = m + 1 by omega]; rfl)
      have HMK := Lib.hid (show m < k ∧ m ≤ n by omega)
      have HKN := Lib.hid (show (xs.take k).length = k by rw [List.length_take]; have := HN.out; omega)
      have HKA := Lib.hid (fun j (hj : j < k) => show w.cell? ⟨g, 0 + j, none⟩ = some (.int .i64 ((xs.take k).getD j 0)) by
        obtain ⟨g2, p2, e2, -, -, hc2, -⟩ := HV.out.cell (j := j) (by have := HN.out; omega)
        simp only [Value.slice.injEq, Option.some.injEq, Addr.mk.injEq] at e2
        obtain ⟨⟨rfl, -⟩, -, -⟩ := e2
        rw [Nat.zero_add, hc2]
        simp [List.getD, hj])
      clear hm
      by_cases e : xs.getD m 0 = 0
      · have HS2 := Lib.hid (HS.out.trans (if_pos e))
        rw [e] at hc1
        clear e HS fin
        go_wp2
        exact ⟨⟨m, HMK.out.2, rfl, by rw [← HTK.out, HS2.out]⟩, by simp [intOf]; have := HMK.out.1; omega⟩
      · have hb : (xs.getD m 0 == 0) = false := beq_eq_false_iff_ne.2 e
        have HS2 := Lib.hid (HS.out.trans (if_neg e))
        have HE2 := Lib.hid (HE.out HS2.out)
        clear e HS fin
        generalize xs.getD m 0 = x at *
        go_wp2_with (at_builtin; go_must (refine wpAppA rfl _ _ rfl w.heap.size _ 0 [] (xs.take k) rfl HROW0.out g 0 k cap rfl HKN.out (fun j hj => (World.cell?_alloc_lt w _ ⟨g, 0 + j, none⟩ hg).trans (HKA.out j hj)) (by omega) (by omega) (by simp) ?_); intro v' w' hown' hg')
        go_ret
        refine ⟨_, rfl, ?_, ((Below.refl _ w).alloc (Nat.le_refl _) _).grown hg' (by simp) (fun k hk => (World.ownsRow.lt HROW0.out k hk).1)⟩
        rw [HE2.out]
        rw [List.nil_append, Nat.zero_add] at hown'
        exact OwnI.of_row hown'

def f1 (a : List Int) (i : Nat) : Nat → Int := fun q => if q < i then a.getD q 0 else 0
theorem f1_zero (a : List Int) : f1 a 0 = fun _ => 0 := by funext q; unfold f1; rw [if_neg (by omega)]
theorem f1_succ (a : List Int) (i : Nat) : f1 a (i + 1) = upd (f1 a i) i (f1 a i i + a.getD i 0) := by
  funext q
  unfold f1
  by_cases e : q = i
  · subst e; rw [upd_at, if_pos (by omega), if_neg (by omega)]; omega
  · rw [upd_ne _ _ e]
    by_cases h2 : q < i
    · rw [if_pos h2, if_pos (by omega)]
    · rw [if_neg h2, if_neg (by omega)]
def f2 (a b : List Int) (i : Nat) : Nat → Int := fun q => a.getD q 0 + if q < i then b.getD q 0 else 0
theorem f2_zero (a b : List Int) : f2 a b 0 = f1 a a.length := by
  funext q
  unfold f2 f1
  rw [if_neg (by omega)]
  split
  · omega
  · rw [getD_out (S := a) (by omega)]; omega
theorem f2_succ (a b : List Int) (i : Nat) : f2 a b (i + 1) = upd (f2 a b i) i (f2 a b i i + b.getD i 0) := by
  funext q
  unfold f2
  by_cases e : q = i
  · subst e; rw [upd_at, if_pos (by omega), if_neg (by omega)]; omega
  · rw [upd_ne _ _ e]
    by_cases h2 : q < i
    · rw [if_pos h2, if_pos (by omega)]
    · rw [if_neg h2, if_neg (by omega)]

end Go.Proofs.Ytpelicepgeoopaa
