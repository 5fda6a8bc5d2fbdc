/- The program's MultiplyPolynomials: the sum of the terms. -/
import Derived.Test.YtomimlpmfcbkdaaMul14T
import Derived.Test.YtomimlpmfcbkdaaAppAt
namespace Go.Proofs.Ytomimlpmfcbkdaa
open Go.ChangeShapes Go.WideShapes Go.ChangeAt Go.RowKit
set_option linter.unusedVariables false

def tmsL (xs ys : List Int) : List (List Int) := (List.range xs.length).map fun t => tmL (xs.getD t 0) t ys
theorem tmsL_at (xs ys : List Int) {t : Nat} (h : t < xs.length) : (tmsL xs ys).getD t [] = tmL (xs.getD t 0) t ys := by simp [tmsL, List.getD, h]
theorem ownI_grown {w w' : World} {lo hi : Nat} {v : Value} {xs : List Int} {r : Option Nat} (h : OwnI w lo hi v xs) (hg : w.grownBy w' r) (hd : ∀ g, r = some g → g < lo ∨ hi ≤ g) : OwnI w' lo hi v xs := by
  obtain ⟨A, cap, e, h⟩ := h
  refine ⟨A, cap, e, ?_⟩
  rcases h with h | ⟨g, C, h1, h2, h3, h4, h5⟩
  · exact .inl h
  · refine .inr ⟨g, C, h1, h2, h3, (hg.block g (Array.getElem?_eq_some_iff.1 h4).1 (fun e => ?_)).trans h4, h5⟩
    have := hd g e.symm
    omega
theorem ownI_set {w : World} {lo hi g : Nat} {v : Value} {xs : List Int} (h : OwnI w lo hi v xs) (hd : g < lo ∨ hi ≤ g) (j : Nat) (y : Value) : OwnI (w.setCell ⟨g, j, none⟩ y) lo hi v xs := by
  obtain ⟨A, cap, e, h⟩ := h
  refine ⟨A, cap, e, ?_⟩
  rcases h with h | ⟨q, C, h1, h2, h3, h4, h5⟩
  · exact .inl h
  · exact .inr ⟨q, C, h1, h2, h3, (Below.heap_setCell w ⟨g, j, none⟩ y q (by show q ≠ g; omega)).trans h4, h5⟩
theorem sep_new {v : Value} {g n c lo hi m : Nat} (h : (Value.slice (some ⟨g, 0, none⟩) n c).ownBlock = v.ownBlock ∨ (Value.slice (some ⟨g, 0, none⟩) n c).ownBlock = some m) (hs : ∀ g, v.ownBlock = some g → g < lo ∨ hi ≤ g) (hm : hi ≤ m) : g < lo ∨ hi ≤ g := by
  rcases h with h | h
  · exact hs g h.symm
  · cases h; exact .inr hm

set_option maxRecDepth 100000 in
set_option maxHeartbeats 3200000 in
/-- The sum of the terms of xs, each times ys. -/
theorem sumOfTerms (b cap B n : Nat) (A0 : Option Addr) (xs ys : List Int) (cap0 lo hi : Nat) (w : World) (P : List (List Int)) (hP : P = tmsL xs ys) (hn : n = P.length) (L : Int) (hL0 : 0 ≤ L) (hL : L ≤ 1000000000000) (hp : TmA w b n n xs) (hc : w.cell? ⟨B, 0, none⟩ = some (.slice A0 ys.length cap0)) (hB : B < w.heap.size) (hu : OwnI w lo hi (.slice A0 ys.length cap0) ys) (hhi : hi ≤ w.heap.size) (hlen : n ≤ 100) (hly : ys.length ≤ 100) (ha : inB 100000 xs = true) (hb : inB 100000 ys = true)
    (hbd : ∀ t, t ≤ n → ∀ q, -L ≤ (smP P t).getD q 0 ∧ (smP P t).getD q 0 ≤ L) (hpd : ∀ j q, j < n → -L ≤ (P.getD j []).getD q 0 ∧ (P.getD j []).getD q 0 ≤ L) (hsm : ∀ t, t ≤ n → (smP P t).length ≤ 1000) :
    Calls Try.prog 35 #[.slice (some ⟨b, 0, none⟩) n cap, .func (.func 37) #[] #[.pointer (some ⟨B, 0, none⟩)]] w fun e w' => ∃ A c, e = .returned (.slice A (trL (smP P n)).length c) ∧ (trL (smP P n)).length ≤ c ∧ OwnI w' w.heap.size w'.heap.size (.slice A (trL (smP P n)).length c) (trL (smP P n)) ∧ Below w.heap.size w w' := by
  have HP := Lib.hid hp
  have HBD := Lib.hid hbd
  have HPD := Lib.hid hpd
  have HSM := Lib.hid hsm
  have HN := Lib.hid hn
  have HLR := Lib.hid (show n = xs.length by rw [hn, hP]; simp [tmsL])
  have HPT0 := Lib.hid (fun t (h : t < n) => show P.getD t [] = tmL (xs.getD t 0) t ys by rw [hP]; exact tmsL_at xs ys (by have := HLR.out; omega))
  have HBX := Lib.hid (fun q => inB_at ha (by omega) q)
  have HCALL := Lib.hid (fun c p W (h : Below w.heap.size w W) (h1 : -100000 ≤ c) (h2 : c ≤ 100000) (h3 : p ≤ 100) => times1 c p B A0 ys cap0 lo hi W ((h.cell (p := ⟨B, 0, none⟩) hB).trans hc) (Nat.lt_of_lt_of_le hB h.size) (hu.keep h hhi) (Nat.le_trans hhi h.size) h3 hly h1 h2 hb)
  clear hn hp hbd hpd hsm hP hc hu ha hb
  go_enter Try.func35, Try.ntmps35
  go_wp2
  go_loopw [5, 12] (fun v y wr => ∃ t : Nat, t ≤ n ∧ y = .int .i64 t ∧ RowN wr w.heap.size v (smP P t) ∧ Below w.heap.size w wr) (fun _ y _ => n - (intOf y).toNat)
  case atStart => exact ⟨0, Nat.zero_le _, rfl, World.ownsRow_nil _ _ _ _, Below.refl _ _⟩
  case round =>
    obtain ⟨t, ht, rfl, hrw, hb⟩ := hrel
    have HRW := Lib.hid hrw
    have HB := Lib.hid hb
    have zB := hb.size
    clear hrw hb
    by_cases hlt : t < n
    · have hti : (t : Int) < (n : Int) := by omega
      obtain ⟨hc1, hc2⟩ := (HP.out.keep HB.out).cell (k := t) hlt
      have hbxt := HBX.out t
      have HBT := Lib.hid (HBD.out t (by omega))
      have HPT := Lib.hid (fun q => HPD.out t q hlt)
      have hsl := HSM.out t (by omega)
      have HSU := Lib.hid (show smP P (t + 1) = adL (smP P t) (P.getD t []) from rfl)
      have hpe := HPT0.out t hlt
      obtain ⟨p, hp⟩ : ∃ p, p = P.getD t [] := ⟨_, rfl⟩
      obtain ⟨S, hS⟩ : ∃ S, S = smP P t := ⟨_, rfl⟩
      rw [← hp] at HPT HSU hpe
      rw [← hS] at HRW HBT HSU hsl
      have hpl : p.length ≤ 1000 := by rw [hpe, tmL_len]; omega
      have HPE := Lib.hid hpe
      clear hp hS hpe
      have HR0 := Lib.hid (show RowN wr w.heap.size u5 (adI S p 0) by rw [adI_zero]; exact HRW.out)
      have HCT := Lib.hid (fun W (h : Below w.heap.size w W) => HCALL.out (xs.getD t 0) t W h hbxt.1 hbxt.2 (by omega))
      rw [← HPE.out] at HCT
      generalize xs.getD t 0 = x0 at *
      go_wp2_with fail
      (with_reducible refine (HCT.out _ (HB.out.alloc zB _)).mono ?_)
      rintro e w5 ⟨v5, rfl, ho5, hb5⟩
      have HOW := Lib.hid ho5
      have hlo5 := Nat.le_trans zB ((Below.refl wr.heap.size wr).alloc (Nat.le_refl _) (.cells #[.int .i64 x0, .int .i64 t] 41)).size
      have HSE := Lib.hid (show ∀ g, u5.ownBlock = some g → g < (wr.alloc (.cells #[.int .i64 x0, .int .i64 t] 41)).heap.size ∨ w5.heap.size ≤ g from fun g hg => .inl (Nat.lt_of_lt_of_le (World.ownsRow.lt HR0.out g hg).2 ((Below.refl wr.heap.size wr).alloc (Nat.le_refl _) _).size))
      have HB5 := Lib.hid ((HB.out.alloc zB (.cells #[.int .i64 x0, .int .i64 t] 41)).trans (hb5.mono (Nat.le_trans zB ((Below.refl wr.heap.size wr).alloc (Nat.le_refl _) _).size)))
      have HR5 := Lib.hid (show RowN w5 w.heap.size u5 (adI S p 0) from (HR0.out.alloc _).keep fun g _ hg _ => hb5.block g hg)
      obtain ⟨A2, c2, rfl, -⟩ := id ho5
      obtain ⟨top5, hhi5⟩ : ∃ top5, top5 = w5.heap.size := ⟨_, rfl⟩
      rw [← hhi5] at HOW HSE
      generalize (wr.alloc (.cells #[.int .i64 x0, .int .i64 t] 41)).heap.size = bot5 at *
      have HH5 := Lib.hid (Nat.le_of_eq hhi5)
      clear ho5 hb5 HR0 hc1 hc2 hhi5
      go_wp2
      go_loopw [5, 20] (fun v y w2 => ∃ i : Nat, i ≤ p.length ∧ y = .int .i64 i ∧ RowN w2 w.heap.size v (adI S p i) ∧ Below w.heap.size w w2 ∧ OwnI w2 bot5 top5 (.slice A2 p.length c2) p ∧ top5 ≤ w2.heap.size ∧ ∀ g, v.ownBlock = some g → g < bot5 ∨ top5 ≤ g) (fun _ y _ => p.length - (intOf y).toNat)
      case atStart => exact ⟨0, Nat.zero_le _, rfl, HR5.out, HB5.out, HOW.out, HH5.out, HSE.out⟩
      case round =>
        obtain ⟨i, hi1, rfl, hr, hb2, ho2, hh2, hse2⟩ := hrel
        obtain ⟨A5, c5, rfl, hpos⟩ := hr.form
        have HRI := Lib.hid hr
        have HB2 := Lib.hid hb2
        have zB2 := hb2.size
        have HOI := Lib.hid ho2
        have HSI := Lib.hid hse2
        clear hr hb2 ho2 hse2 HR5 HB5 HOW HSE
        have hlI := adI_len S p i
        by_cases hl2 : i < p.length
        · have hii : (i : Int) < (p.length : Int) := by omega
          obtain ⟨g1, p1, e1, -, -, hcx, -⟩ := HOI.out.cell hl2
          simp only [Value.slice.injEq] at e1
          obtain ⟨rfl, -, -⟩ := e1
          have hbx := HPT.out i
          obtain ⟨hst1, hst2⟩ := adI_step S p hl2
          by_cases e : i = (adI S p i).length
          · have HS1 := Lib.hid (hst1 e)
            have heq : ((i : Int) == ((adI S p i).length : Int)) = true := by rw [← e]; simp
            have HEL := Lib.hid e
            have hll : (adI S p i).length ≤ 2000 := by omega
            clear hst1 hst2 hpos e hlI
            generalize adI S p i = T at *
            have HT0 := Lib.hid (show (T ++ [(0 : Int)]).getD i 0 = 0 by rw [List.getD_eq_getElem?_getD, List.getElem?_append_right (by have := HEL.out; omega)]; have := HEL.out; simp [this])
            generalize p.getD i 0 = x at *
            have v1 : IntKind.i64.wrap x = x := IntWalk.i64_in _ (by omega)
            have v2 : IntKind.i64.wrap (0 + x) = 0 + x := IntWalk.i64_in _ (by omega)
            go_wp2_with (at_builtin; go_must (refine wpAppIntAt rfl _ _ rfl w.heap.size _ _ T rfl (World.ownsRow.alloc HRI.out _) wr.heap.size _ 0 rfl (cell_one _ _ _) (by omega) (base_up zB2) ?_); intro v' w' hown' hg' hloc; go_must (obtain ⟨g5, c6, hv5, hg5, hg6⟩ := World.ownsRow.form hown' (by omega); subst hv5; have HRN := Lib.hid (show RowN w' w.heap.size (.slice (some ⟨g5, 0, none⟩) (T.length + 1) c6) (T ++ [0]) by unfold RowN; rw [List.length_append, List.length_singleton]; exact hown'); have HBN := Lib.hid ((HB2.out.alloc zB2 (.cells #[.int .i64 0] 3)).grown hg' (base_up zB2) (fun k hk => (World.ownsRow.lt HRI.out k hk).1)); obtain ⟨hc5, hf5⟩ := RowN.cell HRN.out (j := i) (by rw [List.length_append, List.length_singleton]; have := HEL.out; omega); rw [HT0.out] at hc5; have hi5 : (i : Int) < ((T.length + 1 : Nat) : Int) := (by have := HEL.out; omega); have HOI2 := Lib.hid (ownI_grown (HOI.out.keep ((Below.refl wr.heap.size wr).alloc (Nat.le_refl _) (.cells #[.int .i64 0] 3)) hh2) hg' HSI.out); have HSI2 := Lib.hid (show g5 < bot5 ∨ top5 ≤ g5 from sep_new hloc HSI.out (Nat.le_trans hh2 ((Below.refl wr.heap.size wr).alloc (Nat.le_refl _) _).size)); have HH2 := Lib.hid (Nat.le_trans hh2 (Nat.le_trans ((Below.refl wr.heap.size wr).alloc (Nat.le_refl _) (.cells #[.int .i64 0] 3)).size hg'.size)); clear hown' hg' hloc))
            refine ⟨⟨i + 1, by omega, by simp, by rw [HS1.out]; exact HRN.out.stored (by simp) i _, HBN.out.setCell hg5 _, ownI_set HOI2.out HSI2.out _ _, by simpa [World.setCell] using HH2.out, fun g e => by cases e; exact HSI2.out⟩, by simp [intOf]; omega⟩
          · have hil : i < (adI S p i).length := by omega
            have HS1 := Lib.hid (hst2 hil)
            have heq : ((i : Int) == ((adI S p i).length : Int)) = false := beq_eq_false_iff_ne.2 (by omega)
            have hsx : (adI S p i).getD i 0 = S.getD i 0 := by rw [adI_at', if_neg (by omega)]; omega
            have hbs := HBT.out i
            obtain ⟨g5, rfl, hg5, hg6, hc6⟩ := hpos (by omega)
            obtain ⟨hc5, hf5⟩ := HRI.out.cell hil
            rw [hsx] at hc5 HS1
            have hiT : (i : Int) < ((adI S p i).length : Int) := by omega
            clear hst1 hst2 hpos e hlI hsx
            generalize adI S p i = T at *
            generalize p.getD i 0 = x at *
            generalize S.getD i 0 = z at *
            have v1 : IntKind.i64.wrap (z + x) = z + x := IntWalk.i64_in _ (by omega)
            go_wp2
            refine ⟨⟨i + 1, by omega, by simp, by rw [HS1.out]; exact HRI.out.stored rfl i _, HB2.out.setCell hg5 _, ownI_set HOI.out (HSI.out _ rfl) _ _, by simpa [World.setCell] using hh2, fun g e => by cases e; exact HSI.out _ rfl⟩, by simp [intOf]; omega⟩
        · obtain rfl : i = p.length := by omega
          go_wp2
          refine ⟨⟨t + 1, by omega, by simp, by rw [HSU.out]; exact HRI.out, HB2.out⟩, by simp [intOf]; omega⟩
    · obtain rfl : t = n := by omega
      obtain ⟨A5, c5, rfl, -⟩ := HRW.out.form
      have hsl := HSM.out t (Nat.le_refl _)
      have HTL := Lib.hid (trL_len (smP P t))
      have HTK := Lib.hid (show trL (smP P t) = (smP P t).take (trN (smP P t) (smP P t).length) from rfl)
      have HTN := Lib.hid (trN_le (smP P t) (smP P t).length)
      have HTR := Lib.hid (trimmed A5 (smP P t) c5 wr HRW.out.sub (by omega))
      have HCC := Lib.hid HRW.out.sub.1
      go_wp2_with fail
      (with_reducible refine HTR.out.mono ?_)
      rintro e w' ⟨rfl, rfl⟩
      go_wp2
      go_ret
      rw [HTL.out, HTK.out]
      exact ⟨_, _, rfl, Nat.le_trans HTN.out HCC.out, HRW.out.toOwn.takeI HTN.out, HB.out⟩

end Go.Proofs.Ytomimlpmfcbkdaa
