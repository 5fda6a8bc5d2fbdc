/- The program's AddPolynomials: a sum of lists of coefficients, item by item. -/
import Derived.Test.YtpelicepgeoopaaAdd14
namespace Go.Proofs.Ytpelicepgeoopaa
open Go.ChangeShapes Go.WideShapes Go.ChangeAt Go.RowKit
set_option linter.unusedVariables false

theorem adI_at' (S p : List Int) (i q : Nat) : (adI S p i).getD q 0 = S.getD q 0 + if q < i then p.getD q 0 else 0 := by
  rcases Nat.lt_or_ge q (max S.length i) with h | h
  · exact adI_at S p i h
  · rw [getD_out (S := adI S p i) (by rw [adI_len]; exact h), getD_out (S := S) (by omega), if_neg (by omega)]; rfl
/-- One more coefficient, behind the list or within it. -/
theorem adI_step (S p : List Int) {i : Nat} (hi : i < p.length) :
    (i = (adI S p i).length → adI S p (i + 1) = (adI S p i ++ [0]).set i (p.getD i 0)) ∧
    (i < (adI S p i).length → adI S p (i + 1) = (adI S p i).set i ((adI S p i).getD i 0 + p.getD i 0)) := by
  have hl := adI_len S p i
  constructor
  · intro h
    apply List.ext_getElem
    · rw [adI_len, List.length_set, List.length_append, hl]; simp; omega
    · intro q h1 h2
      have e := adI_at S p (i + 1) (q := q) (by rw [adI_len] at h1; exact h1)
      rw [List.getD_eq_getElem?_getD, List.getElem?_eq_getElem h1, Option.getD_some] at e
      rw [e, List.getElem_set]
      by_cases eq : i = q
      · subst eq
        rw [if_pos rfl, if_pos (by omega), getD_out (S := S) (by omega)]; omega
      · rw [if_neg eq]
        have hq : q < (adI S p i).length := by rw [List.length_set, List.length_append] at h2; simp at h2; omega
        rw [List.getElem_append_left hq]
        have e2 := adI_at S p i (q := q) (by rw [← hl]; exact hq)
        rw [List.getD_eq_getElem?_getD, List.getElem?_eq_getElem hq, Option.getD_some] at e2
        rw [e2, if_pos (by omega), if_pos (by omega)]
  · intro h
    apply List.ext_getElem
    · rw [adI_len, List.length_set, hl]; omega
    · intro q h1 h2
      have e := adI_at S p (i + 1) (q := q) (by rw [adI_len] at h1; exact h1)
      rw [List.getD_eq_getElem?_getD, List.getElem?_eq_getElem h1, Option.getD_some] at e
      rw [e, List.getElem_set]
      have hq : q < (adI S p i).length := by rw [List.length_set] at h2; exact h2
      by_cases eq : i = q
      · subst eq
        rw [if_pos rfl, adI_at S p i (by rw [← hl]; exact h), if_pos (by omega), if_neg (by omega)]; omega
      · rw [if_neg eq]
        have e2 := adI_at S p i (q := q) (by rw [← hl]; exact hq)
        rw [List.getD_eq_getElem?_getD, List.getElem?_eq_getElem hq, Option.getD_some] at e2
        rw [e2]
        by_cases hqi : q < i
        · rw [if_pos hqi, if_pos (by omega)]
        · rw [if_neg hqi, if_neg (by omega)]
/-- The sum of the first t lists. -/
def smP (P : List (List Int)) : Nat → List Int
  | 0 => []
  | t + 1 => adL (smP P t) (P.getD t [])
theorem RowN.stored {w : World} {base g n cap : Nat} {l : List Int} (h : RowN w base (.slice (some ⟨g, 0, none⟩) n cap) l) (hn : n = l.length) (j : Nat) (y : Int) : RowN (w.setCell ⟨g, j, none⟩ (.int .i64 y)) base (.slice (some ⟨g, 0, none⟩) n cap) (l.set j y) := by
  subst hn
  unfold RowN at h ⊢
  have := (World.ownsRow.stored h j (.int .i64 y)).1
  rw [List.length_set, List.map_set]
  exact this
theorem RowN.toOwn {w : World} {base : Nat} {v : Value} {l : List Int} (h : RowN w base v l) : OwnI w base w.heap.size v l := OwnI.of_row h
theorem RowN.sub {w : World} {base cap : Nat} {A : Option Addr} {l : List Int} (h : RowN w base (.slice A l.length cap) l) : SubI w A cap l := by
  rcases Nat.eq_zero_or_pos l.length with h0 | h0
  · exact ⟨by omega, fun j hj => by omega⟩
  · obtain ⟨A', c, e, hh⟩ := h.form
    simp only [Value.slice.injEq] at e
    obtain ⟨rfl, -, rfl⟩ := e
    obtain ⟨g, rfl, -, -, h4⟩ := hh h0
    exact ⟨h4, fun j hj => ⟨g, 0, rfl, by rw [Nat.zero_add]; exact (h.cell hj).1⟩⟩
theorem OwnI.takeI {w : World} {lo hi n cap k : Nat} {A : Option Addr} {l : List Int} (h : OwnI w lo hi (.slice A n cap) l) (hk : k ≤ l.length) : OwnI w lo hi (.slice A k cap) (l.take k) := by
  obtain ⟨A', c, e, hh⟩ := h
  simp only [Value.slice.injEq] at e
  obtain ⟨rfl, -, rfl⟩ := e
  have hl : (l.take k).length = k := by rw [List.length_take]; omega
  refine ⟨A, cap, by rw [hl], ?_⟩
  rcases hh with rfl | ⟨g, C, h1, h2, h3, h4, h5⟩
  · exact .inl (by simp)
  · exact .inr ⟨g, C, h1, h2, h3, h4, fun j hj => by rw [hl] at hj; rw [h5 j (by omega)]; simp [List.getD, hj]⟩
theorem RowN.alloc {w : World} {base : Nat} {v : Value} {l : List Int} (h : RowN w base v l) (o : Obj) : RowN (w.alloc o) base v l := World.ownsRow.alloc h o
/-- The slices V are the lists P; they lie in cells of block b. -/
structure Lists (w : World) (b : Nat) (P : List (List Int)) (V : List Value) : Prop where
  at_ : ∀ j, j < P.length → w.cell? ⟨b, j, none⟩ = some (V.getD j (.slice none 0 0))
  lt : b < w.heap.size
  row : ∀ j, j < P.length → ∃ lo hi, OwnI w lo hi (V.getD j (.slice none 0 0)) (P.getD j []) ∧ hi ≤ w.heap.size
theorem Lists.keep {w w' : World} {b : Nat} {P : List (List Int)} {V : List Value} (h : Lists w b P V) (hb : Below w.heap.size w w') : Lists w' b P V :=
  ⟨fun j hj => (hb.cell (p := ⟨b, j, none⟩) h.lt).trans (h.at_ j hj), Nat.lt_of_lt_of_le h.lt hb.size, fun j hj => by
    obtain ⟨lo, hi, h1, h2⟩ := h.row j hj
    exact ⟨lo, hi, h1.keep hb h2, Nat.le_trans h2 hb.size⟩⟩

set_option maxRecDepth 100000 in
theorem plus1 (v : Value) (w : World) : Calls Try.prog 55 #[v] w fun e w' => e = .returned v ∧ w = w' := by
  go_enter Try.func55, Try.ntmps55
  go_wp2
  go_ret
  exact ⟨rfl, rfl⟩

set_option maxRecDepth 100000 in
set_option maxHeartbeats 3200000 in
/-- The sum of lists of coefficients, before the zeros at its end are cut off and behind. -/
theorem sumOfLists (b cap : Nat) (P : List (List Int)) (V : List Value) (w : World) (L : Int) (hL0 : 0 ≤ L) (hL : L ≤ 1000000000000) (hp : Lists w b P V) (hlen : P.length ≤ 100) (hrow : ∀ j, j < P.length → (P.getD j []).length ≤ 1000)
    (hbd : ∀ t, t ≤ P.length → ∀ q, -L ≤ (smP P t).getD q 0 ∧ (smP P t).getD q 0 ≤ L) (hpd : ∀ j q, j < P.length → -L ≤ (P.getD j []).getD q 0 ∧ (P.getD j []).getD q 0 ≤ L) (hsm : ∀ t, t ≤ P.length → (smP P t).length ≤ 1000) :
    Calls Try.prog 54 #[.slice (some ⟨b, 0, none⟩) P.length cap, .func (.func 55) #[] #[]] w fun e w' => ∃ A c, e = .returned (.slice A (trL (smP P P.length)).length c) ∧ (trL (smP P P.length)).length ≤ c ∧ OwnI w' w.heap.size w'.heap.size (.slice A (trL (smP P P.length)).length c) (trL (smP P P.length)) ∧ Below w.heap.size w w' := by
  have HP := Lib.hid hp
  have HR := Lib.hid hrow
  have HBD := Lib.hid hbd
  have HPD := Lib.hid hpd
  have HSM := Lib.hid hsm
  obtain ⟨n, hn⟩ : ∃ n, n = P.length := ⟨_, rfl⟩
  have HN := Lib.hid hn
  rw [← hn] at hlen ⊢
  clear hn hp hrow hbd hpd hsm
  go_enter Try.func54, Try.ntmps54
  go_wp2
  go_loopw [5, 12] (fun v y wr => ∃ t : Nat, t ≤ n ∧ y = .int .i64 t ∧ RowN wr w.heap.size v (smP P t) ∧ Below w.heap.size w wr) (fun _ y _ => n - (intOf y).toNat)
  case atStart => exact ⟨0, Nat.zero_le _, rfl, World.ownsRow_nil _ _ _ _, Below.refl _ _⟩
  case round =>
    obtain ⟨t, ht, rfl, hrw, hb⟩ := hrel
    have HRW := Lib.hid hrw
    have HB := Lib.hid hb
    have zB := hb.size
    clear hrw hb
    by_cases hlt : t < n
    · have hti : (t : Int) < (n : Int) := by omega
      have hc1 := (HP.out.keep HB.out).at_ t (by rw [← HN.out]; exact hlt)
      obtain ⟨lo, hi, hown, hhi⟩ := HP.out.row t (by rw [← HN.out]; exact hlt)
      have hpl := HR.out t (by rw [← HN.out]; exact hlt)
      have HBT := Lib.hid (HBD.out t (by rw [← HN.out]; omega))
      have HPT := Lib.hid (fun q => HPD.out t q (by rw [← HN.out]; exact hlt))
      have hsl := HSM.out t (by rw [← HN.out]; omega)
      have HSU := Lib.hid (show smP P (t + 1) = adL (smP P t) (P.getD t []) from rfl)
      obtain ⟨p, hp⟩ : ∃ p, p = P.getD t [] := ⟨_, rfl⟩
      obtain ⟨S, hS⟩ : ∃ S, S = smP P t := ⟨_, rfl⟩
      obtain ⟨u, hu⟩ : ∃ u, u = V.getD t (.slice none 0 0) := ⟨_, rfl⟩
      rw [← hp] at hown hpl HPT HSU
      rw [← hS] at HRW HBT HSU hsl
      rw [← hu] at hc1 hown
      clear hp hS hu
      obtain ⟨A2, c2, rfl, -⟩ := id hown
      have HOW := Lib.hid hown
      have HR0 := Lib.hid (show RowN wr w.heap.size u5 (adI S p 0) by rw [adI_zero]; exact HRW.out)
      clear hown
      go_wp2_with fail
      (with_reducible refine (plus1 _ _).mono ?_)
      rintro e w' ⟨rfl, rfl⟩
      go_wp2
      go_loopw [5, 20] (fun v y w2 => ∃ i : Nat, i ≤ p.length ∧ y = .int .i64 i ∧ RowN w2 w.heap.size v (adI S p i) ∧ Below w.heap.size w w2) (fun _ y _ => p.length - (intOf y).toNat)
      case atStart => exact ⟨0, Nat.zero_le _, rfl, HR0.out, HB.out⟩
      case round =>
        obtain ⟨i, hi1, rfl, hr, hb2⟩ := hrel
        obtain ⟨A5, c5, rfl, hpos⟩ := hr.form
        have HRI := Lib.hid hr
        have HB2 := Lib.hid hb2
        have zB2 := hb2.size
        clear hr hb2 HR0
        have hlI := adI_len S p i
        by_cases hl2 : i < p.length
        · have hii : (i : Int) < (p.length : Int) := by omega
          obtain ⟨g1, p1, e1, -, -, hcx, -⟩ := (HOW.out.keep HB2.out hhi).cell hl2
          simp only [Value.slice.injEq] at e1
          obtain ⟨rfl, -, -⟩ := e1
          have hbx := HPT.out i
          obtain ⟨hst1, hst2⟩ := adI_step S p hl2
          by_cases e : i = (adI S p i).length
          · have HS1 := Lib.hid (hst1 e)
            have heq : ((i : Int) == ((adI S p i).length : Int)) = true := by rw [← e]; simp
            have HEL := Lib.hid e
            have hll : (adI S p i).length ≤ 2000 := by omega
            clear hst1 hst2 hpos e hlI
            generalize adI S p i = T at *
            have HT0 := Lib.hid (show (T ++ [(0 : Int)]).getD i 0 = 0 by rw [List.getD_eq_getElem?_getD, List.getElem?_append_right (by have := HEL.out; omega)]; have := HEL.out; simp [this])
            generalize p.getD i 0 = x at *
            have v1 : IntKind.i64.wrap x = x := IntWalk.i64_in _ (by omega)
            have v2 : IntKind.i64.wrap (0 + x) = 0 + x := IntWalk.i64_in _ (by omega)
            go_wp2_with (at_builtin; go_must (refine wpAppInt rfl _ _ rfl w.heap.size _ _ T rfl (World.ownsRow.alloc HRI.out _) wr.heap.size _ 0 rfl (cell_one _ _ _) (by omega) (base_up zB2) ?_); intro v' w' hown' hg'; go_must (obtain ⟨g5, c6, hv5, hg5, hg6⟩ := World.ownsRow.form hown' (by omega); subst hv5; have HRN := Lib.hid (show RowN w' w.heap.size (.slice (some ⟨g5, 0, none⟩) (T.length + 1) c6) (T ++ [0]) by unfold RowN; rw [List.length_append, List.length_singleton]; exact hown'); have HBN := Lib.hid ((HB2.out.alloc zB2 (.cells #[.int .i64 0] 3)).grown hg' (base_up zB2) (fun k hk => (World.ownsRow.lt HRI.out k hk).1)); obtain ⟨hc5, hf5⟩ := RowN.cell HRN.out (j := i) (by rw [List.length_append, List.length_singleton]; have := HEL.out; omega); rw [HT0.out] at hc5; have hi5 : (i : Int) < ((T.length + 1 : Nat) : Int) := (by have := HEL.out; omega); clear hown' hg'))
            refine ⟨⟨i + 1, by omega, by simp, by rw [HS1.out]; exact HRN.out.stored (by simp) i _, HBN.out.setCell hg5 _⟩, by simp [intOf]; omega⟩
          · have hil : i < (adI S p i).length := by omega
            have HS1 := Lib.hid (hst2 hil)
            have heq : ((i : Int) == ((adI S p i).length : Int)) = false := beq_eq_false_iff_ne.2 (by omega)
            have hsx : (adI S p i).getD i 0 = S.getD i 0 := by rw [adI_at', if_neg (by omega)]; omega
            have hbs := HBT.out i
            obtain ⟨g5, rfl, hg5, hg6, hc6⟩ := hpos (by omega)
            obtain ⟨hc5, hf5⟩ := HRI.out.cell hil
            rw [hsx] at hc5 HS1
            have hiT : (i : Int) < ((adI S p i).length : Int) := by omega
            clear hst1 hst2 hpos e hlI hsx
            generalize adI S p i = T at *
            generalize p.getD i 0 = x at *
            generalize S.getD i 0 = z at *
            have v1 : IntKind.i64.wrap (z + x) = z + x := IntWalk.i64_in _ (by omega)
            go_wp2
            refine ⟨⟨i + 1, by omega, by simp, by rw [HS1.out]; exact HRI.out.stored rfl i _, HB2.out.setCell hg5 _⟩, by simp [intOf]; omega⟩
        · obtain rfl : i = p.length := by omega
          go_wp2
          refine ⟨⟨t + 1, by omega, by simp, by rw [HSU.out]; exact HRI.out, HB2.out⟩, by simp [intOf]; omega⟩
    · obtain rfl : t = n := by omega
      obtain ⟨A5, c5, rfl, -⟩ := HRW.out.form
      have hsl := HSM.out t (by rw [← HN.out]; omega)
      have HTL := Lib.hid (trL_len (smP P t))
      have HTK := Lib.hid (show trL (smP P t) = (smP P t).take (trN (smP P t) (smP P t).length) from rfl)
      have HTN := Lib.hid (trN_le (smP P t) (smP P t).length)
      have HTR := Lib.hid (trimmed A5 (smP P t) c5 wr HRW.out.sub (by omega))
      have HCC := Lib.hid HRW.out.sub.1
      go_wp2_with fail
      (with_reducible refine HTR.out.mono ?_)
      rintro e w' ⟨rfl, rfl⟩
      go_wp2
      go_ret
      rw [HTL.out, HTK.out]
      exact ⟨_, _, rfl, Nat.le_trans HTN.out HCC.out, HRW.out.toOwn.takeI HTN.out, HB.out⟩

theorem sm_two (xs ys : List Int) : smP [xs, ys] 2 = adL xs ys := by
  show adL (adL [] xs) ys = adL xs ys
  rw [adL_nil]

set_option maxRecDepth 100000 in
set_option maxHeartbeats 1600000 in
theorem plusI (A A' : Option Addr) (xs ys : List Int) (cap cap' lo hi lo' hi' : Nat) (w : World) (L : Int) (hL0 : 0 ≤ L) (hL : L ≤ 100000000000) (hv : OwnI w lo hi (.slice A xs.length cap) xs) (hu : OwnI w lo' hi' (.slice A' ys.length cap') ys) (hhi : hi ≤ w.heap.size) (hhu : hi' ≤ w.heap.size) (hx : xs.length ≤ 1000) (hy : ys.length ≤ 1000) (hbx : ∀ q, -L ≤ xs.getD q 0 ∧ xs.getD q 0 ≤ L) (hby : ∀ q, -L ≤ ys.getD q 0 ∧ ys.getD q 0 ≤ L) :
    Calls Try.prog 38 #[.slice A xs.length cap, .slice A' ys.length cap'] w fun e w' => ∃ A c, e = .returned (.slice A (trL (adL xs ys)).length c) ∧ (trL (adL xs ys)).length ≤ c ∧ OwnI w' w.heap.size w'.heap.size (.slice A (trL (adL xs ys)).length c) (trL (adL xs ys)) ∧ Below w.heap.size w w' := by
  obtain ⟨W, hW⟩ : ∃ W, W = w.alloc (.cells #[.slice A xs.length cap, .slice A' ys.length cap'] 22) := ⟨_, rfl⟩
  have HBA := Lib.hid (show Below w.heap.size w W by rw [hW]; exact (Below.refl _ _).alloc (Nat.le_refl _) _)
  have HSZ := Lib.hid (show W.heap.size = w.heap.size + 1 by rw [hW]; simp)
  have hc0 : W.cell? ⟨w.heap.size, 0, none⟩ = some (.slice A xs.length cap) := by rw [hW, World.cell?_alloc_at _ _ _ _ rfl]; rfl
  have hc1 : W.cell? ⟨w.heap.size, 1, none⟩ = some (.slice A' ys.length cap') := by rw [hW, World.cell?_alloc_at _ _ _ _ rfl]; rfl
  have HLS := Lib.hid (show Lists W w.heap.size [xs, ys] [.slice A xs.length cap, .slice A' ys.length cap'] from by
    refine ⟨fun j hj => ?_, by rw [HSZ.out]; omega, fun j hj => ?_⟩
    · match j, hj with
      | 0, _ => exact hc0
      | 1, _ => exact hc1
    · match j, hj with
      | 0, _ => exact ⟨lo, hi, hv.keep HBA.out hhi, by rw [HSZ.out]; omega⟩
      | 1, _ => exact ⟨lo', hi', hu.keep HBA.out hhu, by rw [HSZ.out]; omega⟩)
  have HAD := Lib.hid (show (adL xs ys).length ≤ 1000 by unfold adL; rw [adI_len]; omega)
  have HSU := Lib.hid (sumOfLists w.heap.size 2 [xs, ys] [.slice A xs.length cap, .slice A' ys.length cap'] W (2 * L) (by omega) (by omega) HLS.out (by simp) (fun j hj => by
      match j, hj with
      | 0, _ => exact hx
      | 1, _ => exact hy)
    (fun t ht q => by
      match t, ht with
      | 0, _ => show -(2 * L) ≤ (([] : List Int)).getD q 0 ∧ (([] : List Int)).getD q 0 ≤ 2 * L; simp; omega
      | 1, _ => show -(2 * L) ≤ (adL [] xs).getD q 0 ∧ (adL [] xs).getD q 0 ≤ 2 * L; rw [adL_nil]; have := hbx q; omega
      | 2, _ =>
        rw [sm_two]
        have h1 := hbx q
        have h2 := hby q
        rcases Nat.lt_or_ge q (max xs.length ys.length) with h | h
        · rw [adL_at _ _ h]; omega
        · rw [getD_out (S := adL xs ys) (by unfold adL; rw [adI_len]; exact h)]; omega)
    (fun j q hj => by
      match j, hj with
      | 0, _ => have := hbx q; show -(2 * L) ≤ xs.getD q 0 ∧ xs.getD q 0 ≤ 2 * L; omega
      | 1, _ => have := hby q; show -(2 * L) ≤ ys.getD q 0 ∧ ys.getD q 0 ≤ 2 * L; omega)
    (fun t ht => by
      match t, ht with
      | 0, _ => exact Nat.zero_le _
      | 1, _ => show (adL [] xs).length ≤ 1000; rw [adL_nil]; exact hx
      | 2, _ => rw [sm_two]; exact HAD.out))
  rw [show ([xs, ys] : List (List Int)).length = 2 from rfl, sm_two] at HSU
  clear hv hu hc0 hc1
  generalize trL (adL xs ys) = Z at *
  subst hW
  go_enter Try.func38, Try.ntmps38
  go_wp2_with fail
  (with_reducible refine HSU.out.mono ?_)
  rintro e w1 ⟨B, c, rfl, hcc, ho, hb⟩
  have HCC := Lib.hid hcc
  have HO := Lib.hid (ho.wide (show w.heap.size ≤ _ by rw [HSZ.out]; omega) (Nat.le_refl _))
  have HB := Lib.hid (HBA.out.trans (hb.mono (by rw [HSZ.out]; omega)))
  clear hcc ho hb
  go_wp2
  go_ret
  exact ⟨_, _, rfl, HCC.out, HO.out, HB.out⟩

end Go.Proofs.Ytpelicepgeoopaa
