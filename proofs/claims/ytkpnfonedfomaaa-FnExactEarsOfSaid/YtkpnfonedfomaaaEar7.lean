/- Merged by program out of: Fact7E Ear7S Ear7I. -/
import Derived.Test.YtkpnfonedfomaaaFact7
import Derived.Test.YtkpnfonedfomaaaSpec7B
import Derived.Test.YtkpnfonedfomaaaInts
import Derived.Deep.RegionLaw
import Derived.Test.YtkpnfonedfomaaaImpl7G
import Derived.Shelf.SlicesQ.IndexFunc
import Derived.Ground.SlgfProg
section
namespace Go.Proofs.Ytkpnfonedfomaaa
set_option linter.unusedVariables false
set_option linter.unusedSimpArgs false

/-- The corners below k that are in no diagonal. -/
def inC (cs : List Ch) (v : Int) : Bool := cs.any fun c => decide (c.1 = v ∨ c.2 = v)
def earF (cs : List Ch) : Nat → List Int
  | 0 => []
  | k + 1 => earF cs k ++ (if inC cs (k : Int) = true then [] else [(k : Int)])
theorem earF_len (cs : List Ch) : ∀ k, (earF cs k).length ≤ k
  | 0 => Nat.le_refl _
  | k + 1 => by unfold earF; rw [List.length_append]; have := earF_len cs k; split <;> simp <;> omega
def earP (n : Int) (ls : List (List Int)) : List Int := if triB n ls = true then earF (csT ls) n.toNat else []
theorem tri_bd {n : Int} {ls : List (List Int)} (h : triB n ls = true) : inN n ls ∧ ls.length ≤ 7 ∧ ∀ i, i < ls.length → okM n ls i := by
  unfold triB at h
  have h := of_decide_eq_true h
  refine ⟨h.1, ?_, h.2⟩
  obtain ⟨h1, h2, h3⟩ := h.1
  omega
theorem earP_len (n : Int) (ls : List (List Int)) : (earP n ls).length ≤ 10 := by
  unfold earP
  split
  · rename_i h
    have := earF_len (csT ls) n.toNat
    obtain ⟨⟨h1, h2, -⟩, -⟩ := tri_bd h
    omega
  · exact Nat.zero_le _
theorem ear_hit (cs : List Ch) (k : Nat) (h : inC cs (k : Int) = true) : earF cs (k + 1) = earF cs k := by unfold earF; rw [if_pos h, List.append_nil]; cases k <;> rfl
theorem ear_free (cs : List Ch) (k : Nat) (h : inC cs (k : Int) = false) : earF cs (k + 1) = earF cs k ++ [(k : Int)] := by
  rw [earF, if_neg (by rw [h]; simp)]
/-- Whether the first i diagonals leave a corner free. -/
def frB (ls : List (List Int)) (v : Int) : Nat → Bool
  | 0 => true
  | i + 1 => (frB ls v i && !decide ((ls.getD i []).getD 0 0 = v)) && !decide ((ls.getD i []).getD 1 0 = v)
theorem frB_take (ls : List (List Int)) (v : Int) : ∀ i, i ≤ ls.length → frB ls v i = !inC (csT (ls.take i)) v
  | 0, _ => rfl
  | i + 1, h => by
    have e : csT (ls.take (i + 1)) = csT (ls.take i) ++ [rwC (ls.getD i [])] := by
      unfold csT
      rw [List.take_add_one, List.map_append, List.getD_eq_getElem?_getD, List.getElem?_eq_getElem (by omega)]; rfl
    rw [frB, frB_take ls v i (by omega), e]
    unfold inC
    rw [List.any_append]
    simp only [List.any_cons, List.any_nil, Bool.or_false, Bool.not_or]
    rw [Bool.and_assoc]
    congr 1
    unfold rwC
    by_cases h1 : (ls.getD i []).getD 0 0 = v <;> by_cases h2 : (ls.getD i []).getD 1 0 = v <;> simp [h1, h2]
theorem frB_all (ls : List (List Int)) (v : Int) : frB ls v ls.length = !inC (csT ls) v := by
  rw [frB_take ls v ls.length (Nat.le_refl _), List.take_length]

end Go.Proofs.Ytkpnfonedfomaaa
end

section
namespace Go.Proofs.Ytkpnfonedfomaaa
open Go.ChangeShapes Go.WideShapes Go.ChangeAt Go.RowKit
set_option linter.unusedVariables false

theorem owns_drewN {w : World} {base n k : Nat} {e : TypeId} {size : Nat} {v : Value} {xs : List Value} (h : w.ownsRow base e size v n xs) : (w.drewN k).ownsRow base e size v n xs := h

set_option maxRecDepth 100000 in
set_option maxHeartbeats 6400000 in
theorem earsS (n : Int) (v : Value) (ls : List (List Int)) (lo hi : Nat) (w : World) (hv : OwnT w lo hi v ls) (hh : hi ≤ w.heap.size) (hl : ls.length ≤ 1048576) :
    Calls Try.prog 24 #[.int .i64 n, v] w fun e w' => ∃ r, e = .returned r ∧ OwnI w' w.heap.size w'.heap.size r (earP n ls) ∧ Below w.heap.size w w' := by
  have HIT := Lib.hid (fun W (h : OwnT W lo hi v ls) => isTriS n v ls lo hi W h hl)
  obtain ⟨A1, c1, rfl, k1⟩ := id hv
  clear k1
  have HV := Lib.hid hv
  have HM := Lib.hid (World.ownsRow_made (e := 3) (size := 1) w #[] 0 (Nat.le_refl w.heap.size) (Nat.zero_le _) (by simp))
  have HB0 := Lib.hid ((Below.refl w.heap.size w).alloc (Nat.le_refl _) (.cells #[] 3))
  clear hv
  rcases ht : triB n ls with _ | _
  · have HE := Lib.hid (show earP n ls = [] from if_neg (by rw [ht]; simp))
    rw [ht] at HIT
    go_enter Try.func24, Try.ntmps24
    go_wp2
    go_loopw [5, 6] (fun o x wr => x = .int .i64 0 ∧ wr.ownsRow w.heap.size 3 1 o 0 (([] : List Int).map (Value.int .i64)) ∧ Below w.heap.size w wr) (fun _ _ _ => 0)
    case atStart => exact ⟨rfl, HM.out, HB0.out⟩
    case round =>
      obtain ⟨rfl, ho, hb⟩ := hrel
      have HO := Lib.hid ho
      have HB := Lib.hid hb
      clear ho hb
      by_cases h0 : 0 < n
      · have d0 : decide (0 < n) = true := decide_eq_true h0
        go_wp2_with fail
        (with_reducible refine (HIT.out _ (HV.out.keep HB.out hh)).mono ?_)
        rintro e w2 ⟨rfl, q, rfl⟩
        go_wp2
        go_ret
        refine ⟨_, rfl, ?_, below_drewN HB.out _⟩
        rw [HE.out]
        exact OwnI.of_row (owns_drewN HO.out)
      · have d0 : decide (0 < n) = false := decide_eq_false h0
        go_wp2
        go_ret
        refine ⟨_, rfl, ?_, HB.out⟩
        rw [HE.out]
        exact OwnI.of_row HO.out
  · obtain ⟨⟨hn1, hn2, hn3⟩, hl7, hok⟩ := tri_bd ht
    obtain ⟨m, rfl⟩ : ∃ m : Nat, n = (m : Int) := ⟨n.toNat, by omega⟩
    have HE := Lib.hid (show earP (m : Int) ls = earF (csT ls) m from by unfold earP; rw [if_pos ht]; rfl)
    have HOK := Lib.hid (show ∀ i, i < ls.length → (ls.getD i []).length = 2 from fun i hi => (hok i hi).1)
    rw [ht] at HIT
    clear hok hn3
    go_enter Try.func24, Try.ntmps24
    go_wp2
    go_loopw [5, 6] (fun o x wr => ∃ k : Nat, k ≤ m ∧ x = .int .i64 k ∧ wr.ownsRow w.heap.size 3 1 o (earF (csT ls) k).length ((earF (csT ls) k).map (Value.int .i64)) ∧ Below w.heap.size w wr) (fun _ x _ => m - (intOf x).toNat)
    case atStart => exact ⟨0, Nat.zero_le _, rfl, HM.out, HB0.out⟩
    case round =>
      obtain ⟨k, hk1, rfl, ho, hb⟩ := hrel
      have HO := Lib.hid ho
      have HB := Lib.hid hb
      have zb := hb.size
      clear ho hb
      by_cases hlt : k < m
      · have hki : (k : Int) < (m : Int) := by omega
        have hle := earF_len (csT ls) k
        have HH := Lib.hid (ear_hit (csT ls) k)
        have HF := Lib.hid (ear_free (csT ls) k)
        have HFA := Lib.hid (frB_all ls (k : Int))
        go_wp2_with fail
        (with_reducible refine (HIT.out _ (HV.out.keep HB.out hh)).mono ?_)
        rintro e w2 ⟨rfl, q, rfl⟩
        go_wp2
        obtain ⟨wo, rfl⟩ : ∃ wo, wo = wr := ⟨_, rfl⟩
        go_loopw [7, 8] (fun f x wr => ∃ i : Nat, i ≤ ls.length ∧ x = .int .i64 i ∧ f = .bool (frB ls (k : Int) i) ∧ wr = wo.drewN q) (fun _ x _ => ls.length - (intOf x).toNat)
        case atStart => exact ⟨0, Nat.zero_le _, rfl, rfl, rfl⟩
        case round =>
          obtain ⟨i, hi1, rfl, rfl, rfl⟩ := hrel
          by_cases hil : i < ls.length
          · have hii : (i : Int) < (ls.length : Int) := by omega
            have HT' := HV.out.keep (below_drewN HB.out q) hh
            obtain ⟨o2, rv2, rfl, -, -, -, -⟩ := HT'.cell hil
            obtain ⟨rv, hc, hrw⟩ := rowC_at HT' hil (HOK.out i hil)
            obtain ⟨g, cg, rfl, x0, x1⟩ := hrw
            have hx0 : (wo.drewN q).cell? ⟨g, 0, none⟩ = some (.int .i64 ((ls.getD i []).getD 0 0)) := x0
            have hx1 : (wo.drewN q).cell? ⟨g, 1, none⟩ = some (.int .i64 ((ls.getD i []).getD 1 0)) := x1
            have HFR := Lib.hid (show frB ls (k : Int) (i + 1) = ((frB ls (k : Int) i && !decide ((ls.getD i []).getD 0 0 = (k : Int))) && !decide ((ls.getD i []).getD 1 0 = (k : Int))) from rfl)
            clear x0 x1 HT'
            generalize (ls.getD i []).getD 0 0 = a at *
            generalize (ls.getD i []).getD 1 0 = b at *
            rcases hfr : frB ls (k : Int) i with _ | _
            · rw [hfr] at HFR
              have HF2 := Lib.hid (show frB ls (k : Int) (i + 1) = false from by rw [HFR.out]; rfl)
              clear hfr HFR
              go_wp2
              exact ⟨⟨i + 1, by omega, by simp, by rw [HF2.out], trivial⟩, by simp [intOf]; omega⟩
            · rw [hfr] at HFR
              by_cases ha : a = (k : Int)
              · have da : (a != (k : Int)) = false := by simp [ha]
                have HF2 := Lib.hid (show frB ls (k : Int) (i + 1) = false from by rw [HFR.out, decide_eq_true ha]; rfl)
                clear hfr HFR ha
                go_wp2
                exact ⟨⟨i + 1, by omega, by simp, by rw [HF2.out], trivial⟩, by simp [intOf]; omega⟩
              · have da : (a != (k : Int)) = true := by simp [ha]
                by_cases hbb : b = (k : Int)
                · have db : (b != (k : Int)) = false := by simp [hbb]
                  have HF2 := Lib.hid (show frB ls (k : Int) (i + 1) = false from by rw [HFR.out, decide_eq_true hbb]; simp)
                  clear hfr HFR ha hbb
                  go_wp2
                  exact ⟨⟨i + 1, by omega, by simp, by rw [HF2.out], trivial⟩, by simp [intOf]; omega⟩
                · have db : (b != (k : Int)) = true := by simp [hbb]
                  have HF2 := Lib.hid (show frB ls (k : Int) (i + 1) = true from by rw [HFR.out, decide_eq_false ha, decide_eq_false hbb]; rfl)
                  clear hfr HFR ha hbb
                  go_wp2
                  exact ⟨⟨i + 1, by omega, by simp, by rw [HF2.out], trivial⟩, by simp [intOf]; omega⟩
          · obtain rfl : i = ls.length := by omega
            have hii : ¬ ((ls.length : Int) < (ls.length : Int)) := by omega
            rw [HFA.out]
            rcases hin : inC (csT ls) (k : Int) with _ | _
            · have HF3 := Lib.hid (HF.out hin)
              clear hin
              generalize earF (csT ls) k = E at *
              go_wp2_with (at_builtin; go_must (refine wpAppInt rfl _ _ rfl w.heap.size u5 _ E rfl (World.ownsRow.alloc (owns_drewN HO.out) _) (wo.drewN q).heap.size _ _ rfl (cell_one _ _ _) (by omega) (by simp; omega) ?_); intro v' w' hown' hg')
              have hz3 := hg'.size
              exact ⟨⟨k + 1, by omega, by simp, by rw [HF3.out]; simpa using hown', ((below_drewN HB.out q).alloc (by simp; omega) _).grown hg' (by simp; omega) (fun j hj => (World.ownsRow.lt HO.out j hj).1)⟩, by simp [intOf]; omega⟩
            · have HF3 := Lib.hid (HH.out hin)
              clear hin
              go_wp2
              exact ⟨⟨k + 1, by omega, by simp, by rw [HF3.out]; exact owns_drewN HO.out, below_drewN HB.out q⟩, by simp [intOf]; omega⟩
      · obtain rfl : k = m := by omega
        have hki : ¬ ((k : Int) < (k : Int)) := by omega
        go_wp2
        go_ret
        refine ⟨_, rfl, ?_, HB.out⟩
        rw [HE.out]
        exact OwnI.of_row HO.out

end Go.Proofs.Ytkpnfonedfomaaa
end

section
namespace Go.Proofs
open Go.Shelf Go.RowKit Go.Lib Go.Sort
shelf_lay_g SlLaysH0.n8 Slgf 8 at Try 53 as Try.contFn
end Go.Proofs
namespace Go.Proofs.Ytkpnfonedfomaaa
open Go.ChangeShapes Go.WideShapes Go.ChangeAt Go.RowKit
set_option linter.unusedVariables false

set_option maxRecDepth 100000 in
set_option maxHeartbeats 1600000 in
theorem touchesI (a b v : Int) (w : World) : Calls Try.prog 52 #[.agg #[.int .i64 a, .int .i64 b], .int .i64 v] w fun e w' => e = .returned (.bool (decide (a = v ∨ b = v))) ∧ Below w.heap.size w w' := by
  have HB := Lib.hid ((Below.refl w.heap.size w).alloc (Nat.le_refl _) (.cells #[.int .i64 a, .int .i64 b] 42))
  by_cases h : a = v
  · have d1 : (a == v) = true := by simp [h]
    have HR := Lib.hid (show true = decide (a = v ∨ b = v) from (decide_eq_true (.inl h)).symm)
    clear h
    go_enter Try.func52, Try.ntmps52
    go_wp2
    go_ret
    exact ⟨ret_bool HR.out, HB.out⟩
  · have d1 : (a == v) = false := by simp [h]
    have HR := Lib.hid (show (b == v) = decide (a = v ∨ b = v) from by
      rw [Bool.eq_iff_iff, beq_iff_eq, decide_eq_true_iff]; exact ⟨.inr, fun h2 => h2.resolve_left h⟩)
    clear h
    go_enter Try.func52, Try.ntmps52
    go_wp2
    go_ret
    exact ⟨ret_bool HR.out, HB.out⟩

set_option maxRecDepth 100000 in
set_option maxHeartbeats 1600000 in
theorem earFn (a b v : Int) (c : Nat) (w : World) (hc : w.cell? ⟨c, 0, none⟩ = some (.int .i64 v)) (hl : c < w.heap.size) :
    Calls Try.prog 51 #[.agg #[.int .i64 a, .int .i64 b], .pointer (some ⟨c, 0, none⟩)] w fun e w' => e = .returned (.bool (decide (a = v ∨ b = v))) ∧ Below w.heap.size w w' := by
  have hb0 : Below w.heap.size w (w.alloc (.cells #[.int .i64 a, .int .i64 b] 42)) := (Below.refl _ w).alloc (Nat.le_refl _) _
  have HB := Lib.hid hb0
  have hcc := (hb0.cell (p := ⟨c, 0, none⟩) hl).trans hc
  have HT := Lib.hid (fun W => touchesI a b v W)
  clear hb0 hc
  generalize decide (a = v ∨ b = v) = B at *
  go_enter Try.func51, Try.ntmps51
  go_wp2_with fail
  (with_reducible refine (HT.out _).mono ?_)
  rintro e w2 ⟨rfl, hb⟩
  have HB2 := Lib.hid (HB.out.trans (hb.mono HB.out.size))
  clear hb
  go_wp2
  go_ret
  exact ⟨rfl, HB2.out⟩

/-- slices.ContainsFunc at the diagonals of a polygon: whether a corner is in one. -/
theorem contFnI (g c : Nat) (n v : Int) (cs : List Ch) (w : World) (h : Pg w g n cs.length (flF cs)) (hl : cs.length ≤ 7) (hc : w.cell? ⟨c, 0, none⟩ = some (.int .i64 v)) (hcl : c < w.heap.size) :
    Calls Try.prog 53 #[.slice (some ⟨g, 2, none⟩) cs.length 7, .func (.func 51) #[] #[.pointer (some ⟨c, 0, none⟩)]] w fun e w' => e = .returned (.bool (inC cs v)) ∧ Below w.heap.size w w' := by
  have eg : ∀ args w, (callFunc 51 args).run Try.prog w = .ok (.enter 51 args) w := enters_of Try.func51 (by kernel_rfl) rfl
  have hcon := AnyQ.slices_ContainsFunc Try.contFn 2 Try.isAgg42 Try.sizeOf42 enC (fun _ => rfl) (fun x => decide (x.1 = v ∨ x.2 = v)) 51 #[.pointer (some ⟨c, 0, none⟩)] eg g 2 cs.length 7 cs w
    (fun W x hb => (earFn x.1 x.2 v c W ((hb.cell (p := ⟨c, 0, none⟩) hcl).trans hc) (Nat.lt_of_lt_of_le hcl hb.size)).mono fun e w' h => ⟨h.1, hb.trans (h.2.mono hb.size)⟩)
    (Nat.le_refl _) (by omega) h.lt (fun j hj i v hv => by
    have hi : i < 2 := (List.getElem?_eq_some_iff.1 hv).1
    have e : cs[j]! = cs.getD j (0, 0) := by rw [getElem!_pos cs j hj, List.getD_eq_getElem?_getD, List.getElem?_eq_getElem hj]; rfl
    rw [e] at hv
    have hf := h.cs (j * 2 + i) (by omega)
    rw [← Nat.add_assoc] at hf
    rw [hf]
    unfold flF
    match i, hi, hv with
    | 0, _, hv => rw [if_pos (by omega), show (j * 2 + 0) / 2 = j by omega]; exact hv
    | 1, _, hv => rw [if_neg (by omega), show (j * 2 + 1) / 2 = j by omega]; exact hv)
  change Calls Try.prog 53 _ _ _ at hcon
  refine hcon.mono ?_
  rintro e w' ⟨rfl, hb⟩
  exact ⟨by rw [List.take_length]; rfl, hb⟩

theorem row_bel7 {w w' : World} {base n size : Nat} {e : TypeId} {v : Value} {xs : List Value} (h : w.ownsRow base e size v n xs) (hb : Below w.heap.size w w') : w'.ownsRow base e size v n xs := by
  refine ⟨h.1, ?_⟩
  rcases h.2 with e1 | ⟨o, cap, cur, e1, h1, h2, h3⟩
  · exact .inl e1
  · exact .inr ⟨o, cap, cur, e1, h1, (hb.block o (Array.getElem?_eq_some_iff.1 h2).1).trans h2, h3⟩

set_option maxRecDepth 100000 in
set_option maxHeartbeats 6400000 in
theorem earsI (n : Int) (v : Value) (ls : List (List Int)) (lo hi : Nat) (w : World) (hv : OwnT w lo hi v ls) (hh : hi ≤ w.heap.size) (hl : ls.length ≤ 1048576) :
    Calls Try.prog 25 #[.int .i64 n, v] w fun e w' => ∃ r, e = .returned r ∧ OwnI w' w.heap.size w'.heap.size r (earP n ls) ∧ Below w.heap.size w w' := by
  have HPO := Lib.hid (polygonOfI n v ls lo hi w hv hh hl)
  clear hv
  go_enter Try.func25, Try.ntmps25
  go_wp2_with fail
  (with_reducible refine HPO.out.mono ?_)
  rintro e w1 ⟨v1, rfl, hpi, hb1⟩
  have HB1 := Lib.hid hb1
  have z1 := hb1.size
  have HS := Lib.hid (Pg.start w1 0 0 (fun _ => 0) 45)
  have HBA := Lib.hid ((Below.refl w1.heap.size w1).alloc (Nat.le_refl _) (.cells (pgA 0 0 fun _ => 0) 45))
  clear hb1
  rcases hpi with ⟨ht, rfl⟩ | ⟨ht, rfl⟩
  · rw [ht]
    obtain ⟨⟨hn1, hn2, hn3⟩, hl7, -⟩ := tri_bd ht
    obtain ⟨m, rfl⟩ : ∃ m : Nat, n = (m : Int) := ⟨n.toNat, by omega⟩
    have HE := Lib.hid (show earP (m : Int) ls = earF (csT ls) m from by unfold earP; rw [if_pos ht]; rfl)
    have HLC := Lib.hid (csT_len ls)
    have HCH := Lib.hid (fun W => chordsB (m : Int) (csT ls) W (by rw [csT_len]; exact hl7))
    rw [csT_len] at HCH
    have HCF := Lib.hid (fun g c k W (h : Pg W g (m : Int) ls.length (flF (csT ls))) (hc : W.cell? ⟨c, 0, none⟩ = some (.int .i64 k)) (hcl : c < W.heap.size) => contFnI g c (m : Int) k (csT ls) W (by rw [csT_len]; exact h) (by rw [csT_len]; exact hl7) hc hcl)
    rw [csT_len] at HCF
    clear hn3 ht
    go_wp2_with (refine wpStPg rfl _ _ rfl w1.heap.size (m : Int) ls.length (flF (csT ls)) 0 0 (fun _ => 0) HS.out rfl rfl ?_; intro w2 hP2 hO2; have HP2 := Lib.hid hP2; have HB2 := Lib.hid (HB1.out.trans ((HBA.out.trans (hO2.below _ (Nat.le_refl _))).mono z1)); clear hP2 hO2 HS HBA HB1)
    go_loopw [7, 19] (fun o x wr => ∃ k : Nat, k ≤ m ∧ x = .int .i64 k ∧ wr.ownsRow (w1.heap.size + 1) 3 1 o (earF (csT ls) k).length ((earF (csT ls) k).map (Value.int .i64)) ∧ Pg wr w1.heap.size (m : Int) ls.length (flF (csT ls)) ∧ Below w.heap.size w wr) (fun _ x _ => m - (intOf x).toNat)
    case atStart => exact ⟨0, Nat.zero_le _, rfl, World.ownsRow_nil _ _ _ _, HP2.out, HB2.out⟩
    case round =>
      obtain ⟨k, hk1, rfl, ho, hp, hb⟩ := hrel
      have HO := Lib.hid ho
      have HP := Lib.hid hp
      have HB := Lib.hid hb
      have zb := hb.size
      have zp := hp.lt
      clear ho hb hp HP2 HB2
      by_cases hlt : k < m
      · have hki : (k : Int) < (m : Int) := by omega
        have hle := earF_len (csT ls) k
        have HH := Lib.hid (ear_hit (csT ls) k)
        have HF := Lib.hid (ear_free (csT ls) k)
        have hbA : Below wr.heap.size wr (wr.alloc (.cells #[.int .i64 (k : Int)] 3)) := (Below.refl _ _).alloc (Nat.le_refl _) _
        have zA : (wr.alloc (.cells #[.int .i64 (k : Int)] 3)).heap.size = wr.heap.size + 1 := by simp
        have HPA := Lib.hid (HP.out.keep hbA zp)
        have HOA := Lib.hid (row_bel7 HO.out hbA)
        have HBA2 := Lib.hid (HB.out.trans (hbA.mono zb))
        have HCA := Lib.hid (show (wr.alloc (.cells #[.int .i64 (k : Int)] 3)).cell? ⟨wr.heap.size, 0, none⟩ = some (.int .i64 (k : Int)) by rw [World.cell?_alloc_at _ _ _ _ rfl]; rfl)
        clear hbA
        go_wp2_with (refine wpLdPg rfl _ rfl _ _ _ _ HPA.out rfl ?_)
        (with_reducible refine (HCH.out _).mono ?_)
        rintro e w4 ⟨rfl, hb4, hpg4⟩
        have z4 := hb4.size
        rw [zA] at hb4 z4 hpg4
        have HP4 := Lib.hid (HPA.out.keep hb4 (by omega))
        have HO4 := Lib.hid (row_bel7 HOA.out (by rw [zA]; exact hb4))
        have HB4 := Lib.hid (HBA2.out.trans (hb4.mono (by omega)))
        have hc4 := (hb4.cell (p := ⟨wr.heap.size, 0, none⟩) (Nat.lt_succ_self _)).trans HCA.out
        have HCFK := Lib.hid (HCF.out _ wr.heap.size (k : Int) w4 hpg4 hc4 (by omega))
        have HC4 := Lib.hid hc4
        rw [zA]
        clear hb4 hpg4 hc4
        rcases hin : inC (csT ls) (k : Int) with _ | _
        · have HF3 := Lib.hid (HF.out hin)
          rw [hin] at HCFK
          clear hin
          generalize earF (csT ls) k = E at *
          go_wp2_with fail
          (with_reducible refine HCFK.out.mono ?_)
          rintro e w5 ⟨rfl, hb5⟩
          have z5 := hb5.size
          have HP5 := Lib.hid (HP4.out.keep hb5 (by omega))
          have HO5 := Lib.hid (row_bel7 HO4.out hb5)
          have HB5 := Lib.hid (HB4.out.trans (hb5.mono (by omega)))
          have hc5 := (hb5.cell (p := ⟨wr.heap.size, 0, none⟩) (by show wr.heap.size < _; omega)).trans HC4.out
          clear hb5
          go_wp2_with (at_builtin; go_must (refine wpAppInt rfl _ _ rfl (w1.heap.size + 1) u7 _ E rfl (World.ownsRow.alloc HO5.out _) w5.heap.size _ _ rfl (cell_one _ _ _) (by omega) (by simp; omega) ?_); intro v' w' hown' hg')
          go_roundw
          case rel => exact ⟨k + 1, by omega, by simp, by rw [HF3.out]; simpa using hown', HP5.out.keep (((Below.refl (w1.heap.size + 1) w5).alloc (by omega) _).grown hg' (by simp; omega) (fun j hj => (World.ownsRow.lt HO.out j hj).1)) (Nat.lt_succ_self _), (HB5.out.alloc (by omega) _).grown hg' (by simp; omega) (fun j hj => by have := (World.ownsRow.lt HO.out j hj).1; omega)⟩
          case measure => simp [intOf]; omega
        · have HF3 := Lib.hid (HH.out hin)
          rw [hin] at HCFK
          clear hin
          go_wp2_with fail
          (with_reducible refine HCFK.out.mono ?_)
          rintro e w5 ⟨rfl, hb5⟩
          have HP5 := Lib.hid (HP4.out.keep hb5 (by omega))
          have HO5 := Lib.hid (row_bel7 HO4.out hb5)
          have HB5 := Lib.hid (HB4.out.trans (hb5.mono (by omega)))
          clear hb5
          go_wp2
          go_roundw
          case rel => exact ⟨k + 1, by omega, by simp, by rw [HF3.out]; exact HO5.out, HP5.out, HB5.out⟩
          case measure => simp [intOf]; omega
      · obtain rfl : k = m := by omega
        have hki : ¬ ((k : Int) < (k : Int)) := by omega
        go_wp2
        go_ret
        refine ⟨_, rfl, ?_, HB.out⟩
        rw [HE.out]
        exact (OwnI.of_row HO.out).wide (by omega) (Nat.le_refl _)
  · have HE := Lib.hid (show earP n ls = [] from if_neg (by rw [ht]; simp))
    rw [ht]
    go_wp2_with (refine wpStPg rfl _ _ rfl w1.heap.size 0 0 (fun _ => 0) 0 0 (fun _ => 0) HS.out rfl rfl ?_; intro w2 hP2 hO2; have HB2 := Lib.hid (HB1.out.trans ((HBA.out.trans (hO2.below _ (Nat.le_refl _))).mono z1)); clear hP2 hO2)
    go_ret
    refine ⟨_, rfl, ?_, HB2.out⟩
    rw [HE.out]
    exact OwnI.of_row (World.ownsRow_nil _ _ _ _)

end Go.Proofs.Ytkpnfonedfomaaa
end
