/- The program's PathOfTableau, IsTableau. -/
import Derived.Test.YtefbbkogfoongaaFactT11
import Derived.Test.YtefbbkogfoongaaRepB11
import Derived.Test.YtefbbkogfoongaaEqT11
import Derived.Test.YtefbbkogfoongaaImpl11A
namespace Go.Proofs.Ytefbbkogfoongaa
open Go.ChangeShapes Go.WideShapes Go.ChangeAt Go.RowKit
open Go.PlainAid (bt bt_nonneg bt_le get_bt)
set_option linter.unusedVariables false

/-- The word of a table. -/
def pathT (ls : List (List Int)) : ByteArray := if tabB ls = true then wB (ls.getD 0 []) (2 * (ls.getD 0 []).length) else ⟨#[]⟩
/-- The letters behind i numbers. -/
def fB (L : List Int) (i : Nat) (p : Nat) : Int := if (L.take i).contains ((p : Int) + 1) = true then 117 else 100
theorem fB_zero (L : List Int) : fB L 0 = fun _ => 100 := by funext p; simp [fB]
theorem take_moreT {L : List Int} {i : Nat} (h : i < L.length) : L.take (i + 1) = L.take i ++ [L.getD i 0] := by
  rw [List.getD_eq_getElem?_getD, List.getElem?_eq_getElem h]
  exact List.take_append_getElem h ▸ rfl
theorem fB_me {L : List Int} {i p : Nat} (h : i < L.length) (e : L.getD i 0 = (p : Int) + 1) : fB L (i + 1) p = 117 := by
  unfold fB
  rw [take_moreT h, if_pos]
  rw [List.contains_iff_mem, e]
  exact List.mem_append_right _ (List.mem_singleton.2 rfl)
theorem fB_ot {L : List Int} {i p q : Nat} (h : i < L.length) (e : L.getD i 0 = (p : Int) + 1) (hq : q ≠ p) : fB L (i + 1) q = fB L i q := by
  unfold fB
  have : ((L.take (i + 1)).contains ((q : Int) + 1) = true) ↔ ((L.take i).contains ((q : Int) + 1) = true) := by
    rw [take_moreT h, List.contains_iff_mem, List.contains_iff_mem, List.mem_append, List.mem_singleton, e]
    exact ⟨fun h => h.resolve_right (by omega), .inl⟩
  by_cases hc : (L.take i).contains ((q : Int) + 1) = true
  · rw [if_pos hc, if_pos (this.2 hc)]
  · rw [if_neg hc, if_neg (fun h => hc (this.1 h))]
theorem fB_word (L : List Int) (n : Nat) : strOfNums ((List.range n).map (fB L L.length)) = wB L n := by
  have h1 := nums_size (fB L L.length) n
  refine str_ext (by rw [h1, wB_size]) fun k hk => ?_
  rw [h1] at hk
  have hf : fB L L.length k = if L.contains ((k : Int) + 1) = true then 117 else 100 := by unfold fB; rw [List.take_length]
  rw [bt_nums _ n k hk (by rw [hf]; split <;> decide) (by rw [hf]; split <;> decide), hf, wB_bt L n k hk]
theorem tabB_two {ls : List (List Int)} (h : ls.length ≠ 2) : tabB ls = false := by
  match ls, h with
  | [], _ => rfl
  | [_], _ => rfl
  | [_, _], h => exact absurd rfl h
  | _ :: _ :: _ :: _, _ => rfl
theorem pathT_no {ls : List (List Int)} (h : tabB ls = false) : pathT ls = ⟨#[]⟩ := if_neg (by rw [h]; simp)

set_option maxRecDepth 100000 in
set_option maxHeartbeats 3200000 in
theorem pathOfTableauI (v : Value) (ls : List (List Int)) (lo hi : Nat) (w : World) (hv : OwnT w lo hi v ls) (hh : hi ≤ w.heap.size) (hl : ls.length ≤ 1048576) (hr : ∀ j, (ls.getD j []).length ≤ 1048576) :
    Calls Try.prog 14 #[v] w fun e w' => e = .returned (.tuple #[.string (pathT ls), .bool (tabB ls)]) ∧ Below w.heap.size w w' := by
  obtain ⟨A1, c1, rfl, k1⟩ := id hv
  clear k1
  by_cases h2 : ls.length = 2
  · obtain ⟨L, M, rfl⟩ : ∃ L M, ls = [L, M] := by
      match ls, h2 with
      | [L, M], _ => exact ⟨L, M, rfl⟩
    clear h2
    obtain ⟨o, rv, rfl, ho1, ho2, hc, hrow⟩ := hv.cell (j := 0) (by simp)
    rw [show ([L, M] : List (List Int)).getD 0 [] = L from rfl] at hrow
    have hLL := hr 0
    rw [show ([L, M] : List (List Int)).getD 0 [] = L from rfl] at hLL
    have HV := Lib.hid hv
    have HR := Lib.hid hr
    obtain ⟨A2, c2, rfl, -⟩ := id hrow
    have HRW := Lib.hid hrow
    have HCC := Lib.hid hc
    clear hv hr hrow
    by_cases h8 : 8 < L.length
    · have HT := Lib.hid (show tabB [L, M] = false from by
        rcases h : tabB [L, M] with _ | _
        · rfl
        · exact absurd (tab_word h).1 (by omega))
      have HP := Lib.hid (pathT_no HT.out)
      have d8 : decide ((8 : Int) < (L.length : Int)) = true := decide_eq_true (by omega)
      go_enter Try.func14, Try.ntmps14
      go_wp2
      go_ret2
      exact ⟨ret_sb HP.out.symm HT.out.symm, Below.refl _ _⟩
    · obtain ⟨n2, hn2⟩ : ∃ n2, n2 = 2 * L.length := ⟨_, rfl⟩
      have hmul : (2 : Int) * (L.length : Int) = (n2 : Int) := by omega
      have d8 : decide ((8 : Int) < (L.length : Int)) = false := decide_eq_false (by omega)
      have hlen8 : L.length ≤ 8 := by omega
      have hn16 : n2 ≤ 16 := by omega
      have HN2 := Lib.hid hn2
      have HREP := Lib.hid (repeatB w.heap.size n2 100 (w.alloc (.cells #[.int .u8 100] 5)) (cell_one _ _ _) (by simp) (by omega))
      have HBA := Lib.hid ((Below.refl w.heap.size w).alloc (Nat.le_refl _) (.cells #[.int .u8 100] 5))
      have hc0 : (w.alloc (.cells #[.int .u8 100] 5)).cell? ⟨o, 0, none⟩ = some (.slice A2 L.length c2) := (HBA.out.cell (p := ⟨o, 0, none⟩) (show o < w.heap.size by omega)).trans hc
      clear h8 hn2
      go_enter Try.func14, Try.ntmps14
      go_wp2_with fail
      (with_reducible refine HREP.out.mono ?_)
      rintro e w1 ⟨g, rfl, hg, hrow1, hb1⟩
      have HB1 := Lib.hid (HBA.out.trans (hb1.mono (by simp)))
      have hgw : w.heap.size ≤ g := by simp at hg; omega
      have hc1 : w1.cell? ⟨o, 0, none⟩ = some (.slice A2 L.length c2) := (HB1.out.cell (p := ⟨o, 0, none⟩) (show o < w.heap.size by omega)).trans hc
      have HR1 := Lib.hid (show RowB w1 g n2 (fB L 0) by rw [fB_zero]; exact hrow1)
      clear hrow1 hb1 hg
      go_wp2
      go_loopw [31] (fun y wr => ∃ i : Nat, i ≤ L.length ∧ y = .int .i64 i ∧ RowB wr g n2 (fB L i) ∧ (∀ j, j < i → 1 ≤ L.getD j 0 ∧ L.getD j 0 ≤ (n2 : Int)) ∧ Below w.heap.size w wr) (fun y _ => L.length - (intOf y).toNat)
      case atStart => exact ⟨0, Nat.zero_le _, rfl, HR1.out, fun j hj => absurd hj (Nat.not_lt_zero _), HB1.out⟩
      case round =>
        obtain ⟨i, hi1, rfl, hrw, hall, hb⟩ := hrel
        have HB := Lib.hid hb
        have HROW := Lib.hid hrw
        have HALL := Lib.hid hall
        have hBs := hb.size
        clear hb hrw hall HR1 hc0 hc1
        by_cases hlt : i < L.length
        · have hii : (i : Int) < (L.length : Int) := by omega
          obtain ⟨g1, p1, e1, -, -, hcx, -⟩ := (HRW.out.keep HB.out hh).cell hlt
          simp only [Value.slice.injEq] at e1
          obtain ⟨rfl, -, -⟩ := e1
          have HME := Lib.hid (fun p => fB_me (p := p) hlt)
          have HOT := Lib.hid (fun p q => fB_ot (p := p) (q := q) hlt)
          have HXM := Lib.hid (show L.getD i 0 ∈ L from getD_mem hlt)
          have HA1 := Lib.hid (show 1 ≤ L.getD i 0 ∧ L.getD i 0 ≤ (n2 : Int) → ∀ j, j < i + 1 → 1 ≤ L.getD j 0 ∧ L.getD j 0 ≤ (n2 : Int) from fun h j hj => by
            by_cases e : j < i
            · exact HALL.out j e
            · obtain rfl : j = i := by omega
              exact h)
          generalize L.getD i 0 = x at *
          by_cases hx : 1 ≤ x ∧ x ≤ (n2 : Int)
          · obtain ⟨p, rfl⟩ : ∃ p : Nat, x = (p : Int) + 1 := ⟨(x - 1).toNat, by omega⟩
            have hpn : p < n2 := by omega
            have hpi : (p : Int) < (n2 : Int) := by omega
            have d1 : decide ((p : Int) + 1 < 1) = false := decide_eq_false (by omega)
            have d2 : decide ((n2 : Int) < (p : Int) + 1) = false := decide_eq_false (by omega)
            have e3 : (p : Int) + 1 - 1 = (p : Int) := by omega
            have hcell := HROW.out.cell hpn
            have hfree := HROW.out.free p
            generalize fB L i p = y0 at hcell
            have HNEW := Lib.hid (HROW.out.set p 117 (fB L (i + 1)) (HME.out p rfl) (fun q hq => HOT.out p q rfl hq))
            have HA2 := Lib.hid (HA1.out hx)
            clear hx HALL HA1
            go_wp2
            exact ⟨⟨i + 1, by omega, by simp, HNEW.out, HA2.out, HB.out.setCell (p := ⟨g, p, none⟩) hgw _⟩, by simp [intOf]; omega⟩
          · have HT := Lib.hid (show tabB [L, M] = false from by
              rcases h : tabB [L, M] with _ | _
              · rfl
              · have := (tab_word h).2.1 x HXM.out
                have := HN2.out
                exact absurd ⟨by omega, by omega⟩ hx)
            have HP := Lib.hid (pathT_no HT.out)
            clear HALL HA1 HME HOT
            by_cases hx1 : x < 1
            · have d1 : decide (x < 1) = true := decide_eq_true hx1
              clear hx
              go_wp2
              go_ret2
              exact ⟨ret_sb HP.out.symm HT.out.symm, HB.out⟩
            · have d1 : decide (x < 1) = false := decide_eq_false hx1
              have hx2 : (n2 : Int) < x := by omega
              have d2 : decide ((n2 : Int) < x) = true := decide_eq_true hx2
              clear hx
              go_wp2
              go_ret2
              exact ⟨ret_sb HP.out.symm HT.out.symm, HB.out⟩
        · obtain rfl : i = L.length := by omega
          have hcv := HROW.out.conv
          rw [fB_word] at hcv
          have HDY := Lib.hid (show tabB [L, M] = true ↔ (dyck (wB L n2) = true ∧ tabP (wB L n2) = [L, M]) from by
            have hn := HN2.out
            constructor
            · intro h
              obtain ⟨-, -, a1, a2, a3⟩ := tab_word h
              rw [← hn] at a1 a2 a3
              refine ⟨a1, ?_⟩
              unfold tabP
              rw [if_pos a1, wB_size, a2, a3]
            · rintro ⟨a1, a2⟩
              unfold tabP at a2
              rw [if_pos a1, wB_size] at a2
              simp only [List.cons.injEq, and_true] at a2
              rw [hn] at a1 a2
              exact tab_of (by omega) a1 a2.1 a2.2)
          have HPT := Lib.hid (show tabB [L, M] = true → pathT [L, M] = wB L n2 from fun h => by
            rw [HN2.out]; exact if_pos h)
          have HTO := Lib.hid (tableauOfI (wB L n2) wr)
          have HRT := Lib.hid (show ∀ j, (tabP (wB L n2)).getD j [] = [] ∨ True from fun j => .inr trivial)
          have HTL := Lib.hid (show (tabP (wB L n2)).length ≤ 2 ∧ ∀ j, ((tabP (wB L n2)).getD j []).length ≤ 16 from by
            have hsz := wB_size L n2
            have b1 := plU_len (wB L n2) n2
            have b2 := plD_len (wB L n2) n2
            unfold tabP
            rw [hsz]
            split
            · refine ⟨Nat.le_refl _, fun j => ?_⟩
              match j with
              | 0 => exact Nat.le_trans b1 hn16
              | 1 => exact Nat.le_trans b2 hn16
              | j + 2 => exact Nat.zero_le _
            · exact ⟨Nat.zero_le _, fun j => Nat.zero_le _⟩)
          clear HALL HRT
          generalize wB L n2 = s at *
          rcases hd : dyck s with _ | _
          · rw [hd] at HTO
            have HT := Lib.hid (show tabB [L, M] = false from by
              rcases h : tabB [L, M] with _ | _
              · rfl
              · have := (HDY.out.1 h).1; rw [hd] at this; cases this)
            have HP := Lib.hid (pathT_no HT.out)
            clear hd HDY
            go_wp2_with fail
            (with_reducible refine HTO.out.mono ?_)
            rintro e w3 ⟨v3, vs3, rfl, -, hb3⟩
            have HB3 := Lib.hid (HB.out.trans (hb3.mono hBs))
            clear hb3
            go_wp2
            go_ret2
            exact ⟨ret_sb HP.out.symm HT.out.symm, HB3.out⟩
          · rw [hd] at HTO
            by_cases hq : tabP s = [L, M]
            · have HT := Lib.hid (HDY.out.2 ⟨hd, hq⟩)
              have HP := Lib.hid (HPT.out HT.out)
              have hdq : decide (tabP s = [L, M]) = true := decide_eq_true hq
              have HDQ := Lib.hid hdq
              clear hd HDY hq hdq
              generalize tabP s = ts at *
              go_wp2_with fail
              (with_reducible refine HTO.out.mono ?_)
              rintro e w3 ⟨v3, vs3, rfl, htb, hb3⟩
              have HB3 := Lib.hid (HB.out.trans (hb3.mono hBs))
              have h3s := hb3.size
              have HE := Lib.hid (equalFuncT v3 (.slice (some ⟨o, 0, none⟩) 2 c1) ts [L, M] _ _ lo hi w3 (OwnT.of htb) (HV.out.keep HB3.out hh) (Nat.le_refl _) (by omega) (by have := HTL.out.1; omega) (fun j => by have := HTL.out.2 j; omega))
              rw [HDQ.out] at HE
              obtain ⟨A3, c3, rfl⟩ := htb.form
              clear hb3 htb
              go_wp2_with fail
              (with_reducible refine HE.out.mono ?_)
              rintro e w4 ⟨rfl, hb4⟩
              have HB4 := Lib.hid (HB3.out.trans (hb4.mono (by omega)))
              clear hb4
              go_wp2
              go_ret2
              exact ⟨ret_sb HP.out.symm HT.out.symm, HB4.out⟩
            · have HT := Lib.hid (show tabB [L, M] = false from by
                rcases h : tabB [L, M] with _ | _
                · rfl
                · exact absurd (HDY.out.1 h).2 hq)
              have HP := Lib.hid (pathT_no HT.out)
              have HDQ := Lib.hid (show decide (tabP s = [L, M]) = false from decide_eq_false hq)
              clear hd HDY hq
              generalize tabP s = ts at *
              go_wp2_with fail
              (with_reducible refine HTO.out.mono ?_)
              rintro e w3 ⟨v3, vs3, rfl, htb, hb3⟩
              have HB3 := Lib.hid (HB.out.trans (hb3.mono hBs))
              have h3s := hb3.size
              have HE := Lib.hid (equalFuncT v3 (.slice (some ⟨o, 0, none⟩) 2 c1) ts [L, M] _ _ lo hi w3 (OwnT.of htb) (HV.out.keep HB3.out hh) (Nat.le_refl _) (by omega) (by have := HTL.out.1; omega) (fun j => by have := HTL.out.2 j; omega))
              rw [HDQ.out] at HE
              obtain ⟨A3, c3, rfl⟩ := htb.form
              clear hb3 htb
              go_wp2_with fail
              (with_reducible refine HE.out.mono ?_)
              rintro e w4 ⟨rfl, hb4⟩
              have HB4 := Lib.hid (HB3.out.trans (hb4.mono (by omega)))
              clear hb4
              go_wp2
              go_ret2
              exact ⟨ret_sb HP.out.symm HT.out.symm, HB4.out⟩
  · have HT := Lib.hid (tabB_two h2)
    have HP := Lib.hid (pathT_no HT.out)
    have d2 : ((ls.length : Int) != 2) = true := by simp; omega
    go_enter Try.func14, Try.ntmps14
    go_wp2
    go_ret2
    exact ⟨ret_sb HP.out.symm HT.out.symm, Below.refl _ _⟩

theorem isTableauI (v : Value) (ls : List (List Int)) (lo hi : Nat) (w : World) (hv : OwnT w lo hi v ls) (hh : hi ≤ w.heap.size) (hl : ls.length ≤ 1048576) (hr : ∀ j, (ls.getD j []).length ≤ 1048576) :
    Calls Try.prog 11 #[v] w fun e w' => e = .returned (.bool (tabB ls)) ∧ Below w.heap.size w w' := by
  have HC := Lib.hid (pathOfTableauI v ls lo hi w hv hh hl hr)
  clear hv hr
  go_enter Try.func11, Try.ntmps11
  go_wp2_with fail
  (with_reducible refine HC.out.mono ?_)
  rintro e w1 ⟨rfl, hb⟩
  go_wp2
  go_ret
  exact ⟨rfl, hb⟩

end Go.Proofs.Ytefbbkogfoongaa
