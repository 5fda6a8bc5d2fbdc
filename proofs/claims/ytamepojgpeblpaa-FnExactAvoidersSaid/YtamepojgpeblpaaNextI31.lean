/- The program's toNext. -/
import Derived.Test.YtamepojgpeblpaaNext31
namespace Go.Proofs.Ytamepojgpeblpaa
open Go.ChangeShapes Go.WideShapes Go.ChangeAt Go.RowKit
set_option linter.unusedVariables false

/-- The next number is not less. -/
def upJ (l : List Int) (j : Nat) : Bool := decide (¬ l.getD (j + 1) 0 < l.getD j 0)
def lastUp (l : List Int) : Nat → Option Nat
  | 0 => none
  | j + 1 => if upJ l j = true then some j else lastUp l j
theorem lastUp_some {l : List Int} {i : Nat} (h : upJ l i = true) : ∀ n, i < n → (∀ j, i < j → j < n → upJ l j = false) → lastUp l n = some i := by
  intro n
  induction n with
  | zero => intro hi; omega
  | succ n ih =>
    intro hi hn
    rw [lastUp]
    by_cases e : i = n
    · subst e; rw [if_pos h]
    · rw [if_neg (by rw [hn n (by omega) (by omega)]; decide)]
      exact ih (by omega) fun j h1 h2 => hn j h1 (by omega)
theorem lastUp_none {l : List Int} : ∀ n, (∀ j, j < n → upJ l j = false) → lastUp l n = none := by
  intro n
  induction n with
  | zero => intro _; rfl
  | succ n ih =>
    intro hn
    rw [lastUp, if_neg (by rw [hn n (by omega)]; decide)]
    exact ih fun j h => hn j (by omega)
/-- The first of the numbers turned round that is not less. -/
def grN (l : List Int) (i : Nat) : Nat := (List.range (l.length - (i + 1))).findIdx fun g => decide (¬ (rvL l (i + 1)).getD (i + 1 + g) 0 < l.getD i 0)
theorem grN_eq {l : List Int} {i g : Nat} (hg : g < l.length - (i + 1)) (h : ¬ (rvL l (i + 1)).getD (i + 1 + g) 0 < l.getD i 0) (hn : ∀ q, q < g → (rvL l (i + 1)).getD (i + 1 + q) 0 < l.getD i 0) : grN l i = g := by
  unfold grN
  rw [List.findIdx_eq (by rw [List.length_range]; exact hg)]
  exact ⟨by simpa using h, fun j hj => by simpa using hn j hj⟩
def nxA (l : List Int) (i g : Nat) : List Int := ((rvL l (i + 1)).set i ((rvL l (i + 1)).getD (i + 1 + g) 0)).set (i + 1 + g) (l.getD i 0)
def nextL (l : List Int) : Option (List Int) :=
  match lastUp l (l.length - 1) with
  | none => none
  | some i => some (nxA l i (grN l i))
theorem rvL_low (l : List Int) (o q : Nat) (h : q < o) (hq : q < l.length) : (rvL l o).getD q 0 = l.getD q 0 := by
  unfold rvL
  rw [rvK_at _ _ _ _ hq]
  unfold rvF
  rw [if_neg (by omega)]
theorem rvL_last (l : List Int) (o : Nat) (h : o < l.length) : (rvL l o).getD (l.length - 1) 0 = l.getD o 0 := by
  unfold rvL
  rw [rvK_at _ _ _ _ (by omega)]
  unfold rvF
  by_cases e : l.length - o = 1
  · rw [if_neg (by omega)]; congr 1; omega
  · rw [if_pos (by omega)]; congr 1; omega

set_option maxRecDepth 100000 in
set_option maxHeartbeats 6400000 in
theorem toNextI (g cap : Nat) (l : List Int) (lo hi : Nat) (w : World) (hv : OwnI w lo hi (.slice (some ⟨g, 0, none⟩) l.length cap) l) (hcap : l.length ≤ cap) (hl : l.length ≤ 1048576) (hlo : lo ≤ g) (hhi : hi ≤ w.heap.size) :
    Calls Try.prog 62 #[.slice (some ⟨g, 0, none⟩) l.length cap] w fun e w' => e = .returned (.bool (nextL l).isSome) ∧ OwnI w' lo hi (.slice (some ⟨g, 0, none⟩) l.length cap) ((nextL l).getD l) ∧ w.heap.size = w'.heap.size ∧ Below lo w w' := by
  have HV := Lib.hid hv
  clear hv
  go_enter Try.func62, Try.ntmps62
  go_wp2
  go_loopw [3] (fun y wr => ∃ (t : Int) (q : Nat), y = .int .i64 t ∧ t ≤ (l.length : Int) - 2 ∧ -2 ≤ t ∧ wr = w.drewN q ∧ ∀ j : Nat, t < j → j + 1 < l.length → upJ l j = false) (fun y _ => (intOf y + 1).toNat)
  case atStart => exact ⟨_, 0, rfl, Int.le_refl _, by omega, rfl, fun j h1 h2 => by omega⟩
  case round =>
    obtain ⟨t, q, rfl, ht1, ht2, rfl, hno⟩ := hrel
    have HNO := Lib.hid hno
    clear hno
    by_cases hpos : 0 ≤ t
    · obtain ⟨i, rfl⟩ : ∃ i : Nat, t = (i : Int) := ⟨t.toNat, by omega⟩
      obtain ⟨n1, hn1⟩ : ∃ n1, n1 = i + 1 := ⟨_, rfl⟩
      have hi1 : (i : Int) + 1 = (n1 : Int) := by omega
      have hil : (i : Int) < (l.length : Int) := by omega
      have hnl : (n1 : Int) < (l.length : Int) := by omega
      obtain ⟨g1, p1, e1, -, -, hc1, hf1⟩ := HV.out.cell (j := i) (by omega)
      simp only [Value.slice.injEq, Option.some.injEq, Addr.mk.injEq] at e1
      obtain ⟨⟨rfl, -⟩, -, -⟩ := e1
      obtain ⟨g2, p2, e2, -, -, hc2, hf2⟩ := HV.out.cell (j := n1) (by omega)
      simp only [Value.slice.injEq, Option.some.injEq, Addr.mk.injEq] at e2
      obtain ⟨⟨rfl, -⟩, -, -⟩ := e2
      have HU := Lib.hid (show upJ l i = decide (¬ l.getD n1 0 < l.getD i 0) by rw [hn1]; rfl)
      have HX := Lib.hid (show l.getD i 0 = l.getD i 0 from rfl)
      by_cases hd : l.getD n1 0 < l.getD i 0
      · have HN1 := Lib.hid (show ∀ j : Nat, (i : Int) - 1 < j → j + 1 < l.length → upJ l j = false from fun j h1 h2 => by
          by_cases e : (i : Int) < j
          · exact HNO.out j e h2
          · obtain rfl : j = i := by omega
            rw [HU.out]; exact decide_eq_false (fun h => h hd))
        generalize l.getD n1 0 = y at hc2 hd
        generalize l.getD i 0 = x at hc1 hd
        have HNN := Lib.hid hn1
        clear hn1
        go_wp2
        go_quiet (fail)
        go_wp2
        exact ⟨⟨(i : Int) - 1, q + nq, rfl, by omega, by omega, rfl, HN1.out⟩, by simp [intOf]⟩
      · have hup : upJ l i = true := by rw [HU.out]; exact decide_eq_true hd
        have hlu := lastUp_some hup (l.length - 1) (by omega) (fun j h1 h2 => HNO.out j (by omega) (by omega))
        have HNX := Lib.hid (show nextL l = some (nxA l i (grN l i)) by unfold nextL; rw [hlu])
        have HY := Lib.hid (show (rvL l n1).getD (n1 + (l.length - n1 - 1)) 0 = l.getD n1 0 by rw [show n1 + (l.length - n1 - 1) = l.length - 1 by omega]; exact rvL_last l n1 (by omega))
        have HXI := Lib.hid (show (rvL l n1).getD i 0 = l.getD i 0 from rvL_low l n1 i (by omega) (by omega))
        have HDN := Lib.hid hd
        have HRL := Lib.hid (rvL_len l n1)
        have hnle : n1 ≤ l.length := by omega
        obtain ⟨m, hm⟩ : ∃ m, m = l.length - n1 := ⟨_, rfl⟩
        have hm1 : 1 ≤ m := by omega
        have hsr := fun W => run_fromN W g n1 l.length cap hnle (by omega)
        rw [← hm] at hsr HY
        have HRV := Lib.hid (fun W (hW : OwnI W lo hi (.slice (some ⟨g, 0, none⟩) l.length cap) l) => reverseI g n1 m (cap - n1) cap l lo hi W hW (by omega) hm1 hl hlo)
        have HVD := Lib.hid (fun q => show OwnI (w.drewN q) lo hi (.slice (some ⟨g, 0, none⟩) l.length cap) l from HV.out)
        have HGR := Lib.hid (fun gg (h1 : gg < m) (h2 : ¬ (rvL l n1).getD (n1 + gg) 0 < l.getD i 0) (h3 : ∀ q, q < gg → (rvL l n1).getD (n1 + q) 0 < l.getD i 0) => show grN l i = gg from grN_eq (by omega) (by rw [← hn1]; exact h2) (fun q hq => by rw [← hn1]; exact h3 q hq))
        have HNA := Lib.hid (fun gg => show nxA l i gg = ((rvL l n1).set i ((rvL l n1).getD (n1 + gg) 0)).set (n1 + gg) (l.getD i 0) by unfold nxA; rw [← hn1])
        have HMM := Lib.hid hm
        have HNN := Lib.hid hn1
        have hdx : ¬ (l.getD n1 0 < l.getD i 0) := hd
        have hml : (m : Int) ≤ (l.length : Int) := by omega
        clear hm hn1 hup hlu hd
        generalize hzy : l.getD n1 0 = y at hc2 hdx
        generalize hzx : l.getD i 0 = x at hc1 hdx
        have HZY := Lib.hid hzy
        have HZX := Lib.hid hzx
        clear hzy hzx
        go_wp2
        go_quiet (fail)
        go_wp2_with fail
        (with_reducible refine (HRV.out _ (HVD.out _)).mono ?_)
        rintro e w3 ⟨rfl, ho3, hz3, hb3⟩
        have HO3 := Lib.hid ho3
        have HZ3 := Lib.hid (show w.heap.size = w3.heap.size from hz3)
        have HB3 := Lib.hid (show Below lo w w3 from (below_drewN (Below.refl lo w) _).trans hb3)
        clear ho3 hz3 hb3 hc1 hc2 hf1 hf2 hdx
        go_wp2
        go_loopw [5] (fun y wr => ∃ (gg q : Nat), gg < m ∧ y = .int .i64 gg ∧ wr = w3.drewN q ∧ ∀ q, q < gg → (rvL l n1).getD (n1 + q) 0 < l.getD i 0) (fun y _ => m - (intOf y).toNat)
        case atStart => exact ⟨0, 0, hm1, rfl, rfl, fun q h => absurd h (Nat.not_lt_zero _)⟩
        case round =>
          obtain ⟨gg, q2, hgg, rfl, rfl, hlow⟩ := hrel
          have HLW := Lib.hid hlow
          clear hlow
          have hggi : (gg : Int) < (m : Int) := by omega
          have hngl : n1 + gg < l.length := by have := HMM.out; omega
          obtain ⟨g1, p1, e1, -, -, hc1, hf1⟩ := HO3.out.cell (j := i) (by rw [HRL.out]; omega)
          simp only [Value.slice.injEq, Option.some.injEq, Addr.mk.injEq] at e1
          obtain ⟨⟨rfl, -⟩, -, -⟩ := e1
          obtain ⟨g2, p2, e2, -, -, hc2, hf2⟩ := HO3.out.cell (j := n1 + gg) (by rw [HRL.out]; exact hngl)
          simp only [Value.slice.injEq, Option.some.injEq, Addr.mk.injEq] at e2
          obtain ⟨⟨rfl, -⟩, -, -⟩ := e2
          rw [HXI.out] at hc1
          have HLAST := Lib.hid (show ¬ (rvL l n1).getD (n1 + gg) 0 < l.getD i 0 → True from fun _ => trivial)
          have hlastm : ¬ (gg + 1 < m) → ¬ (rvL l n1).getD (n1 + gg) 0 < l.getD i 0 := fun h => by
            rw [show gg = m - 1 by omega, HY.out]; exact Int.not_lt.2 HDN.out
          have HLM := Lib.hid hlastm
          by_cases hd : (rvL l n1).getD (n1 + gg) 0 < l.getD i 0
          · have hgm : gg + 1 < m := by
              by_cases h : gg + 1 < m
              · exact h
              · exact absurd hd (HLM.out h)
            have HN1 := Lib.hid (show ∀ q, q < gg + 1 → (rvL l n1).getD (n1 + q) 0 < l.getD i 0 from fun q hq => by
              by_cases e : q < gg
              · exact HLW.out q e
              · obtain rfl : q = gg := by omega
                exact hd)
            clear hlastm
            generalize (rvL l n1).getD (n1 + gg) 0 = b at hc2 hd
            generalize hga : l.getD i 0 = a at hc1 hd
            have HGA := Lib.hid hga
            clear hga
            go_wp2
            go_quiet (fail)
            go_wp2
            exact ⟨⟨gg + 1, q2 + nq, hgm, by simp, rfl, fun q hq => by rw [← HGA.out]; exact HN1.out q hq⟩, by simp [intOf]; omega⟩
          · have HG := Lib.hid (HGR.out gg hgg (Int.not_lt.1 hd) HLW.out)
            have HNA1 := Lib.hid (HNA.out gg)
            have hine : i ≠ n1 + gg := by have := HNN.out; omega
            clear hlastm
            have HL1 := HRL.out
            generalize hR : rvL l n1 = R at *
            generalize R.getD (n1 + gg) 0 = b at *
            generalize l.getD i 0 = a at *
            have HO4 := Lib.hid (HO3.out.set (j := i) (y := b) (ys := R.set i b) (by rw [HL1]; omega) (by rw [List.length_set]) (by rw [getD_set R _ _ _ (by rw [HL1]; omega), if_pos rfl]) (fun j hj hne => by rw [getD_set R _ _ _ (by rw [HL1]; omega), if_neg (by omega)]))
            have HO5 := Lib.hid (HO4.out.set (j := n1 + gg) (y := a) (ys := (R.set i b).set (n1 + gg) a) (by rw [List.length_set, HL1]; exact hngl) (by rw [List.length_set]) (by rw [getD_set _ _ _ _ (by rw [List.length_set, HL1]; exact hngl), if_pos rfl]) (fun j hj hne => by rw [getD_set _ _ _ _ (by rw [List.length_set, HL1]; exact hngl), if_neg (by omega)]))
            have HLL := Lib.hid HL1
            clear HL1 hR
            go_wp2
            go_quiet (fail)
            go_wp2
            go_region
            all_goals go_wp2
            all_goals go_ret
            refine ⟨by rw [HNX.out]; rfl, by rw [HNX.out, HG.out]; show OwnI _ lo hi _ (nxA l i gg); rw [HNA1.out]; exact HO5.out, by simpa [World.setCell] using HZ3.out, ?_⟩
            exact ((below_drewN HB3.out _).setCell (p := ⟨g, i, none⟩) hlo _).setCell (p := ⟨g, n1 + gg, none⟩) hlo _
    · have hlu := lastUp_none (l := l) (l.length - 1) (fun j h => HNO.out j (by omega) (by omega))
      have HNX := Lib.hid (show nextL l = none by unfold nextL; rw [hlu])
      have hd0 : decide (0 ≤ t) = false := decide_eq_false hpos
      have hneg : t < 0 := by omega
      clear hlu
      go_wp2
      go_quiet (fail)
      go_wp2
      go_ret
      exact ⟨by rw [HNX.out]; rfl, by rw [HNX.out]; exact HV.out, rfl, below_drewN (Below.refl lo w) _⟩

end Go.Proofs.Ytamepojgpeblpaa
