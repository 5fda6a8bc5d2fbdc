/- The program's street of places: park. -/
import Derived.Test.YtidfbnfgmacjgaaFact12
import Derived.Test.YtidfbnfgmacjgaaRow10
namespace Go.Proofs.Ytidfbnfgmacjgaa
open Go.ChangeShapes Go.WideShapes Go.ChangeAt Go.RowKit
set_option linter.unusedVariables false

/-- Block g is a street of n places, those of t taken. -/
def StB (w : World) (g n : Nat) (t : List Int) : Prop := ∃ C : Array Value, w.heap[g]? = some (.cells C 37 (0, 0)) ∧ C.size = 7 ∧ C[0]? = some (.int .i64 (n : Int)) ∧ ∀ l, l < 6 → C[1 + l]? = some (.bool (decide (((1 + l : Nat) : Int) ∈ t)))
theorem StB.lt {w : World} {g n : Nat} {t : List Int} (h : StB w g n t) : g < w.heap.size := by
  obtain ⟨C, h1, -⟩ := h
  exact (Array.getElem?_eq_some_iff.1 h1).1
theorem StB.keep {w w' : World} {g n : Nat} {t : List Int} (h : StB w g n t) (e : w'.heap[g]? = w.heap[g]?) : StB w' g n t := by
  obtain ⟨C, h1, h2⟩ := h
  exact ⟨C, e.trans h1, h2⟩
theorem StB.places {w : World} {g n : Nat} {t : List Int} (h : StB w g n t) : w.cell? ⟨g, 0, none⟩ = some (.int .i64 (n : Int)) := by
  obtain ⟨C, h1, -, h2, -⟩ := h
  rw [cell_of_row w g 0 C _ (0, 0) h1]; exact h2
theorem StB.cell {w : World} {g n : Nat} {t : List Int} (h : StB w g n t) {l : Nat} (hl : l < 6) : w.cell? ⟨g, 1 + l, none⟩ = some (.bool (decide (((1 + l : Nat) : Int) ∈ t))) ∧ w.frozen? ⟨g, 1 + l, none⟩ = false := by
  obtain ⟨C, h1, -, -, h3⟩ := h
  refine ⟨?_, by simp [World.frozen?, h1]⟩
  rw [cell_of_row w g _ C _ (0, 0) h1]; exact h3 l hl
theorem StB.park {w : World} {g n l : Nat} {t : List Int} (h : StB w g n t) (hl : l < 6) : StB (w.setCell ⟨g, 1 + l, none⟩ (.bool true)) g n (t ++ [((1 + l : Nat) : Int)]) := by
  obtain ⟨C, h1, h0, h2, h3⟩ := h
  refine ⟨C.setIfInBounds (1 + l) (.bool true), by simp [World.setCell, Array.getElem?_modify, h1], by simpa using h0, by rw [Array.getElem?_setIfInBounds_ne (by omega)]; exact h2, fun q hq => ?_⟩
  by_cases e : q = l
  · subst e
    rw [Array.getElem?_setIfInBounds_self_of_lt (by omega), decide_eq_true (by simp)]
  · rw [Array.getElem?_setIfInBounds_ne (by omega), h3 q hq]
    congr 2
    simp only [List.mem_append, List.mem_singleton]
    congr 1
    exact propext ⟨.inl, fun h => h.resolve_right (by omega)⟩

set_option maxRecDepth 100000 in
set_option maxHeartbeats 1600000 in
theorem parkI_low (g n : Nat) (t : List Int) (y : Int) (w : World) (hy : y < 1) :
    Calls Try.prog 29 #[.pointer (some ⟨g, 0, none⟩), .int .i64 y] w fun e w' => e = .returned (.tuple #[.int .i64 0, .bool false]) ∧ w = w' := by
  go_enter Try.func29, Try.ntmps29
  go_wp2
  go_ret2
  exact ⟨rfl, rfl⟩

set_option maxRecDepth 100000 in
set_option maxHeartbeats 1600000 in
theorem parkI (g n y P : Nat) (t : List Int) (w : World) (hs : StB w g n t) (hn : n ≤ 6) (hy : 1 ≤ y) (hy2 : (y : Int) ≤ 9223372036854775807) (hP : frP t (n + 1 - y) y = P) :
    Calls Try.prog 29 #[.pointer (some ⟨g, 0, none⟩), .int .i64 (y : Int)] w fun e w' =>
      (P ≤ n → e = .returned (.tuple #[.int .i64 (P : Int), .bool true]) ∧ w' = w.setCell ⟨g, P, none⟩ (.bool true)) ∧ (n < P → e = .returned (.tuple #[.int .i64 0, .bool false]) ∧ w' = w) := by
  have HS := Lib.hid hs
  have hpl := hs.places
  have HP := Lib.hid hP
  clear hs hP
  have hy1 : ¬ (y : Int) < 1 := by omega
  go_enter Try.func29, Try.ntmps29
  go_wp2
  go_loop [6] (fun x => ∃ p : Nat, 1 ≤ p ∧ (p : Int) ≤ 9223372036854775807 ∧ x = .int .i64 p ∧ frP t (n + 1 - p) p = P) (fun x => n + 1 - (intOf x).toNat)
  case atStart => exact ⟨y, hy, hy2, rfl, HP.out⟩
  case round =>
    obtain ⟨p, hp1, hp2, rfl, hfr⟩ := hrel
    have HFR := Lib.hid hfr
    clear hfr
    by_cases hpn : p ≤ n
    · have hpi : (p : Int) ≤ (n : Int) := by omega
      obtain ⟨l, hl⟩ : ∃ l, p = 1 + l := ⟨p - 1, by omega⟩
      obtain ⟨-, hf⟩ := HS.out.cell (l := l) (by omega)
      have hc : w.cell? ⟨g, 1 + l, none⟩ = some (.bool (decide ((p : Int) ∈ t))) := by rw [hl]; exact (HS.out.cell (l := l) (by omega)).1
      have hli : (p : Int) - 1 = (l : Int) := by omega
      have hl6 : (l : Int) < 6 := by omega
      have HL := Lib.hid hl
      clear hl
      by_cases hmem : (p : Int) ∈ t
      · rw [decide_eq_true hmem] at hc
        have HNX := Lib.hid ((frP_hit hpn hmem).symm.trans HFR.out)
        clear hmem
        go_wp2
        exact ⟨⟨p + 1, by omega, by omega, by simp, HNX.out⟩, by simp [intOf]; omega⟩
      · rw [decide_eq_false hmem] at hc
        obtain rfl : p = P := (frP_free hpn hmem).symm.trans HFR.out
        clear hmem
        go_wp2
        go_ret2
        first | exact ⟨fun _ => ⟨rfl, by rw [← HL.out]⟩, fun h => by omega⟩ | exact fun _ => ⟨rfl, by rw [← HL.out]⟩ | exact ⟨rfl, by rw [← HL.out]⟩ | exact ⟨⟨rfl, by rw [← HL.out]⟩, fun h => by omega⟩
    · have hpi : ¬ (p : Int) ≤ (n : Int) := by omega
      obtain rfl : p = P := (frP_far (by omega)).symm.trans HFR.out
      go_wp2
      go_ret2
      first | exact ⟨fun h => by omega, fun _ => ⟨rfl, rfl⟩⟩ | exact fun _ => ⟨rfl, rfl⟩

theorem stB_new (w : World) (n : Nat) : StB (w.alloc (.cells #[.int .i64 (n : Int), .bool false, .bool false, .bool false, .bool false, .bool false, .bool false] 37)) w.heap.size n [] := by
  refine ⟨_, by rw [show ∀ o, (w.alloc o).heap = w.heap.push o from fun o => rfl]; simp; rfl, rfl, rfl, fun l hl => ?_⟩
  match l, hl with
  | 0, _ => rfl
  | 1, _ => rfl
  | 2, _ => rfl
  | 3, _ => rfl
  | 4, _ => rfl
  | 5, _ => rfl
theorem wf_bd {y : Int} (h : (Lit.int .i64 y).wf = true) : -9223372036854775808 ≤ y ∧ y ≤ 9223372036854775807 := by
  simpa [Lit.wf, IntKind.min, IntKind.max, IntKind.signed, IntKind.bits] using h
theorem set_step (l : List Int) (n i : Nat) (y : Int) (hl : l.length = i) (hi : i < n) : (l ++ List.replicate (n - i) 0).set i y = (l ++ [y]) ++ List.replicate (n - (i + 1)) 0 := by
  obtain ⟨k, hk⟩ : ∃ k, n - i = k + 1 := ⟨n - i - 1, by omega⟩
  rw [hk, show n - (i + 1) = k by omega, List.set_append_right _ _ (by omega), hl, Nat.sub_self, List.replicate_succ, List.set_cons_zero]
  simp

set_option maxRecDepth 100000 in
set_option maxHeartbeats 3200000 in
theorem placesOfI (A1 : Option Addr) (xs : List Int) (c1 lo hi : Nat) (w : World) (hv : OwnI w lo hi (.slice A1 xs.length c1) xs) (hhi : hi ≤ w.heap.size) (hwf : ∀ y ∈ xs, (Lit.int .i64 y).wf = true) :
    Calls Try.prog 15 #[.slice A1 xs.length c1] w (AnsIB (plcP xs) (parkB xs) w) := by
  have HV := Lib.hid hv
  clear hv
  by_cases h6 : 6 < xs.length
  · have HO := Lib.hid (park_long h6)
    have HP := Lib.hid (plcP_no HO.out)
    have h6i : (6 : Int) < (xs.length : Int) := by omega
    go_enter Try.func15, Try.ntmps15
    go_wp2
    go_ret2
    exact ⟨_, ret_ib rfl HO.out.symm, by rw [HP.out]; exact ⟨none, 0, rfl, .inl rfl⟩, Below.refl _ _⟩
  · have h6i : ¬ (6 : Int) < (xs.length : Int) := by omega
    obtain ⟨i0, hi0, hz0, hz1, hz2⟩ := info_parts info3
    go_enter Try.func15, Try.ntmps15
    go_wp2_with (at_make; go_must (refine wpList_make_full _ rfl _ _ 22 rfl (w.heap.size + 1) 3 i0 (.int .i64 0) 1 Try.underlying22 hi0 hz0 hz1 .i64 .i64 (xs.length : Int) (xs.length : Int) xs.length rfl rfl rfl rfl (by rw [hz2]; omega) (by unfold maxLen; omega) (by simp) ?_); intro w2 hown1 hgrow1)
    have HS0 := Lib.hid (stB_new w xs.length)
    rw [show (w.alloc (.cells #[.int .i64 (xs.length : Int), .bool false, .bool false, .bool false, .bool false, .bool false, .bool false] 37)).heap.size = w.heap.size + 1 by simp] at hown1
    have hlt1 : w.heap.size + 1 < w2.heap.size := (hown1.lt _ rfl).2
    have HTB := Lib.hid (TbR.made hown1)
    have HST := Lib.hid (HS0.out.keep (hgrow1.block _ (by simp) (by simp)))
    have HB2 := Lib.hid (((Below.refl w.heap.size w).alloc (Nat.le_refl _) (.cells #[.int .i64 (xs.length : Int), .bool false, .bool false, .bool false, .bool false, .bool false, .bool false] 37)).grown hgrow1 (by simp) (fun k hk => by cases hk))
    clear hown1 hgrow1 HS0
    go_loopw [21] (fun x wr => ∃ i : Nat, i ≤ xs.length ∧ x = .int .i64 i ∧ StB wr w.heap.size xs.length (pkL xs i) ∧ TbR wr (w.heap.size + 1) (pkL xs i ++ List.replicate (xs.length - i) 0) ∧ Below w.heap.size w wr ∧ ∀ j, j < i → cOk xs j) (fun x _ => xs.length - (intOf x).toNat)
    case atStart => exact ⟨0, Nat.zero_le _, rfl, HST.out, HTB.out, HB2.out, fun j h => absurd h (Nat.not_lt_zero _)⟩
    case round =>
      obtain ⟨i, hi1, rfl, hst, htb, hb, hco⟩ := hrel
      have HS := Lib.hid hst
      have HT := Lib.hid htb
      have HB := Lib.hid hb
      have HCO := Lib.hid hco
      clear hst htb hb hco HST HTB HB2
      by_cases hlt : i < xs.length
      · obtain ⟨g1, p1, e1, -, -, hc1, -⟩ := (HV.out.keep HB.out hhi).cell hlt
        simp only [Value.slice.injEq] at e1
        obtain ⟨rfl, -, rfl⟩ := e1
        have hii : (i : Int) < (xs.length : Int) := by omega
        have hbd := wf_bd (y := xs.getD i 0) (by rw [List.getD_eq_getElem?_getD, List.getElem?_eq_getElem hlt]; exact hwf _ (List.getElem_mem _))
        have HNO := Lib.hid (fun h : ¬ cOk xs i => park_no hlt h)
        have HSU := Lib.hid (pkL_succ xs i)
        have hpl := pkL_len xs i
        have HSS := Lib.hid fun y => set_step (pkL xs i) xs.length i y hpl hlt
        by_cases hy1 : xs.getD i 0 < 1
        · have HO := Lib.hid (HNO.out fun h => by have := h.1.1; omega)
          have HP := Lib.hid (plcP_no HO.out)
          generalize xs.getD i 0 = y at *
          go_wp2_with fail
          (with_reducible refine (parkI_low _ xs.length (pkL xs i) y _ hy1).mono ?_)
          rintro e w' ⟨rfl, rfl⟩
          go_wp2
          go_ret2
          exact ⟨_, ret_ib rfl HO.out.symm, by rw [HP.out]; exact ⟨none, 0, rfl, .inl rfl⟩, HB.out⟩
        · obtain ⟨y, hy⟩ : ∃ y : Nat, xs.getD i 0 = y := ⟨(xs.getD i 0).toNat, by omega⟩
          have HPL := Lib.hid (show frP (pkL xs i) (xs.length + 1 - y) y = plN xs i by unfold plN; rw [hy]; rfl)
          have HCK := Lib.hid (show cOk xs i ↔ (1 ≤ xs.getD i 0 ∧ xs.getD i 0 ≤ (xs.length : Int)) ∧ plN xs i ≤ xs.length from Iff.rfl)
          have hge := frP_ge (pkL xs i) (xs.length + 1 - y) y
          rw [HPL.out] at hge
          rw [hy] at hc1 hbd hy1 HCK
          have HPK := Lib.hid (parkI w.heap.size xs.length y (plN xs i) (pkL xs i) wr HS.out (by omega) (by omega) hbd.2 HPL.out)
          clear hy
          generalize plN xs i = P at *
          have hpos : i < (pkL xs i ++ List.replicate (xs.length - i) 0).length := by rw [List.length_append, List.length_replicate]; omega
          by_cases hPn : P ≤ xs.length
          · have HCI := Lib.hid (HCK.out.2 ⟨⟨by omega, by omega⟩, hPn⟩)
            obtain ⟨l, hl⟩ : ∃ l, P = 1 + l := ⟨P - 1, by omega⟩
            have HS2 := Lib.hid (show StB (wr.setCell ⟨w.heap.size, P, none⟩ (.bool true)) w.heap.size xs.length (pkL xs i ++ [(P : Int)]) by rw [hl]; exact HS.out.park (by omega))
            have HT2 := Lib.hid (HT.out.other (g' := w.heap.size) (q := P) (by omega) (.bool true))
            have HB3 := Lib.hid (HB.out.setCell (p := ⟨w.heap.size, P, none⟩) (Nat.le_refl _) (.bool true))
            obtain ⟨hc2, hf2⟩ := HT2.out.cell hpos
            clear hl
            generalize pkL xs i ++ List.replicate (xs.length - i) 0 = L at *
            generalize L.getD i 0 = z0 at hc2
            have HPN := Lib.hid hPn
            go_wp2_with fail
            (with_reducible refine HPK.out.mono ?_)
            rintro e w' hpost
            obtain ⟨rfl, rfl⟩ := hpost.1 HPN.out
            clear hpost
            obtain ⟨W, hW⟩ : ∃ W, W = wr.setCell ⟨w.heap.size, P, none⟩ (.bool true) := ⟨_, rfl⟩
            rw [← hW] at HS2 HT2 HB3 hc2 hf2
            rw [← hW]
            clear hW hPn
            go_wp2
            go_roundw
            case rel =>
              refine ⟨i + 1, by omega, by simp, ?_, by rw [HSU.out, ← HSS.out]; exact HT2.out.set i _, HB3.out.setCell (p := ⟨w.heap.size + 1, i, none⟩) (by simp) _, fun j hj => ?_⟩
              · rw [HSU.out]
                exact HS2.out.keep (by simp [World.setCell, Array.getElem?_modify])
              · by_cases e : j < i
                · exact HCO.out j e
                · obtain rfl : j = i := by omega
                  exact HCI.out
            case measure => simp [intOf]; omega
          · have HO := Lib.hid (HNO.out fun h => hPn (HCK.out.1 h).2)
            have HP := Lib.hid (plcP_no HO.out)
            have HPN := Lib.hid (show xs.length < P by omega)
            clear hPn
            go_wp2_with fail
            (with_reducible refine HPK.out.mono ?_)
            rintro e w' hpost
            obtain ⟨rfl, rfl⟩ := hpost.2 HPN.out
            clear hpost
            go_wp2
            go_ret2
            exact ⟨_, ret_ib rfl HO.out.symm, by rw [HP.out]; exact ⟨none, 0, rfl, .inl rfl⟩, HB.out⟩
      · obtain rfl : i = xs.length := by omega
        have HO := Lib.hid (park_all (by omega) HCO.out)
        have HP := Lib.hid (plcP_yes HO.out)
        have hpl := pkL_len xs xs.length
        have HR := Lib.hid (show OwnI wr w.heap.size wr.heap.size (.slice (some ⟨w.heap.size + 1, 0, none⟩) xs.length xs.length) (pkL xs xs.length) by
          have h := HT.out
          rw [Nat.sub_self, List.replicate_zero, List.append_nil] at h
          have h2 := h.own (Nat.le_succ w.heap.size) xs.length
          rwa [hpl] at h2)
        clear hpl
        go_wp2
        go_ret2
        exact ⟨_, ret_ib rfl HO.out.symm, by rw [HP.out]; exact HR.out, HB.out⟩

end Go.Proofs.Ytidfbnfgmacjgaa
