/- Tables of ints that came in: szIntSS, toIntSS. -/
import Derived.Test.YtkpnfonedfomaaaSpec2G
import Derived.Test.YtkpnfonedfomaaaTblLZ
namespace Go.Proofs.Ytkpnfonedfomaaa
open Go.ChangeShapes Go.WideShapes Go.ChangeAt Go.RowKit
set_option linter.unusedVariables false

/-- v is a table that came in, and the rows ls are what it holds. -/
def ArgT (w : World) (v : Value) (ls : List (List Int)) : Prop :=
  ∃ A cap, v = .slice A ls.length cap ∧ ∀ j, j < ls.length → ∃ (a : Addr) (rv : Value), A = some a ∧ a.block < w.heap.size ∧ w.cell? (a.add j) = some rv ∧ ArgI w rv (ls.getD j [])
theorem ArgT.keep {w w' : World} {v : Value} {ls : List (List Int)} (h : ArgT w v ls) (hb : Below w.heap.size w w') : ArgT w' v ls := by
  obtain ⟨A, cap, e, k⟩ := h
  refine ⟨A, cap, e, fun j hj => ?_⟩
  obtain ⟨a, rv, h1, h2, h3, h4⟩ := k j hj
  exact ⟨a, rv, h1, Nat.lt_of_lt_of_le h2 hb.size, (hb.cell (p := a.add j) (by rw [add_block]; exact h2)).trans h3, h4.keep hb⟩

theorem szIC (v : Value) (xs : List Int) (k : Int) (w : World) (hv : ArgI w v xs) (hm : xs.length ≤ 9223372036854775807) (h0 : 0 ≤ k) (h1 : k ≤ 1048576) :
    Calls Try.prog 29 #[v, .int .i64 k] w fun e w' => (∃ r : Int, e = .returned (.int .i64 r) ∧ ((r < 0 ∧ -1 ≤ r) ∨ (0 ≤ r ∧ r ≤ 1048576 ∧ xs.length ≤ 1048576))) ∧ w' = w := by
  obtain ⟨A1, c1, rfl, -⟩ := hv
  by_cases hb : k < xs.length
  · have h2 : k - (xs.length : Int) < 0 := by omega
    go_enter Try.func29, Try.ntmps29
    go_wp2
    go_ret
    exact ⟨⟨_, rfl, .inl ⟨by decide, by decide⟩⟩, rfl⟩
  · have h2 : ¬ (k - (xs.length : Int) < 0) := by omega
    go_enter Try.func29, Try.ntmps29
    go_wp2
    go_ret
    exact ⟨⟨_, rfl, .inr ⟨by omega, by omega, by omega⟩⟩, rfl⟩

set_option maxRecDepth 100000 in
set_option maxHeartbeats 1600000 in
theorem szTC (v : Value) (ls : List (List Int)) (w : World) (hv : ArgT w v ls) (hm : ls.length ≤ 9223372036854775807) (hr : ∀ j, (ls.getD j []).length ≤ 9223372036854775807) :
    Calls Try.prog 9 #[v, .int .i64 1048576] w fun e w' => (∃ r : Int, e = .returned (.int .i64 r) ∧ (r < 0 ∨ (0 ≤ r ∧ ls.length ≤ 1048576 ∧ ∀ j, j < ls.length → (ls.getD j []).length ≤ 1048576))) ∧ w' = w := by
  obtain ⟨A1, c1, rfl, k1⟩ := hv
  have HK := Lib.hid k1
  have HR := Lib.hid hr
  clear k1 hr
  by_cases hb : 1048576 < ls.length
  · have h2 : 1048576 - (ls.length : Int) < 0 := by omega
    go_enter Try.func9, Try.ntmps9
    go_wp2
    go_ret
    exact ⟨⟨_, rfl, .inl (by decide)⟩, rfl⟩
  · have h2 : ¬ (1048576 - (ls.length : Int) < 0) := by omega
    go_enter Try.func9, Try.ntmps9
    go_wp2
    go_loopw [1, 5] (fun x y wr => ∃ (i : Nat) (k : Int), i ≤ ls.length ∧ y = .int .i64 i ∧ x = .int .i64 k ∧ 0 ≤ k ∧ k ≤ 1048576 ∧ wr = w ∧ ∀ j, j < i → (ls.getD j []).length ≤ 1048576) (fun _ y _ => ls.length - (intOf y).toNat)
    case atStart => exact ⟨0, 1048576 - (ls.length : Int), Nat.zero_le _, rfl, rfl, by omega, by omega, rfl, fun j h => by omega⟩
    case round =>
      obtain ⟨i, k, hi, rfl, rfl, hk0, hk1, rfl, hall⟩ := hrel
      have HA := Lib.hid hall
      clear hall
      by_cases hlt : i < ls.length
      · obtain ⟨a, rv, rfl, ha, hc, hrow⟩ := HK.out i hlt
        have hii : (i : Int) < (ls.length : Int) := by omega
        have HZ := Lib.hid (szIC rv (ls.getD i []) k wr hrow (HR.out i) hk0 hk1)
        generalize hl : ls.getD i [] = l at *
        have HL := Lib.hid hl
        clear hl hrow
        go_wp2_with fail
        (with_reducible refine HZ.out.mono ?_)
        rintro e w' ⟨⟨r, rfl, h⟩, rfl⟩
        rcases h with ⟨h, h'⟩ | ⟨h, h', h''⟩
        · go_wp2
          go_ret
          exact ⟨⟨_, rfl, .inl (by decide)⟩, rfl⟩
        · have hn : ¬ r < 0 := by omega
          go_wp2
          refine ⟨⟨i + 1, r, by omega, by simp, by simp, h, h', by simp, fun j hj => ?_⟩, by simp [intOf]; omega⟩
          by_cases e : j = i
          · subst e; rw [HL.out]; exact h''
          · exact HA.out j (by omega)
      · obtain rfl : i = ls.length := by omega
        have hii : ¬ ((ls.length : Int) < (ls.length : Int)) := by omega
        go_wp2
        go_ret
        exact ⟨⟨_, rfl, .inr ⟨hk0, by omega, HA.out⟩⟩, rfl⟩

theorem OwnI.far {w : World} {lo hi g q : Nat} {v : Value} {xs : List Int} (h : OwnI w lo hi v xs) (hg : g < lo) (y : Value) : OwnI (w.setCell ⟨g, q, none⟩ y) lo hi v xs := by
  obtain ⟨A, cap, e, h⟩ := h
  refine ⟨A, cap, e, ?_⟩
  rcases h with h | ⟨b, C, a1, a2, a3, a4, a5⟩
  · exact .inl h
  · exact .inr ⟨b, C, a1, a2, a3, (Below.heap_setCell _ _ _ b (by show b ≠ g; omega)).trans a4, a5⟩
/-- A table that is being filled: i of its n rows lie. -/
def FillT (w : World) (g n i : Nat) (ls : List (List Int)) : Prop :=
  g < w.heap.size ∧ (∀ j, j < n → (∃ x, w.cell? ⟨g, j, none⟩ = some x) ∧ w.frozen? ⟨g, j, none⟩ = false) ∧ ∀ j, j < i → ∃ rv, w.cell? ⟨g, j, none⟩ = some rv ∧ OwnI w (g + 1) w.heap.size rv (ls.getD j [])
theorem FillT.keep {w w' : World} {g n i : Nat} {ls : List (List Int)} (h : FillT w g n i ls) (hb : Below w.heap.size w w') : FillT w' g n i ls := by
  obtain ⟨h1, h2, h3⟩ := h
  refine ⟨Nat.lt_of_lt_of_le h1 hb.size, fun j hj => ?_, fun j hj => ?_⟩
  · obtain ⟨⟨x, hx⟩, hf⟩ := h2 j hj
    exact ⟨⟨x, (hb.cell (p := ⟨g, j, none⟩) h1).trans hx⟩, (hb.frozen (p := ⟨g, j, none⟩) h1).trans hf⟩
  · obtain ⟨rv, hc, ho⟩ := h3 j hj
    exact ⟨rv, (hb.cell (p := ⟨g, j, none⟩) h1).trans hc, (ho.keep hb (Nat.le_refl _)).wide (Nat.le_refl _) hb.size⟩
theorem FillT.put {w : World} {g n i : Nat} {ls : List (List Int)} {v : Value} (h : FillT w g n i ls) (hi : i < n) (hv : OwnI w (g + 1) w.heap.size v (ls.getD i [])) : FillT (w.setCell ⟨g, i, none⟩ v) g n (i + 1) ls := by
  obtain ⟨h1, h2, h3⟩ := h
  have hs : (w.setCell ⟨g, i, none⟩ v).heap.size = w.heap.size := by simp [World.setCell]
  refine ⟨by rw [hs]; exact h1, fun j hj => ?_, fun j hj => ?_⟩
  · obtain ⟨⟨x, hx⟩, hf⟩ := h2 j hj
    refine ⟨?_, by rw [World.frozen?_setCell]; exact hf⟩
    by_cases e : j = i
    · subst e; exact ⟨v, World.cell?_setCell_same w _ v hx⟩
    · exact ⟨x, (World.cell?_setCell_other w _ _ v (fun h => e (by cases h; rfl))).trans hx⟩
  · rw [hs]
    by_cases e : j = i
    · subst e
      obtain ⟨⟨x, hx⟩, -⟩ := h2 j hi
      exact ⟨v, World.cell?_setCell_same w _ v hx, hv.far (by omega) v⟩
    · obtain ⟨rv, hc, ho⟩ := h3 j (by omega)
      exact ⟨rv, (World.cell?_setCell_other w _ _ v (fun h => e (by cases h; rfl))).trans hc, ho.far (by omega) v⟩
theorem infoRR' : (Try.prog.info? 35).map (fun i => (i.zero, i.size, i.bytes)) = some (some (.slice none 0 0), 1, 24) := by kernel_rfl

set_option maxRecDepth 100000 in
set_option maxHeartbeats 1600000 in
theorem toTC (v : Value) (ls : List (List Int)) (w : World) (hv : ArgT w v ls) (hl : ls.length ≤ 1048576) (hr : ∀ j, j < ls.length → (ls.getD j []).length ≤ 1048576) :
    Calls Try.prog 11 #[v] w fun e w' => ∃ A, e = .returned (.slice A ls.length ls.length) ∧ OwnT w' w.heap.size w'.heap.size (.slice A ls.length ls.length) ls ∧ Below w.heap.size w w' := by
  obtain ⟨A1, c1, rfl, k1⟩ := id hv
  have HV := Lib.hid hv
  have HR := Lib.hid hr
  clear k1 hv hr
  obtain ⟨i0, hi, hz0, hz1, hz2⟩ := info_parts infoRR'
  go_enter Try.func11, Try.ntmps11
  go_wp2_with (at_make; go_must (refine wpList_make_full _ rfl _ _ 22 rfl w.heap.size 35 i0 (.slice none 0 0) 1 Try.underlying22 hi hz0 hz1 .i64 .i64 (ls.length : Int) (ls.length : Int) ls.length rfl rfl rfl rfl (by rw [hz2]; omega) (by unfold maxLen; omega) (Nat.le_refl _) ?_); intro w1 hown hgrow)
  have HB1 := Lib.hid (show Below w.heap.size w w1 from (Below.refl _ _).grown hgrow (Nat.le_refl _) (fun j hj => by cases hj))
  have HF1 := Lib.hid (show FillT w1 w.heap.size ls.length 0 ls by
    refine ⟨(hown.lt w.heap.size rfl).2, fun j hj => ⟨⟨_, (hown.cellAt j (by omega)).trans (List.getElem?_eq_getElem (by rw [hown.1]; omega))⟩, hown.frozenAt j⟩, fun j hj => by omega⟩)
  clear hown hgrow
  go_loopw [4] (fun y wr => ∃ i : Nat, i ≤ ls.length ∧ y = .int .i64 i ∧ FillT wr w.heap.size ls.length i ls ∧ Below w.heap.size w wr) (fun y _ => ls.length - (intOf y).toNat)
  case atStart => exact ⟨0, Nat.zero_le _, rfl, HF1.out, HB1.out⟩
  case round =>
    obtain ⟨i, hi1, rfl, hf, hb⟩ := hrel
    have HF := Lib.hid hf
    have HB := Lib.hid hb
    have hg := hf.1
    clear hf
    by_cases hlt : i < ls.length
    · obtain ⟨A9, c9, e9, k9⟩ := HV.out.keep (hb)
      simp only [Value.slice.injEq] at e9
      obtain ⟨rfl, -, rfl⟩ := e9
      obtain ⟨a, rv, rfl, ha, hc, hrow⟩ := k9 i hlt
      have hii : (i : Int) < (ls.length : Int) := by omega
      have HRI := Lib.hid (HR.out i hlt)
      generalize hl2 : ls.getD i [] = l at *
      have HL2 := Lib.hid hl2
      have HT := Lib.hid (toIntC rv l wr hrow HRI.out)
      clear hl2
      obtain ⟨⟨x, hx⟩, hfz⟩ := HF.out.2.1 i hlt
      clear k9 hrow hb
      go_wp2_with fail
      (with_reducible refine HT.out.mono ?_)
      rintro e w2 ⟨A2, rfl, ho2, hb2⟩
      have HF2 := Lib.hid (HF.out.keep hb2)
      have hs2 := hb2.size
      obtain ⟨⟨x2, hx2⟩, hfz2⟩ := HF2.out.2.1 i hlt
      have HO2 := Lib.hid (ho2.wide (show w.heap.size + 1 ≤ wr.heap.size by omega) (Nat.le_refl _))
      have HB2 := Lib.hid (HB.out.trans (hb2.mono HB.out.size))
      clear ho2 hb2
      go_wp2
      exact ⟨⟨i + 1, by omega, by simp, HF2.out.put hlt (by rw [HL2.out]; exact HO2.out), HB2.out.setCell (Nat.le_refl _) _⟩, by simp [intOf]; omega⟩
    · obtain rfl : i = ls.length := by omega
      have hii : ¬ ((ls.length : Int) < (ls.length : Int)) := by omega
      go_wp2
      go_ret
      refine ⟨_, rfl, ⟨_, _, rfl, fun j hj => ?_⟩, HB.out⟩
      obtain ⟨rv, hc, ho⟩ := HF.out.2.2 j hj
      exact ⟨_, rv, rfl, Nat.le_refl _, hg, hc, ho.wide (by omega) (Nat.le_refl _)⟩

end Go.Proofs.Ytkpnfonedfomaaa
