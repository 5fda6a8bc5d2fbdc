/- Merged by program out of: ArgT RowT TblMZ TabC11 TblKZ LawTab7b. -/
import Derived.Test.YtkpnfonedfomaaaSpec2G
import Derived.Test.YtkpnfonedfomaaaTblLZ
import Derived.Deep.Matrix
import Derived.WalkKit
import Derived.ProofKit
import Derived.OpenShut
import Derived.Test.YtkpnfonedfomaaaMark2
section
namespace Go.Proofs.Ytkpnfonedfomaaa
open Go.ChangeShapes Go.WideShapes Go.ChangeAt Go.RowKit
set_option linter.unusedVariables false

/-- v is a table that came in, and the rows ls are what it holds. -/
def ArgT (w : World) (v : Value) (ls : List (List Int)) : Prop :=
  ∃ A cap, v = .slice A ls.length cap ∧ ∀ j, j < ls.length → ∃ (a : Addr) (rv : Value), A = some a ∧ a.block < w.heap.size ∧ w.cell? (a.add j) = some rv ∧ ArgI w rv (ls.getD j [])
theorem ArgT.keep {w w' : World} {v : Value} {ls : List (List Int)} (h : ArgT w v ls) (hb : Below w.heap.size w w') : ArgT w' v ls := by
  obtain ⟨A, cap, e, k⟩ := h
  refine ⟨A, cap, e, fun j hj => ?_⟩
  obtain ⟨a, rv, h1, h2, h3, h4⟩ := k j hj
  exact ⟨a, rv, h1, Nat.lt_of_lt_of_le h2 hb.size, (hb.cell (p := a.add j) (by rw [add_block]; exact h2)).trans h3, h4.keep hb⟩

theorem szIC (v : Value) (xs : List Int) (k : Int) (w : World) (hv : ArgI w v xs) (hm : xs.length ≤ 9223372036854775807) (h0 : 0 ≤ k) (h1 : k ≤ 1048576) :
    Calls Try.prog 29 #[v, .int .i64 k] w fun e w' => (∃ r : Int, e = .returned (.int .i64 r) ∧ ((r < 0 ∧ -1 ≤ r) ∨ (0 ≤ r ∧ r ≤ 1048576 ∧ xs.length ≤ 1048576))) ∧ w' = w := by
  obtain ⟨A1, c1, rfl, -⟩ := hv
  by_cases hb : k < xs.length
  · have h2 : k - (xs.length : Int) < 0 := by omega
    go_enter Try.func29, Try.ntmps29
    go_wp2
    go_ret
    exact ⟨⟨_, rfl, .inl ⟨by decide, by decide⟩⟩, rfl⟩
  · have h2 : ¬ (k - (xs.length : Int) < 0) := by omega
    go_enter Try.func29, Try.ntmps29
    go_wp2
    go_ret
    exact ⟨⟨_, rfl, .inr ⟨by omega, by omega, by omega⟩⟩, rfl⟩

set_option maxRecDepth 100000 in
set_option maxHeartbeats 1600000 in
theorem szTC (v : Value) (ls : List (List Int)) (w : World) (hv : ArgT w v ls) (hm : ls.length ≤ 9223372036854775807) (hr : ∀ j, (ls.getD j []).length ≤ 9223372036854775807) :
    Calls Try.prog 9 #[v, .int .i64 1048576] w fun e w' => (∃ r : Int, e = .returned (.int .i64 r) ∧ (r < 0 ∨ (0 ≤ r ∧ ls.length ≤ 1048576 ∧ ∀ j, j < ls.length → (ls.getD j []).length ≤ 1048576))) ∧ w' = w := by
  obtain ⟨A1, c1, rfl, k1⟩ := hv
  have HK := Lib.hid k1
  have HR := Lib.hid hr
  clear k1 hr
  by_cases hb : 1048576 < ls.length
  · have h2 : 1048576 - (ls.length : Int) < 0 := by omega
    go_enter Try.func9, Try.ntmps9
    go_wp2
    go_ret
    exact ⟨⟨_, rfl, .inl (by decide)⟩, rfl⟩
  · have h2 : ¬ (1048576 - (ls.length : Int) < 0) := by omega
    go_enter Try.func9, Try.ntmps9
    go_wp2
    go_loopw [1, 5] (fun x y wr => ∃ (i : Nat) (k : Int), i ≤ ls.length ∧ y = .int .i64 i ∧ x = .int .i64 k ∧ 0 ≤ k ∧ k ≤ 1048576 ∧ wr = w ∧ ∀ j, j < i → (ls.getD j []).length ≤ 1048576) (fun _ y _ => ls.length - (intOf y).toNat)
    case atStart => exact ⟨0, 1048576 - (ls.length : Int), Nat.zero_le _, rfl, rfl, by omega, by omega, rfl, fun j h => by omega⟩
    case round =>
      obtain ⟨i, k, hi, rfl, rfl, hk0, hk1, rfl, hall⟩ := hrel
      have HA := Lib.hid hall
      clear hall
      by_cases hlt : i < ls.length
      · obtain ⟨a, rv, rfl, ha, hc, hrow⟩ := HK.out i hlt
        have hii : (i : Int) < (ls.length : Int) := by omega
        have HZ := Lib.hid (szIC rv (ls.getD i []) k wr hrow (HR.out i) hk0 hk1)
        generalize hl : ls.getD i [] = l at *
        have HL := Lib.hid hl
        clear hl hrow
        go_wp2_with fail
        (with_reducible refine HZ.out.mono ?_)
        rintro e w' ⟨⟨r, rfl, h⟩, rfl⟩
        rcases h with ⟨h, h'⟩ | ⟨h, h', h''⟩
        · go_wp2
          go_ret
          exact ⟨⟨_, rfl, .inl (by decide)⟩, rfl⟩
        · have hn : ¬ r < 0 := by omega
          go_wp2
          refine ⟨⟨i + 1, r, by omega, by simp, by simp, h, h', by simp, fun j hj => ?_⟩, by simp [intOf]; omega⟩
          by_cases e : j = i
          · subst e; rw [HL.out]; exact h''
          · exact HA.out j (by omega)
      · obtain rfl : i = ls.length := by omega
        have hii : ¬ ((ls.length : Int) < (ls.length : Int)) := by omega
        go_wp2
        go_ret
        exact ⟨⟨_, rfl, .inr ⟨hk0, by omega, HA.out⟩⟩, rfl⟩

theorem OwnI.far {w : World} {lo hi g q : Nat} {v : Value} {xs : List Int} (h : OwnI w lo hi v xs) (hg : g < lo) (y : Value) : OwnI (w.setCell ⟨g, q, none⟩ y) lo hi v xs := by
  obtain ⟨A, cap, e, h⟩ := h
  refine ⟨A, cap, e, ?_⟩
  rcases h with h | ⟨b, C, a1, a2, a3, a4, a5⟩
  · exact .inl h
  · exact .inr ⟨b, C, a1, a2, a3, (Below.heap_setCell _ _ _ b (by show b ≠ g; omega)).trans a4, a5⟩
/-- A table that is being filled: i of its n rows lie. -/
def FillT (w : World) (g n i : Nat) (ls : List (List Int)) : Prop :=
  g < w.heap.size ∧ (∀ j, j < n → (∃ x, w.cell? ⟨g, j, none⟩ = some x) ∧ w.frozen? ⟨g, j, none⟩ = false) ∧ ∀ j, j < i → ∃ rv, w.cell? ⟨g, j, none⟩ = some rv ∧ OwnI w (g + 1) w.heap.size rv (ls.getD j [])
theorem FillT.keep {w w' : World} {g n i : Nat} {ls : List (List Int)} (h : FillT w g n i ls) (hb : Below w.heap.size w w') : FillT w' g n i ls := by
  obtain ⟨h1, h2, h3⟩ := h
  refine ⟨Nat.lt_of_lt_of_le h1 hb.size, fun j hj => ?_, fun j hj => ?_⟩
  · obtain ⟨⟨x, hx⟩, hf⟩ := h2 j hj
    exact ⟨⟨x, (hb.cell (p := ⟨g, j, none⟩) h1).trans hx⟩, (hb.frozen (p := ⟨g, j, none⟩) h1).trans hf⟩
  · obtain ⟨rv, hc, ho⟩ := h3 j hj
    exact ⟨rv, (hb.cell (p := ⟨g, j, none⟩) h1).trans hc, (ho.keep hb (Nat.le_refl _)).wide (Nat.le_refl _) hb.size⟩
theorem FillT.put {w : World} {g n i : Nat} {ls : List (List Int)} {v : Value} (h : FillT w g n i ls) (hi : i < n) (hv : OwnI w (g + 1) w.heap.size v (ls.getD i [])) : FillT (w.setCell ⟨g, i, none⟩ v) g n (i + 1) ls := by
  obtain ⟨h1, h2, h3⟩ := h
  have hs : (w.setCell ⟨g, i, none⟩ v).heap.size = w.heap.size := by simp [World.setCell]
  refine ⟨by rw [hs]; exact h1, fun j hj => ?_, fun j hj => ?_⟩
  · obtain ⟨⟨x, hx⟩, hf⟩ := h2 j hj
    refine ⟨?_, by rw [World.frozen?_setCell]; exact hf⟩
    by_cases e : j = i
    · subst e; exact ⟨v, World.cell?_setCell_same w _ v hx⟩
    · exact ⟨x, (World.cell?_setCell_other w _ _ v (fun h => e (by cases h; rfl))).trans hx⟩
  · rw [hs]
    by_cases e : j = i
    · subst e
      obtain ⟨⟨x, hx⟩, -⟩ := h2 j hi
      exact ⟨v, World.cell?_setCell_same w _ v hx, hv.far (by omega) v⟩
    · obtain ⟨rv, hc, ho⟩ := h3 j (by omega)
      exact ⟨rv, (World.cell?_setCell_other w _ _ v (fun h => e (by cases h; rfl))).trans hc, ho.far (by omega) v⟩
theorem infoRR' : (Try.prog.info? 35).map (fun i => (i.zero, i.size, i.bytes)) = some (some (.slice none 0 0), 1, 24) := by kernel_rfl

set_option maxRecDepth 100000 in
set_option maxHeartbeats 1600000 in
theorem toTC (v : Value) (ls : List (List Int)) (w : World) (hv : ArgT w v ls) (hl : ls.length ≤ 1048576) (hr : ∀ j, j < ls.length → (ls.getD j []).length ≤ 1048576) :
    Calls Try.prog 11 #[v] w fun e w' => ∃ A, e = .returned (.slice A ls.length ls.length) ∧ OwnT w' w.heap.size w'.heap.size (.slice A ls.length ls.length) ls ∧ Below w.heap.size w w' := by
  obtain ⟨A1, c1, rfl, k1⟩ := id hv
  have HV := Lib.hid hv
  have HR := Lib.hid hr
  clear k1 hv hr
  obtain ⟨i0, hi, hz0, hz1, hz2⟩ := info_parts infoRR'
  go_enter Try.func11, Try.ntmps11
  go_wp2_with (at_make; go_must (refine wpList_make_full _ rfl _ _ 22 rfl w.heap.size 35 i0 (.slice none 0 0) 1 Try.underlying22 hi hz0 hz1 .i64 .i64 (ls.length : Int) (ls.length : Int) ls.length rfl rfl rfl rfl (by rw [hz2]; omega) (by unfold maxLen; omega) (Nat.le_refl _) ?_); intro w1 hown hgrow)
  have HB1 := Lib.hid (show Below w.heap.size w w1 from (Below.refl _ _).grown hgrow (Nat.le_refl _) (fun j hj => by cases hj))
  have HF1 := Lib.hid (show FillT w1 w.heap.size ls.length 0 ls by
    refine ⟨(hown.lt w.heap.size rfl).2, fun j hj => ⟨⟨_, (hown.cellAt j (by omega)).trans (List.getElem?_eq_getElem (by rw [hown.1]; omega))⟩, hown.frozenAt j⟩, fun j hj => by omega⟩)
  clear hown hgrow
  go_loopw [4] (fun y wr => ∃ i : Nat, i ≤ ls.length ∧ y = .int .i64 i ∧ FillT wr w.heap.size ls.length i ls ∧ Below w.heap.size w wr) (fun y _ => ls.length - (intOf y).toNat)
  case atStart => exact ⟨0, Nat.zero_le _, rfl, HF1.out, HB1.out⟩
  case round =>
    obtain ⟨i, hi1, rfl, hf, hb⟩ := hrel
    have HF := Lib.hid hf
    have HB := Lib.hid hb
    have hg := hf.1
    clear hf
    by_cases hlt : i < ls.length
    · obtain ⟨A9, c9, e9, k9⟩ := HV.out.keep (hb)
      simp only [Value.slice.injEq] at e9
      obtain ⟨rfl, -, rfl⟩ := e9
      obtain ⟨a, rv, rfl, ha, hc, hrow⟩ := k9 i hlt
      have hii : (i : Int) < (ls.length : Int) := by omega
      have HRI := Lib.hid (HR.out i hlt)
      generalize hl2 : ls.getD i [] = l at *
      have HL2 := Lib.hid hl2
      have HT := Lib.hid (toIntC rv l wr hrow HRI.out)
      clear hl2
      obtain ⟨⟨x, hx⟩, hfz⟩ := HF.out.2.1 i hlt
      clear k9 hrow hb
      go_wp2_with fail
      (with_reducible refine HT.out.mono ?_)
      rintro e w2 ⟨A2, rfl, ho2, hb2⟩
      have HF2 := Lib.hid (HF.out.keep hb2)
      have hs2 := hb2.size
      obtain ⟨⟨x2, hx2⟩, hfz2⟩ := HF2.out.2.1 i hlt
      have HO2 := Lib.hid (ho2.wide (show w.heap.size + 1 ≤ wr.heap.size by omega) (Nat.le_refl _))
      have HB2 := Lib.hid (HB.out.trans (hb2.mono HB.out.size))
      clear ho2 hb2
      go_wp2
      exact ⟨⟨i + 1, by omega, by simp, HF2.out.put hlt (by rw [HL2.out]; exact HO2.out), HB2.out.setCell (Nat.le_refl _) _⟩, by simp [intOf]; omega⟩
    · obtain rfl : i = ls.length := by omega
      have hii : ¬ ((ls.length : Int) < (ls.length : Int)) := by omega
      go_wp2
      go_ret
      refine ⟨_, rfl, ⟨_, _, rfl, fun j hj => ?_⟩, HB.out⟩
      obtain ⟨rv, hc, ho⟩ := HF.out.2.2 j hj
      exact ⟨_, rv, rfl, Nat.le_refl _, hg, hc, ho.wide (by omega) (Nat.le_refl _)⟩

end Go.Proofs.Ytkpnfonedfomaaa
end

section
namespace Go.Proofs.Ytkpnfonedfomaaa
open Go.ChangeShapes Go.WideShapes Go.ChangeAt Go.RowKit Go.Deep
set_option linter.unusedVariables false

theorem cell_lt {w : World} {a : Addr} {v : Value} (h : w.cell? a = some v) : a.block < w.heap.size := World.block_lt_of_cell? _ _ h
theorem argT_of {H : Type} {enc : TypeId × Value → H} {W : World} {base fuel : Nat} {held : Bool} {a0 : Option Addr} {len0 cap0 : Nat} {x : DataW H × List MemPlace}
    (hf : DataW.trod enc Try.prog W base (fun _ => true) held fuel 22 (Value.slice a0 len0 cap0).cells.toList = some x) :
    ∃ ls : List (List Int), ls.length = len0 ∧ ArgT W (.slice a0 len0 cap0) ls ∧ len0 ≤ maxLen ∧ (∀ j, (ls.getD j []).length ≤ maxLen) ∧ ∀ j, j < ls.length → ∀ y ∈ ls.getD j [], (Lit.int .i64 y).wf = true := by
  rcases open_int_rows Try.underlying22 Try.underlying35 Try.underlying3 (by kernel_rfl) (by kernel_rfl) hf with ⟨hcs, -⟩ | ⟨a, len', cap', A, L, C, Z, hcs, -, hl, hm, -, hrows⟩
  · simp [Value.cells] at hcs
    obtain ⟨rfl, rfl, rfl⟩ := hcs
    exact ⟨[], rfl, ⟨none, 0, rfl, fun j hj => by simp at hj⟩, Nat.zero_le _, fun j => by simp, fun j hj => by simp at hj⟩
  · simp [Value.cells] at hcs
    obtain ⟨rfl, rfl, rfl⟩ := hcs
    obtain ⟨ls, hls⟩ : ∃ ls, ls = (List.range len0).map fun r => (Z r).take (L r) := ⟨_, rfl⟩
    have hlen : ls.length = len0 := by rw [hls]; simp
    have hat : ∀ j, j < len0 → ls.getD j [] = (Z j).take (L j) := fun j hj => by rw [hls]; simp [List.getD, hj]
    have hout : ∀ j, ¬ j < len0 → ls.getD j [] = [] := fun j hj => by rw [List.getD_eq_getElem?_getD, List.getElem?_eq_none (by omega)]; rfl
    refine ⟨ls, hlen, ⟨some a, cap0, by rw [hlen], fun j hj => ?_⟩, by omega, fun j => ?_, fun j hj y hy => ?_⟩
    · rw [hlen] at hj
      obtain ⟨h1, h2, h3, h4, h5, h6, h7⟩ := hrows j (by omega)
      refine ⟨a, _, rfl, ?_, h1, ?_⟩
      · have := cell_lt h1; rwa [add_block] at this
      · rw [hat j hj]
        have hle : ((Z j).take (L j)).length = L j := by rw [List.length_take]; omega
        refine ⟨A j, C j, by rw [hle], fun i hi => ?_⟩
        rw [hle] at hi
        rcases hA : A j with _ | a'
        · have := h6 hA; omega
        · obtain ⟨-, h8⟩ := h7 a' hA
          have h9 := h8 i (by omega)
          refine ⟨a', rfl, by have := cell_lt h9; rwa [add_block] at this, ?_⟩
          rw [h9, List.getD_eq_getElem?_getD, List.getD_eq_getElem?_getD, List.getElem?_take, if_pos (by omega)]
    · by_cases hj : j < len0
      · obtain ⟨h1, h2, h3, h4, -⟩ := hrows j (by omega)
        rw [hat j hj, List.length_take]; omega
      · rw [hout j hj]; exact Nat.zero_le _
    · rw [hlen] at hj
      obtain ⟨-, -, -, -, h5, -⟩ := hrows j (by omega)
      rw [hat j hj] at hy
      exact h5 y (List.mem_of_mem_take hy)

end Go.Proofs.Ytkpnfonedfomaaa
end

section
namespace Go.Proofs.Ytkpnfonedfomaaa
open Go.ChangeShapes Go.WideShapes Go.ChangeAt Go.RowKit
set_option linter.unusedVariables false

def loB (u : Value) : Nat := match u.ownBlock with | none => 0 | some g => g
def hiB (u : Value) : Nat := match u.ownBlock with | none => 0 | some g => g + 1
theorem row_own {w : World} {base n : Nat} {u : Value} {xs : List Int} (h : w.ownsRow base 3 1 u n (xs.map (Value.int .i64))) : OwnI w (loB u) (hiB u) u xs := by
  obtain ⟨A, cap, rfl, h'⟩ := OwnI.of_row h
  refine ⟨A, cap, rfl, ?_⟩
  rcases h' with h0 | ⟨g, C, -, -, rfl, hh, hc⟩
  · exact .inl h0
  · exact .inr ⟨g, C, Nat.le_refl _, Nat.lt_succ_self _, rfl, hh, hc⟩
theorem apart_lohi {a b : Value} (h : a.ownBlock = none ∨ a.ownBlock ≠ b.ownBlock) : hiB a ≤ loB b ∨ hiB b ≤ loB a := by
  unfold hiB loB
  rcases ha : a.ownBlock with _ | x <;> rcases hb : b.ownBlock with _ | y <;> simp only []
  · omega
  · omega
  · omega
  · rw [ha, hb] at h
    have : x ≠ y := by
      rcases h with h | h
      · cases h
      · exact fun e => h (by rw [e])
    omega
theorem own_wide {w : World} {u : Value} {xs : List Int} {base H : Nat} (h : OwnI w (loB u) (hiB u) u xs) (hlt : ∀ b, u.ownBlock = some b → base ≤ b ∧ b < H) : OwnI w base H u xs := by
  obtain ⟨A, cap, e, h'⟩ := h
  refine ⟨A, cap, e, ?_⟩
  rcases h' with h0 | ⟨g, C, h1, h2, rfl, hh, hc⟩
  · exact .inl h0
  · have := hlt g (by rw [e]; rfl)
    exact .inr ⟨g, C, this.1, this.2, rfl, hh, hc⟩

theorem low_lohi {u : Value} {base : Nat} (h : ∀ b, u.ownBlock = some b → base ≤ b) (k : Nat) (hk : k < base) : k < loB u ∨ hiB u ≤ k := by
  unfold hiB loB
  rcases hu : u.ownBlock with _ | x <;> simp only []
  · omega
  · have := h x hu
    omega
def mkA (k : Int) (j : Nat) (ls : List (List Int)) (m : Nat) : List Int := if m < j then marks (k + (tot (ls.take m) : Int)) (ls.getD m []).length else ls.getD m []

set_option maxRecDepth 100000 in
set_option maxHeartbeats 1600000 in
theorem markSS (v : Value) (vs : List Value) (base : Nat) (ls : List (List Int)) (k : Int) (w : World) (hv : Tb w base v vs ls) (hbase : base ≤ w.heap.size) (hl : ls.length ≤ 1099511627776) (ht : tot ls ≤ 1099511627) (hk0 : 0 ≤ k) (hk : k ≤ 1099511627) :
    Calls Try.prog 16 #[v, .int .i64 k] w fun e w' => e = .returned (.int .i64 (k + tot ls)) ∧ OwnT w' base w.heap.size v (mkT k ls) ∧ Below base w w' := by
  have HV := Lib.hid hv
  obtain ⟨A, cap, rfl⟩ := hv.form
  have HR0 := Lib.hid (fun m (hm : m < ls.length) => row_own (HV.out.row m hm))
  have HC0 := Lib.hid (fun m (hm : m < ls.length) => HV.out.cell hm)
  clear hv
  go_enter Try.func16, Try.ntmps16
  go_wp2
  go_loopw [1, 5] (fun x y wr => ∃ j : Nat, j ≤ ls.length ∧ y = .int .i64 j ∧ x = .int .i64 (k + (tot (ls.take j) : Int)) ∧ Below base w wr ∧ (∀ m, m < ls.length → ∃ o, A = some ⟨o, 0, none⟩ ∧ base ≤ o ∧ o < w.heap.size ∧ wr.cell? ⟨o, m, none⟩ = some (vs.getD m nilV)) ∧ (∀ m, m < ls.length → OwnI wr (loB (vs.getD m nilV)) (hiB (vs.getD m nilV)) (vs.getD m nilV) (mkA k j ls m))) (fun _ y _ => ls.length - (intOf y).toNat)
  case atStart =>
    refine ⟨0, Nat.zero_le _, rfl, by simp [tot], Below.refl _ _, fun m hm => ?_, fun m hm => ?_⟩
    · obtain ⟨o, c, e, h1, h2, h3, -⟩ := HC0.out m hm
      simp only [Value.slice.injEq] at e
      exact ⟨o, e.1, h1, h2, h3⟩
    · rw [mkA, if_neg (Nat.not_lt_zero _)]; exact HR0.out m hm
  case round =>
    obtain ⟨j, hj, rfl, rfl, hb, hcs, hrs⟩ := hrel
    have HB := Lib.hid hb
    have HCS := Lib.hid hcs
    have HRS := Lib.hid hrs
    have hB := hb.size
    clear hb hcs hrs HR0 HC0
    by_cases hlt : j < ls.length
    · obtain ⟨o1, rfl, ho1, ho2, hc1⟩ := HCS.out j hlt
      have hrj := HRS.out j hlt
      rw [mkA, if_neg (Nat.lt_irrefl _)] at hrj
      have hji : (j : Int) < (ls.length : Int) := by omega
      have HTJ := Lib.hid (tot_take ls j hlt)
      have h3 := tot_le ls j
      have h4 := tot_le ls (j + 1)
      rw [HTJ.out] at h4
      have HAP := Lib.hid (fun m (hm : m < ls.length) (e : m ≠ j) => apart_lohi (HV.out.apart m j hm hlt e))
      have HAO := Lib.hid (apart_lohi (HV.out.ne hlt))
      have HMK := Lib.hid (show mkA k (j + 1) ls j = marks (k + (tot (ls.take j) : Int)) (ls.getD j []).length by rw [mkA, if_pos (Nat.lt_succ_self _)])
      generalize tot (ls.take j) = t at *
      generalize ls.getD j [] = l at *
      have HRJ := Lib.hid (show ∃ r, vs.getD j nilV = r from ⟨_, rfl⟩)
      obtain ⟨r, hr⟩ := HRJ.out
      have HLR := Lib.hid (fun b (hb : (vs.getD j nilV).ownBlock = some b) => (HV.out.lt hlt hb).1)
      rw [hr] at hc1 hrj HAP HAO HLR
      have HRV := Lib.hid hr
      clear hr HRJ
      have HE := Lib.hid (markO r (loB r) (hiB r) l (k + (t : Int)) wr hrj (by omega) (by omega) (by omega))
      clear hrj
      go_wp2_with fail
      (with_reducible refine HE.out.mono ?_)
      rintro e w' ⟨rfl, ho, ha⟩
      have HO := Lib.hid ho
      have HA := Lib.hid ha
      clear ho ha
      go_wp2
      refine ⟨⟨j + 1, by omega, by simp, by rw [HTJ.out]; congr 1; omega, ?_, fun m hm => ?_, fun m hm => ?_⟩, by simp [intOf]; omega⟩
      · exact HB.out.trans ⟨HA.out.os, HA.out.tape, HA.out.output, HA.out.size, fun q hq => HA.out.block q (low_lohi HLR.out q hq)⟩
      · obtain ⟨o, e, g1, g2, g3⟩ := HCS.out m hm
        simp only [Option.some.injEq, Addr.mk.injEq] at e
        obtain ⟨rfl, -⟩ := e
        refine ⟨_, rfl, g1, g2, (World.cell?_of_block (a := ⟨_, m, none⟩) (HA.out.block _ ?_)).trans g3⟩
        have h := HAO.out
        have e1 : ∀ x n c, hiB (.slice (some ⟨x, 0, none⟩) n c) = x + 1 := fun _ _ _ => rfl
        have e2 : ∀ x n c, loB (.slice (some ⟨x, 0, none⟩) n c) = x := fun _ _ _ => rfl
        rw [e1, e2] at h
        exact h.elim (fun h => .inl h) (fun h => .inr h)
      · by_cases e : m = j
        · subst e
          rw [HRV.out, HMK.out]; exact HO.out
        · have e2 : mkA k (j + 1) ls m = mkA k j ls m := by
            unfold mkA
            by_cases h : m < j
            · rw [if_pos h, if_pos (by omega)]
            · rw [if_neg h, if_neg (by omega)]
          rw [e2]
          exact (HRS.out m hm).apart HA.out (HAP.out m hm e)
    · obtain rfl : j = ls.length := by omega
      go_wp2
      go_ret
      refine ⟨by rw [List.take_length]; rfl, ⟨A, cap, by rw [mkT_len], fun m hm => ?_⟩, HB.out⟩
      rw [mkT_len] at hm
      obtain ⟨o, e, g1, g2, g3⟩ := HCS.out m hm
      have h := HRS.out m hm
      rw [mkA, if_pos hm] at h
      exact ⟨o, _, e, g1, g2, g3, by rw [mkT_at _ _ _ hm]; exact own_wide h (fun b hb => HV.out.lt hm hb)⟩

end Go.Proofs.Ytkpnfonedfomaaa
end

section
namespace Go.Proofs.Ytkpnfonedfomaaa
open Go.ChangeShapes Go.WideShapes Go.ChangeAt Go.RowKit
set_option linter.unusedVariables false

/-- A table whose rows lie in places apart: row j from LO j up to HI j. -/
def TbA (w : World) (base H : Nat) (v : Value) (vs : Nat → Value) (LO HI : Nat → Nat) (ls : List (List Int)) : Prop :=
  ∃ o, base ≤ o ∧ o < H ∧ (∃ cap, v = .slice (some ⟨o, 0, none⟩) ls.length cap) ∧ (∀ m, m < ls.length → w.cell? ⟨o, m, none⟩ = some (vs m) ∧ o < LO m ∧ HI m ≤ H ∧ OwnI w (LO m) (HI m) (vs m) (ls.getD m [])) ∧ ∀ m q, m < ls.length → q < ls.length → m ≠ q → HI m ≤ LO q ∨ HI q ≤ LO m
theorem TbA.keep {w w' : World} {base H B : Nat} {v : Value} {vs : Nat → Value} {LO HI : Nat → Nat} {ls : List (List Int)} (h : TbA w base H v vs LO HI ls) (hb : Below B w w') (hB : H ≤ B) : TbA w' base H v vs LO HI ls := by
  obtain ⟨o, h1, h2, h3, h4, h5⟩ := h
  refine ⟨o, h1, h2, h3, fun m hm => ?_, h5⟩
  obtain ⟨a1, a2, a3, a4⟩ := h4 m hm
  exact ⟨(hb.cell (p := ⟨o, m, none⟩) (by show o < B; omega)).trans a1, a2, a3, a4.keep hb (Nat.le_trans a3 hB)⟩
theorem TbA.toT {w : World} {base H : Nat} {v : Value} {vs : Nat → Value} {LO HI : Nat → Nat} {ls : List (List Int)} (h : TbA w base H v vs LO HI ls) : OwnT w base H v ls := by
  obtain ⟨o, h1, h2, ⟨cap, h3⟩, h4, h5⟩ := h
  refine ⟨_, cap, h3, fun j hj => ?_⟩
  obtain ⟨a1, a2, a3, a4⟩ := h4 j hj
  exact ⟨o, vs j, rfl, h1, h2, a1, a4.wide (by omega) a3⟩

/-- A table that is being filled, row by row. -/
def FillA (w : World) (g n i : Nat) (vs : Nat → Value) (LO HI : Nat → Nat) (ls : List (List Int)) : Prop :=
  g < w.heap.size ∧ (∀ j, j < n → (∃ x, w.cell? ⟨g, j, none⟩ = some x) ∧ w.frozen? ⟨g, j, none⟩ = false) ∧ (∀ j, j < i → w.cell? ⟨g, j, none⟩ = some (vs j) ∧ g < LO j ∧ HI j ≤ w.heap.size ∧ OwnI w (LO j) (HI j) (vs j) (ls.getD j [])) ∧ ∀ j k, j < k → k < i → HI j ≤ LO k
theorem FillA.keep {w w' : World} {g n i : Nat} {vs : Nat → Value} {LO HI : Nat → Nat} {ls : List (List Int)} (h : FillA w g n i vs LO HI ls) (hb : Below w.heap.size w w') : FillA w' g n i vs LO HI ls := by
  obtain ⟨h1, h2, h3, h4⟩ := h
  refine ⟨Nat.lt_of_lt_of_le h1 hb.size, fun j hj => ?_, fun j hj => ?_, h4⟩
  · obtain ⟨⟨x, hx⟩, hf⟩ := h2 j hj
    exact ⟨⟨x, (hb.cell (p := ⟨g, j, none⟩) h1).trans hx⟩, (hb.frozen (p := ⟨g, j, none⟩) h1).trans hf⟩
  · obtain ⟨a1, a2, a3, a4⟩ := h3 j hj
    exact ⟨(hb.cell (p := ⟨g, j, none⟩) h1).trans a1, a2, Nat.le_trans a3 hb.size, a4.keep hb a3⟩
theorem FillA.put {w : World} {g n i lo hi : Nat} {vs : Nat → Value} {LO HI : Nat → Nat} {ls : List (List Int)} {v : Value} (h : FillA w g n i vs LO HI ls) (hi1 : i < n) (hv : OwnI w lo hi v (ls.getD i [])) (hg : g < lo) (hh : hi ≤ w.heap.size) (hap : ∀ j, j < i → HI j ≤ lo) :
    FillA (w.setCell ⟨g, i, none⟩ v) g n (i + 1) (fun j => if j = i then v else vs j) (fun j => if j = i then lo else LO j) (fun j => if j = i then hi else HI j) ls := by
  obtain ⟨h1, h2, h3, h4⟩ := h
  have hs : (w.setCell ⟨g, i, none⟩ v).heap.size = w.heap.size := by simp [World.setCell]
  refine ⟨by rw [hs]; exact h1, fun j hj => ?_, fun j hj => ?_, fun j k hjk hk => ?_⟩
  · obtain ⟨⟨x, hx⟩, hf⟩ := h2 j hj
    refine ⟨?_, by rw [World.frozen?_setCell]; exact hf⟩
    by_cases e : j = i
    · subst e; exact ⟨v, World.cell?_setCell_same w _ v hx⟩
    · exact ⟨x, (World.cell?_setCell_other w _ _ v (fun h => e (by cases h; rfl))).trans hx⟩
  · rw [hs]
    by_cases e : j = i
    · subst e
      obtain ⟨⟨x, hx⟩, -⟩ := h2 j hi1
      dsimp only
      rw [if_pos rfl, if_pos rfl, if_pos rfl]
      exact ⟨World.cell?_setCell_same w _ v hx, hg, hh, hv.far (by omega) v⟩
    · obtain ⟨a1, a2, a3, a4⟩ := h3 j (by omega)
      dsimp only
      rw [if_neg e, if_neg e, if_neg e]
      exact ⟨(World.cell?_setCell_other w _ _ v (fun h => e (by cases h; rfl))).trans a1, a2, a3, a4.far a2 v⟩
  · dsimp only
    rw [if_neg (show j ≠ i by omega)]
    by_cases e : k = i
    · rw [if_pos e]; exact hap j (by omega)
    · rw [if_neg e]; exact h4 j k hjk (by omega)

set_option maxRecDepth 100000 in
set_option maxHeartbeats 1600000 in
theorem toTA (v : Value) (ls : List (List Int)) (w : World) (hv : ArgT w v ls) (hl : ls.length ≤ 1048576) (hr : ∀ j, j < ls.length → (ls.getD j []).length ≤ 1048576) :
    Calls Try.prog 11 #[v] w fun e w' => ∃ A vs LO HI, e = .returned (.slice A ls.length ls.length) ∧ TbA w' w.heap.size w'.heap.size (.slice A ls.length ls.length) vs LO HI ls ∧ Below w.heap.size w w' := by
  obtain ⟨A1, c1, rfl, k1⟩ := id hv
  have HV := Lib.hid hv
  have HR := Lib.hid hr
  clear k1 hv hr
  obtain ⟨i0, hi, hz0, hz1, hz2⟩ := info_parts infoRR'
  go_enter Try.func11, Try.ntmps11
  go_wp2_with (at_make; go_must (refine wpList_make_full _ rfl _ _ 22 rfl w.heap.size 35 i0 (.slice none 0 0) 1 Try.underlying22 hi hz0 hz1 .i64 .i64 (ls.length : Int) (ls.length : Int) ls.length rfl rfl rfl rfl (by rw [hz2]; omega) (by unfold maxLen; omega) (Nat.le_refl _) ?_); intro w1 hown hgrow)
  have HB1 := Lib.hid (show Below w.heap.size w w1 from (Below.refl _ _).grown hgrow (Nat.le_refl _) (fun j hj => by cases hj))
  have HF1 := Lib.hid (show FillA w1 w.heap.size ls.length 0 (fun _ => .slice none 0 0) (fun _ => 0) (fun _ => 0) ls by
    refine ⟨(hown.lt w.heap.size rfl).2, fun j hj => ⟨⟨_, (hown.cellAt j (by omega)).trans (List.getElem?_eq_getElem (by rw [hown.1]; omega))⟩, hown.frozenAt j⟩, fun j hj => by omega, fun j k _ hk => by omega⟩)
  clear hown hgrow
  go_loopw [4] (fun y wr => ∃ i vs LO HI, i ≤ ls.length ∧ y = .int .i64 (i : Nat) ∧ FillA wr w.heap.size ls.length i vs LO HI ls ∧ Below w.heap.size w wr) (fun y _ => ls.length - (intOf y).toNat)
  case atStart => exact ⟨0, _, _, _, Nat.zero_le _, rfl, HF1.out, HB1.out⟩
  case round =>
    obtain ⟨i, vs, LO, HI, hi1, rfl, hf, hb⟩ := hrel
    have HF := Lib.hid hf
    have HB := Lib.hid hb
    have hg := hf.1
    clear hf
    by_cases hlt : i < ls.length
    · obtain ⟨A9, c9, e9, k9⟩ := HV.out.keep (hb)
      simp only [Value.slice.injEq] at e9
      obtain ⟨rfl, -, rfl⟩ := e9
      obtain ⟨a, rv, rfl, ha, hc, hrow⟩ := k9 i hlt
      have hii : (i : Int) < (ls.length : Int) := by omega
      have HRI := Lib.hid (HR.out i hlt)
      generalize hl2 : ls.getD i [] = l at *
      have HL2 := Lib.hid hl2
      have HT := Lib.hid (toIntC rv l wr hrow HRI.out)
      clear hl2
      obtain ⟨⟨x, hx⟩, hfz⟩ := HF.out.2.1 i hlt
      clear k9 hrow hb
      go_wp2_with fail
      (with_reducible refine HT.out.mono ?_)
      rintro e w2 ⟨A2, rfl, ho2, hb2⟩
      have HF2 := Lib.hid (HF.out.keep hb2)
      have hs2 := hb2.size
      obtain ⟨⟨x2, hx2⟩, hfz2⟩ := HF2.out.2.1 i hlt
      have HO2 := Lib.hid ho2
      have HAP := Lib.hid (fun j (hj : j < i) => (HF.out.2.2.1 j hj).2.2.1)
      have HB2 := Lib.hid (HB.out.trans (hb2.mono HB.out.size))
      clear ho2 hb2
      go_wp2
      exact ⟨⟨i + 1, _, _, _, by omega, by simp, HF2.out.put hlt (by rw [HL2.out]; exact HO2.out) hg (Nat.le_refl _) HAP.out, HB2.out.setCell (Nat.le_refl _) _⟩, by simp [intOf]; omega⟩
    · obtain rfl : i = ls.length := by omega
      have hii : ¬ ((ls.length : Int) < (ls.length : Int)) := by omega
      go_wp2
      go_ret
      refine ⟨_, rfl, ⟨vs, LO, HI, w.heap.size, Nat.le_refl _, hg, ⟨_, rfl⟩, fun j hj => HF.out.2.2.1 j hj, fun m q hm hq hne => ?_⟩, HB.out⟩
      rcases Nat.lt_or_ge m q with h | h
      · exact .inl (HF.out.2.2.2 m q h hq)
      · exact .inr (HF.out.2.2.2 q m (by omega) hm)

set_option maxRecDepth 100000 in
set_option maxHeartbeats 1600000 in
theorem markTA (v : Value) (vs : Nat → Value) (LO HI : Nat → Nat) (base H : Nat) (ls : List (List Int)) (k : Int) (w : World) (hv : TbA w base H v vs LO HI ls) (hl : ls.length ≤ 1099511627776) (ht : tot ls ≤ 1099511627) (hk0 : 0 ≤ k) (hk : k ≤ 1099511627) :
    Calls Try.prog 16 #[v, .int .i64 k] w fun e w' => e = .returned (.int .i64 (k + tot ls)) ∧ Apart base H w w' := by
  obtain ⟨o, h1, h2, ⟨cap, rfl⟩, h4, h5⟩ := hv
  have H4 := Lib.hid h4
  have H5 := Lib.hid h5
  clear h4 h5
  go_enter Try.func16, Try.ntmps16
  go_wp2
  go_loopw [1, 5] (fun x y wr => ∃ j : Nat, j ≤ ls.length ∧ y = .int .i64 j ∧ x = .int .i64 (k + (tot (ls.take j) : Int)) ∧ Apart base H w wr ∧ (∀ m, m < ls.length → wr.cell? ⟨o, m, none⟩ = some (vs m)) ∧ ∀ m, m < ls.length → OwnI wr (LO m) (HI m) (vs m) (mkA k j ls m)) (fun _ y _ => ls.length - (intOf y).toNat)
  case atStart =>
    refine ⟨0, Nat.zero_le _, rfl, by simp [tot], ⟨rfl, rfl, rfl, Nat.le_refl _, fun q hq => rfl⟩, fun m hm => (H4.out m hm).1, fun m hm => ?_⟩
    rw [mkA, if_neg (Nat.not_lt_zero _)]; exact (H4.out m hm).2.2.2
  case round =>
    obtain ⟨j, hj, rfl, rfl, hb, hcs, hrs⟩ := hrel
    have HB := Lib.hid hb
    have HCS := Lib.hid hcs
    have HRS := Lib.hid hrs
    have hB := hb.size
    clear hb hcs hrs
    by_cases hlt : j < ls.length
    · have hc1 := HCS.out j hlt
      have hrj := HRS.out j hlt
      rw [mkA, if_neg (Nat.lt_irrefl _)] at hrj
      have hji : (j : Int) < (ls.length : Int) := by omega
      have HTJ := Lib.hid (tot_take ls j hlt)
      have h3 := tot_le ls j
      have h4 := tot_le ls (j + 1)
      rw [HTJ.out] at h4
      have HMK := Lib.hid (show mkA k (j + 1) ls j = marks (k + (tot (ls.take j) : Int)) (ls.getD j []).length by rw [mkA, if_pos (Nat.lt_succ_self _)])
      have HPL := Lib.hid (show o < LO j ∧ HI j ≤ H from ⟨(H4.out j hlt).2.1, (H4.out j hlt).2.2.1⟩)
      generalize tot (ls.take j) = t at *
      generalize ls.getD j [] = l at *
      obtain ⟨r, hr⟩ : ∃ r, vs j = r := ⟨_, rfl⟩
      rw [hr] at hc1 hrj
      have HRV := Lib.hid hr
      clear hr
      have HE := Lib.hid (markO r (LO j) (HI j) l (k + (t : Int)) wr hrj (by omega) (by omega) (by omega))
      clear hrj
      go_wp2_with fail
      (with_reducible refine HE.out.mono ?_)
      rintro e w' ⟨rfl, ho, ha⟩
      have HO := Lib.hid ho
      have HA := Lib.hid ha
      clear ho ha
      go_wp2
      refine ⟨⟨j + 1, by omega, by simp, by rw [HTJ.out]; congr 1; omega, ?_, fun m hm => ?_, fun m hm => ?_⟩, by simp [intOf]; omega⟩
      · have h1 := HB.out
        have h2 := HA.out
        have h3 := HPL.out
        exact ⟨h2.os.trans h1.os, h2.tape.trans h1.tape, h2.output.trans h1.output, Nat.le_trans h1.size h2.size, fun q hq => (h2.block q (by omega)).trans (h1.block q hq)⟩
      · exact (World.cell?_of_block (a := ⟨o, m, none⟩) (HA.out.block _ (.inl HPL.out.1))).trans (HCS.out m hm)
      · by_cases e : m = j
        · subst e
          rw [HRV.out, HMK.out]; exact HO.out
        · have e2 : mkA k (j + 1) ls m = mkA k j ls m := by
            unfold mkA
            by_cases h : m < j
            · rw [if_pos h, if_pos (by omega)]
            · rw [if_neg h, if_neg (by omega)]
          rw [e2]
          exact (HRS.out m hm).apart HA.out (H5.out m j hm hlt e)
    · obtain rfl : j = ls.length := by omega
      go_wp2
      go_ret
      exact ⟨by rw [List.take_length]; rfl, HB.out⟩

theorem row_tot : ∀ (ls : List (List Int)) (j : Nat), (ls.getD j []).length ≤ tot ls := by
  intro ls
  induction ls with
  | nil => intro j; simp
  | cons l ls ih =>
    intro j
    cases j with
    | zero => show l.length ≤ l.length + tot ls; omega
    | succ j => have := ih j; show (ls.getD j []).length ≤ l.length + tot ls; omega

theorem szIE (v : Value) (xs : List Int) (k : Int) (w : World) (hv : ArgI w v xs) (hm : xs.length ≤ 9223372036854775807) (h0 : 0 ≤ k) (h1 : k ≤ 1048576) :
    Calls Try.prog 29 #[v, .int .i64 k] w fun e w' => (∃ r : Int, e = .returned (.int .i64 r) ∧ ((r = -1 ∧ k < xs.length) ∨ (0 ≤ r ∧ r = k - xs.length))) ∧ w' = w := by
  obtain ⟨A1, c1, rfl, -⟩ := hv
  by_cases hb : k < xs.length
  · have h2 : k - (xs.length : Int) < 0 := by omega
    go_enter Try.func29, Try.ntmps29
    go_wp2
    go_ret
    exact ⟨⟨_, rfl, .inl ⟨rfl, hb⟩⟩, rfl⟩
  · have h2 : ¬ (k - (xs.length : Int) < 0) := by omega
    go_enter Try.func29, Try.ntmps29
    go_wp2
    go_ret
    exact ⟨⟨_, rfl, .inr ⟨by omega, rfl⟩⟩, rfl⟩

set_option maxRecDepth 100000 in
set_option maxHeartbeats 1600000 in
theorem szTT (v : Value) (ls : List (List Int)) (K : Int) (w : World) (hv : ArgT w v ls) (hm : ls.length ≤ 9223372036854775807) (hr : ∀ j, (ls.getD j []).length ≤ 9223372036854775807) (hK0 : 0 ≤ K) (hK : K ≤ 1048576) :
    Calls Try.prog 9 #[v, .int .i64 K] w fun e w' => (∃ r : Int, e = .returned (.int .i64 r) ∧ (r < 0 ∨ (0 ≤ r ∧ r = K - ls.length - tot ls))) ∧ w' = w := by
  obtain ⟨A1, c1, rfl, k1⟩ := hv
  have HK := Lib.hid k1
  have HR := Lib.hid hr
  clear k1 hr
  by_cases hb : K < ls.length
  · have h2 : K - (ls.length : Int) < 0 := by omega
    go_enter Try.func9, Try.ntmps9
    go_wp2
    go_ret
    exact ⟨⟨_, rfl, .inl (by decide)⟩, rfl⟩
  · have h2 : ¬ (K - (ls.length : Int) < 0) := by omega
    go_enter Try.func9, Try.ntmps9
    go_wp2
    go_loopw [1, 5] (fun x y wr => ∃ (i : Nat) (k : Int), i ≤ ls.length ∧ y = .int .i64 i ∧ x = .int .i64 k ∧ 0 ≤ k ∧ k = K - ls.length - tot (ls.take i) ∧ wr = w) (fun _ y _ => ls.length - (intOf y).toNat)
    case atStart => exact ⟨0, K - (ls.length : Int), Nat.zero_le _, rfl, rfl, by omega, by simp [tot], rfl⟩
    case round =>
      obtain ⟨i, k, hi, rfl, rfl, hk0, hk1, rfl⟩ := hrel
      have hkb : k ≤ 1048576 := by omega
      have HK1 := Lib.hid hk1
      clear hk1
      by_cases hlt : i < ls.length
      · obtain ⟨a, rv, rfl, ha, hc, hrow⟩ := HK.out i hlt
        have hii : (i : Int) < (ls.length : Int) := by omega
        have HZ := Lib.hid (szIE rv (ls.getD i []) k wr hrow (HR.out i) hk0 hkb)
        have HTK := Lib.hid (tot_take ls i hlt)
        generalize hl : ls.getD i [] = l at *
        clear hl hrow
        go_wp2_with fail
        (with_reducible refine HZ.out.mono ?_)
        rintro e w' ⟨⟨r, rfl, h⟩, rfl⟩
        rcases h with ⟨rfl, h'⟩ | ⟨h, h'⟩
        · go_wp2
          go_ret
          exact ⟨⟨_, rfl, .inl (by decide)⟩, rfl⟩
        · have hn : ¬ r < 0 := by omega
          have HR2 := Lib.hid h'
          clear h'
          go_wp2
          refine ⟨⟨i + 1, r, by omega, by simp, by simp, h, ?_, by simp⟩, by simp [intOf]; omega⟩
          have e1 := HK1.out
          have e2 := HR2.out
          have e3 := HTK.out
          omega
      · obtain rfl : i = ls.length := by omega
        have hii : ¬ ((ls.length : Int) < (ls.length : Int)) := by omega
        go_wp2
        go_ret
        refine ⟨⟨_, rfl, .inr ⟨hk0, ?_⟩⟩, rfl⟩
        have e1 := HK1.out
        rwa [List.take_length] at e1

end Go.Proofs.Ytkpnfonedfomaaa
end

section
namespace Go.Proofs.Ytkpnfonedfomaaa
open Go.ChangeShapes Go.WideShapes Go.ChangeAt Go.RowKit
set_option linter.unusedVariables false

theorem row_eq {w w' : World} {base sz n : Nat} {e : TypeId} {v : Value} {xs : List Value} (h : w.ownsRow base e sz v n xs) (he : ∀ b, v.ownBlock = some b → w'.heap[b]? = w.heap[b]?) : w'.ownsRow base e sz v n xs := by
  obtain ⟨h1, h2⟩ := h
  refine ⟨h1, ?_⟩
  rcases h2 with h2 | ⟨g, cap, cur, rfl, hb, hh, r⟩
  · exact .inl h2
  · exact .inr ⟨g, cap, cur, rfl, hb, (he g rfl).trans hh, r⟩
structure TbH (w : World) (base H : Nat) (v : Value) (vs : List Value) (ls : List (List Int)) : Prop where
  tb : Tb w base v vs ls
  up : ∀ b, v.ownBlock = some b → base ≤ b ∧ b < H
  ups : ∀ j b, j < ls.length → (vs.getD j nilV).ownBlock = some b → base ≤ b ∧ b < H
variable {w w' : World} {base H : Nat} {v : Value} {vs : List Value} {ls : List (List Int)}
theorem TbH.of (h : Tb w base v vs ls) : TbH w base w.heap.size v vs ls := ⟨h, h.own.lt, fun j b hj hb => h.lt hj hb⟩
theorem TbH.eqs (h : TbH w base H v vs ls) (he : ∀ b, base ≤ b → b < H → w'.heap[b]? = w.heap[b]?) : TbH w' base H v vs ls :=
  ⟨⟨h.tb.len, row_eq h.tb.own fun b hb => he b (h.up b hb).1 (h.up b hb).2, fun j hj => row_eq (h.tb.row j hj) fun b hb => he b (h.ups j b hj hb).1 (h.ups j b hj hb).2, h.tb.apart⟩, h.up, h.ups⟩
theorem TbH.keep {B : Nat} (h : TbH w base H v vs ls) (hb : Below B w w') (hB : H ≤ B) : TbH w' base H v vs ls := h.eqs fun b _ h2 => hb.block b (by omega)
theorem TbH.apart {lo hi : Nat} (h : TbH w base H v vs ls) (ha : Apart lo hi w w') (hd : H ≤ lo ∨ hi ≤ base) : TbH w' base H v vs ls := h.eqs fun b h1 h2 => ha.block b (by omega)
theorem OwnT.apart {lo hi lo' hi' : Nat} (h : OwnT w lo' hi' v ls) (ha : Apart lo hi w w') (hd : hi' ≤ lo ∨ hi ≤ lo') : OwnT w' lo' hi' v ls := by
  obtain ⟨A, cap, e, h⟩ := h
  refine ⟨A, cap, e, fun j hj => ?_⟩
  obtain ⟨o, rv, h1, h2, h3, h4, h5⟩ := h j hj
  exact ⟨o, rv, h1, h2, h3, (World.cell?_of_block (a := ⟨o, j, none⟩) (ha.block o (by omega))).trans h4, h5.apart ha hd⟩
theorem OwnT.bound {lo hi hi2 : Nat} (h : OwnT w lo hi v ls) (h2 : hi ≤ hi2) : OwnT w lo hi2 v ls := by
  obtain ⟨A, cap, e, h⟩ := h
  refine ⟨A, cap, e, fun j hj => ?_⟩
  obtain ⟨o, rv, g1, g2, g3, g4, g5⟩ := h j hj
  exact ⟨o, rv, g1, g2, by omega, g4, g5.wide (Nat.le_refl _) h2⟩
theorem TbH.toT (h : TbH w base H v vs ls) : OwnT w base H v ls := by
  obtain ⟨A, cap, e⟩ := h.tb.form
  refine ⟨A, cap, e, fun j hj => ?_⟩
  obtain ⟨o, c, e2, h1, h2, h3, -⟩ := h.tb.cell hj
  have hu := h.up o (by rw [e2]; rfl)
  rw [e] at e2
  simp only [Value.slice.injEq] at e2
  exact ⟨o, _, e2.1, h1, hu.2, h3, own_wide (row_own (h.tb.row j hj)) (fun b hb => h.ups j b hj hb)⟩

end Go.Proofs.Ytkpnfonedfomaaa
end

section
namespace Go.Proofs.Ytkpnfonedfomaaa
open Go.ChangeShapes Go.WideShapes Go.ChangeAt Go.RowKit
set_option linter.unusedVariables false

set_option maxRecDepth 100000 in
set_option maxHeartbeats 3200000 in
theorem lawBinaryOfTriangles (n0 : Int) (v1 : Value) (ls1 : List (List Int)) (R0 : ByteArray) (R1 : Bool) (w : World) (hv1 : ArgT w v1 ls1) (mp1 : ls1.length ≤ 9223372036854775807) (mr1 : ∀ j, (ls1.getD j []).length ≤ 9223372036854775807)
    (hS : ls1.length ≤ 1048576 → (∀ j, (ls1.getD j []).length ≤ 1048576) → ∀ u1 lo1 hi1, ∀ w, OwnT w lo1 hi1 (.slice u1 ls1.length ls1.length) ls1 → hi1 ≤ w.heap.size → Calls Try.prog 18 #[.int .i64 n0, (.slice u1 ls1.length ls1.length)] w fun e w' => e = .returned (.tuple #[.string R0, .bool R1]) ∧ Below w.heap.size w w')
    (hI : ls1.length ≤ 1048576 → (∀ j, (ls1.getD j []).length ≤ 1048576) → ∀ u1 lo1 hi1, ∀ w, OwnT w lo1 hi1 (.slice u1 ls1.length ls1.length) ls1 → hi1 ≤ w.heap.size → Calls Try.prog 19 #[.int .i64 n0, (.slice u1 ls1.length ls1.length)] w fun e w' => e = .returned (.tuple #[.string R0, .bool R1]) ∧ Below w.heap.size w w') :
    Calls Try.prog 5 #[.int .i64 n0, v1] w fun e w' => e = .returned (.bool true) ∧ Below w.heap.size w w' := by
  have HV1 := Lib.hid hv1
  have MR1 := Lib.hid mr1
  obtain ⟨Aa1, ca1, rfl, -⟩ := id hv1
  have HS0 := Lib.hid hS
  have HI0 := Lib.hid hI
  clear hS hI hv1 mr1
  go_enter Try.func5, Try.ntmps5
  go_wp2_with fail
  (with_reducible refine (szTT _ ls1 1048576 _ HV1.out mp1 MR1.out (by omega) (by omega)).mono ?_)
  rintro e w' ⟨⟨r1, rfl, h⟩, hweq⟩
  subst hweq
  rcases h with h | ⟨h, hk1⟩
  · go_wp2
    go_ret
    exact ⟨rfl, Below.refl _ _⟩
  have hn1 : ¬ r1 < 0 := by omega
  have hl1 : ls1.length ≤ 1048576 := by omega
  have ht1 : tot ls1 ≤ 1048576 := by omega
  have HRW1 := Lib.hid (fun j => show (ls1.getD j []).length ≤ 1048576 from Nat.le_trans (row_tot ls1 j) ht1)
  have HRA1 := Lib.hid (fun j => show (ls1.getD j []).length ≤ 1099511627776 from Nat.le_trans (HRW1.out j) (by decide))
  have HK1 := Lib.hid hk1
  have HS := Lib.hid (HS0.out hl1 HRW1.out)
  have HI := Lib.hid (HI0.out hl1 HRW1.out)
  clear hk1 h
  have hr0 : (R0.toList != R0.toList) = false := by simp
  have hq0 : (R0.toList == R0.toList) = true := by simp
  have hr1 : (R1 != R1) = false := by simp
  have hq1 : (R1 == R1) = true := by simp
  have Hw0 := Lib.hid (Below.refl w'.heap.size w')
  go_wp2_with fail
  (with_reducible refine (toTA _ ls1 _ (HV1.out.keep Hw0.out) hl1 (fun j _ => HRW1.out j)).mono ?_)
  rintro e w1 ⟨A1, vs1, LO1, HI1, rfl, ho, hb⟩
  have z1 := hb.size
  have T1 := Lib.hid ho
  have Hw1 := Lib.hid (Hw0.out.trans (hb.mono Hw0.out.size))
  clear hb ho
  go_wp2_with fail
  (with_reducible refine (HS.out _ _ _ _ T1.out.toT (by omega)).mono ?_)
  rintro e w2 ⟨rfl, hb⟩
  have z2 := hb.size
  have T1_2 := Lib.hid (T1.out.keep hb (by omega))
  have Hw2 := Lib.hid (Hw1.out.trans (hb.mono Hw1.out.size))
  clear hb
  go_wp2_with fail
  (with_reducible refine (toTA _ ls1 _ (HV1.out.keep Hw2.out) hl1 (fun j _ => HRW1.out j)).mono ?_)
  rintro e w3 ⟨A3, vs3, LO3, HI3, rfl, ho, hb⟩
  have z3 := hb.size
  have X1 := Lib.hid ho
  have Hw3 := Lib.hid (Hw2.out.trans (hb.mono Hw2.out.size))
  clear hb ho
  go_wp2_with fail
  (with_reducible refine (HI.out _ _ _ _ X1.out.toT (by omega)).mono ?_)
  rintro e w4 ⟨rfl, hb⟩
  have z4 := hb.size
  have X1_4 := Lib.hid (X1.out.keep hb (by omega))
  have Hw4 := Lib.hid (Hw3.out.trans (hb.mono Hw3.out.size))
  clear hb
  go_wp2_with fail
  (with_reducible refine (toTA _ ls1 _ (HV1.out.keep Hw4.out) hl1 (fun j _ => HRW1.out j)).mono ?_)
  rintro e w5 ⟨A5, vs5, LO5, HI5, rfl, ho, hb⟩
  have z5 := hb.size
  have T1 := Lib.hid ho
  have X1_5 := Lib.hid (X1_4.out.keep hb (by omega))
  have Hw5 := Lib.hid (Hw4.out.trans (hb.mono Hw4.out.size))
  clear hb ho
  go_wp2_with fail
  (with_reducible refine (eqSS_same _ _ _ _ _ _ ls1 _ X1_5.out.toT T1.out.toT (by omega) (by omega) (by omega) HRA1.out).mono ?_)
  rintro e w6 ⟨rfl, hb⟩
  have z6 := hb.size
  have X1_6 := Lib.hid (X1_5.out.keep hb (by omega))
  have T1_6 := Lib.hid (T1.out.keep hb (by omega))
  have Hw6 := Lib.hid (Hw5.out.trans (hb.mono Hw5.out.size))
  clear hb
  go_wp2
  go_ret
  exact ⟨rfl, Hw6.out⟩

end Go.Proofs.Ytkpnfonedfomaaa
end
