/- The contracts of the model's PlacesOf, IsParking, DisplacementOf, LuckyOf, PathOfParking. -/
import Derived.Test.YtidfbnfgmacjgaaSpec12A
import Derived.Test.YtidfbnfgmacjgaaAppAt
namespace Go.Proofs.Ytidfbnfgmacjgaa
open Go.ChangeShapes Go.WideShapes Go.ChangeAt Go.RowKit
set_option linter.unusedVariables false

theorem infoB : (Try.prog.info? 4).map (fun i => (i.zero, i.size, i.bytes)) = some (some (.bool false), 1, 1) := by kernel_rfl
/-- Block g holds m truth values. -/
def TkB (w : World) (g m : Nat) (f : Nat → Bool) : Prop := ∃ C : Array Value, w.heap[g]? = some (.cells C 4 (0, 0)) ∧ C.size = m ∧ ∀ q, q < m → C[q]? = some (.bool (f q))
theorem TkB.lt {w : World} {g m : Nat} {f : Nat → Bool} (h : TkB w g m f) : g < w.heap.size := by
  obtain ⟨C, h1, -⟩ := h
  exact (Array.getElem?_eq_some_iff.1 h1).1
theorem TkB.cell {w : World} {g m : Nat} {f : Nat → Bool} (h : TkB w g m f) {q : Nat} (hq : q < m) : w.cell? ⟨g, q, none⟩ = some (.bool (f q)) ∧ w.frozen? ⟨g, q, none⟩ = false := by
  obtain ⟨C, h1, -, h2⟩ := h
  refine ⟨?_, by simp [World.frozen?, h1]⟩
  rw [cell_of_row w g q C _ (0, 0) h1]
  exact h2 q hq
theorem TkB.set {w : World} {g m k : Nat} {f f' : Nat → Bool} {y : Bool} (h : TkB w g m f) (hk : k < m) (hy : f' k = y) (ho : ∀ q, q < m → q ≠ k → f' q = f q) : TkB (w.setCell ⟨g, k, none⟩ (.bool y)) g m f' := by
  obtain ⟨C, h1, h0, h2⟩ := h
  refine ⟨C.setIfInBounds k (.bool y), by simp [World.setCell, Array.getElem?_modify, h1], by simpa using h0, fun q hq => ?_⟩
  by_cases e : q = k
  · subst e
    rw [Array.getElem?_setIfInBounds_self_of_lt (by omega), hy]
  · rw [Array.getElem?_setIfInBounds_ne (by omega), h2 q hq, ho q hq e]
theorem TkB.keep {w w' : World} {g m : Nat} {f : Nat → Bool} (h : TkB w g m f) (e : w'.heap[g]? = w.heap[g]?) : TkB w' g m f := by
  obtain ⟨C, h1, h2⟩ := h
  exact ⟨C, e.trans h1, h2⟩
theorem TkB.alloc {w : World} {g m : Nat} {f : Nat → Bool} (h : TkB w g m f) (o : Obj) : TkB (w.alloc o) g m f :=
  h.keep (by
    have := h.lt
    rw [show (w.alloc o).heap = w.heap.push o from rfl, Array.getElem?_push, if_neg (by omega)])
theorem TkB.same {w : World} {g m : Nat} {f f' : Nat → Bool} (h : TkB w g m f) (ho : ∀ q, q < m → f' q = f q) : TkB w g m f' := by
  obtain ⟨C, h1, h0, h2⟩ := h
  exact ⟨C, h1, h0, fun q hq => by rw [h2 q hq, ho q hq]⟩
theorem TkB.made {w : World} {base m : Nat} {b0 : Nat} (h : w.ownsRow b0 4 1 (.slice (some ⟨base, 0, none⟩) m m) m (madeCells (Value.bool false).cells (m * 1)).toList) : TkB w base m fun _ => false := by
  rcases h.2 with ⟨h1, _⟩ | ⟨g, cap, cur, hv, hb, hh, hnc, hcm, hcur, htake⟩
  · cases h1
  · simp only [Value.slice.injEq, Option.some.injEq, Addr.mk.injEq] at hv
    obtain ⟨⟨rfl, _, _⟩, _, rfl⟩ := hv
    refine ⟨cur, hh, by simpa using hcur, fun j hj => ?_⟩
    have e : cur.toList[j]? = (cur.toList.take (m * 1))[j]? := by rw [List.getElem?_take, if_pos (by omega)]
    rw [← Array.getElem?_toList, e, htake, show (Value.bool false).cells = #[Value.bool false] from rfl, toList_madeCells_one]
    simp [hj]

set_option maxRecDepth 100000 in
set_option maxHeartbeats 3200000 in
theorem placesOf (v : Value) (xs : List Int) (lo hi : Nat) (w : World) (hv : OwnI w lo hi v xs) (hhi : hi ≤ w.heap.size) (hl : xs.length ≤ 1099511627776) :
    Calls Try.prog 14 #[v] w (AnsIB (plcP xs) (parkB xs) w) := by
  obtain ⟨A1, c1, rfl, k1⟩ := id hv
  clear k1
  have HBA := Lib.hid ((Below.refl w.heap.size w).alloc (Nat.le_refl _) (.cells #[] 3))
  have HV := Lib.hid hv
  have HM := Lib.hid (l12Cars _ xs lo hi _ (hv.keep HBA.out hhi) hl)
  clear hv
  rcases hm : carsB xs with _ | _
  · have HO := Lib.hid (park_cars hm)
    have HP := Lib.hid (plcP_no HO.out)
    rw [hm] at HM
    clear hm
    go_enter Try.func14, Try.ntmps14
    go_wp2_with fail
    (with_reducible refine HM.out.mono ?_)
    rintro e w' ⟨rfl, rfl⟩
    go_wp2
    go_ret2
    exact ⟨_, ret_ib rfl HO.out.symm, by rw [HP.out]; exact ⟨_, _, rfl, .inl rfl⟩, HBA.out⟩
  · obtain ⟨h6, hw⟩ := cars_yes hm
    have HW := Lib.hid hw
    rw [hm] at HM
    clear hm hw
    obtain ⟨i0, hi0, hz0, hz1, hz2⟩ := info_parts infoB
    go_enter Try.func14, Try.ntmps14
    go_wp2_with fail
    (with_reducible refine HM.out.mono ?_)
    rintro e w' ⟨rfl, rfl⟩
    go_wp2_with (at_make; go_must (refine wpList_make_full _ rfl _ _ 34 rfl (w.heap.size + 1) 4 i0 (.bool false) 1 Try.underlying34 hi0 hz0 hz1 .i64 .i64 ((xs.length : Int) + 2) ((xs.length : Int) + 2) (xs.length + 2) rfl rfl (by omega) (by omega) (by rw [hz2]; omega) (by unfold maxLen; omega) (by simp) ?_); intro w2 hown1 hgrow1)
    rw [show (w.alloc (.cells #[] 3)).heap.size = w.heap.size + 1 by simp] at hown1
    have hlt1 : w.heap.size + 1 < w2.heap.size := (hown1.lt _ rfl).2
    have HTK := Lib.hid (TkB.made hown1)
    have HST0 := Lib.hid (show RowN w2 w.heap.size (.slice (some ⟨w.heap.size, 0, none⟩) 0 0) [] from World.ownsRow.kept (World.ownsRow_made w #[] 0 (Nat.le_refl _) (Nat.zero_le _) (by simp)) hgrow1 (.inr (by simp [Value.ownBlock])))
    have HB2 := Lib.hid (HBA.out.grown hgrow1 (by simp) (fun k hk => by cases hk))
    clear hown1 hgrow1
    go_wp2
    go_loopw [4, 6] (fun st x6 wr => ∃ i : Nat, i ≤ xs.length ∧ x6 = .int .i64 i ∧ RowN wr w.heap.size st (pkL xs i) ∧ st.ownBlock ≠ some (w.heap.size + 1) ∧ TkB wr (w.heap.size + 1) (xs.length + 2) (fun q => decide ((q : Int) ∈ pkL xs i)) ∧ w2.heap.size ≤ wr.heap.size ∧ Below w.heap.size w wr ∧ ∀ j, j < i → cOk xs j) (fun _ x6 _ => xs.length - (intOf x6).toNat)
    case atStart => exact ⟨0, Nat.zero_le _, rfl, HST0.out, by simp [Value.ownBlock], HTK.out.same (fun q hq => by simp [pkL]), Nat.le_refl _, HB2.out, fun j h => absurd h (Nat.not_lt_zero _)⟩
    case round =>
      obtain ⟨i, hi1, rfl, hst, hob, htk, hsz, hb, hco⟩ := hrel
      have HST := Lib.hid hst
      have HOB := Lib.hid hob
      have HT := Lib.hid htk
      have HB := Lib.hid hb
      have HCO := Lib.hid hco
      clear hst hob htk hb hco HTK HST0 HB2
      by_cases hlt : i < xs.length
      · obtain ⟨g1, p1, e1, -, -, hc1, -⟩ := (HV.out.keep HB.out hhi).cell hlt
        simp only [Value.slice.injEq] at e1
        obtain ⟨rfl, -, rfl⟩ := e1
        have hii : (i : Int) < (xs.length : Int) := by omega
        obtain ⟨y1, y2⟩ := HW.out i hlt
        have HNO := Lib.hid (fun h : ¬ cOk xs i => park_no hlt h)
        have HYE := Lib.hid (fun h : plN xs i ≤ xs.length => show cOk xs i from ⟨HW.out i hlt, h⟩)
        have HCK := Lib.hid (show cOk xs i ↔ wOk xs i ∧ plN xs i ≤ xs.length from Iff.rfl)
        have HSU := Lib.hid (pkL_succ xs i)
        have hpl := pkL_len xs i
        obtain ⟨y, hy⟩ : ∃ y : Nat, xs.getD i 0 = y := ⟨(xs.getD i 0).toNat, by omega⟩
        have HPL := Lib.hid (show frP (pkL xs i) (xs.length + 1 - y) y = plN xs i by unfold plN; rw [hy]; rfl)
        rw [hy] at hc1 y1 y2
        have hrw := fun k (e : some k = u4.ownBlock) => (World.ownsRow.lt HST.out k e.symm).1
        have HRW := Lib.hid hrw
        clear hy hrw
        generalize plN xs i = P at *
        generalize pkL xs i = t at *
        go_wp2
        go_loop [7] (fun x7 => ∃ p : Nat, 1 ≤ p ∧ p ≤ xs.length + 1 ∧ x7 = .int .i64 p ∧ frP t (xs.length + 1 - p) p = P) (fun x7 => xs.length + 1 - (intOf x7).toNat)
        case atStart => exact ⟨y, by omega, by omega, rfl, HPL.out⟩
        case round =>
          obtain ⟨p, h1p, hp1, rfl, hfr⟩ := hrel
          have HFR := Lib.hid hfr
          clear hfr
          by_cases hpn : p ≤ xs.length
          · have hpi : (p : Int) ≤ (xs.length : Int) := by omega
            have hpl2 : (p : Int) < ((xs.length + 2 : Nat) : Int) := by omega
            obtain ⟨hc2, hf2⟩ := HT.out.cell (q := p) (by omega)
            by_cases hmem : (p : Int) ∈ t
            · rw [decide_eq_true hmem] at hc2
              have HNX := Lib.hid ((frP_hit hpn hmem).symm.trans HFR.out)
              clear hmem
              go_wp2
              exact ⟨⟨p + 1, by omega, by omega, by simp, HNX.out⟩, by simp [intOf]; omega⟩
            · rw [decide_eq_false hmem] at hc2
              obtain rfl : p = P := (frP_free hpn hmem).symm.trans HFR.out
              have HCI := Lib.hid (HYE.out hpn)
              have HST2 := Lib.hid (HST.out.other (g := w.heap.size + 1) (q := p) HOB.out (.bool true))
              have HT2 := Lib.hid (HT.out.set (k := p) (f' := fun q => decide ((q : Int) ∈ t ++ [(p : Int)])) (y := true) (by omega) (by simp) (fun q hq hne => by
                simp only [List.mem_append, List.mem_singleton]
                congr 1
                exact propext ⟨fun h => h.resolve_right (by omega), .inl⟩))
              have HB3 := Lib.hid (HB.out.setCell (p := ⟨w.heap.size + 1, p, none⟩) (by simp) (.bool true))
              have hpg : ¬ (xs.length : Int) < (p : Int) := by omega
              clear hmem HFR HPL
              go_wp2_with (at_builtin; go_must (refine wpAppIntAt rfl _ _ rfl w.heap.size u4 _ t rfl (World.ownsRow.alloc HST2.out _) wr.heap.size _ _ rfl (by have h := cell_one (wr.setCell ⟨w.heap.size + 1, p, none⟩ (.bool true)) (.int .i64 (p : Int)) 3; simpa [World.setCell] using h) (by omega) (by simp [World.setCell]; omega) ?_); intro v' w' hown' hg' hat')
              have hz3 := hg'.size
              simp [World.setCell] at hz3
              go_roundw
              case rel =>
                refine ⟨i + 1, by omega, by simp, by unfold RowN; rw [HSU.out]; simpa using hown', ?_, by rw [HSU.out]; exact (HT2.out.alloc _).keep (hg'.block _ (by have := HT2.out.lt; simp at this ⊢; omega) (fun e => HOB.out e.symm)), by omega, (HB3.out.alloc (by simp [World.setCell]; omega) _).grown hg' (by simp [World.setCell]; omega) (fun k hk => HRW.out k hk.symm), fun j hj => ?_⟩
                · rcases hat' with e | e
                  · rw [e]; exact HOB.out
                  · rw [e]; simp [World.setCell]; omega
                · by_cases e : j < i
                  · exact HCO.out j e
                  · obtain rfl : j = i := by omega
                    exact HCI.out
              case measure => simp [intOf]; omega
          · obtain rfl : p = xs.length + 1 := by omega
            have HPE := Lib.hid ((frP_end t xs.length).symm.trans HFR.out)
            have hpi : ¬ (((xs.length + 1 : Nat) : Int) ≤ (xs.length : Int)) := by omega
            have hpg : (xs.length : Int) < ((xs.length + 1 : Nat) : Int) := by omega
            have HO := Lib.hid (HNO.out (fun h => by have := (HCK.out.1 h).2; have := HPE.out; omega))
            have HP := Lib.hid (plcP_no HO.out)
            generalize ((xs.length + 1 : Nat) : Int) = pp at *
            go_wp2
            go_ret2
            exact ⟨_, ret_ib rfl HO.out.symm, by rw [HP.out]; exact ⟨_, _, rfl, .inl rfl⟩, HB.out.alloc (by omega) _⟩
      · obtain rfl : i = xs.length := by omega
        have HO := Lib.hid (park_all h6 HCO.out)
        have HP := Lib.hid (plcP_yes HO.out)
        go_wp2
        go_ret2
        exact ⟨_, ret_ib rfl HO.out.symm, by rw [HP.out]; exact OwnI.of_row HST.out, HB.out⟩

end Go.Proofs.Ytidfbnfgmacjgaa
