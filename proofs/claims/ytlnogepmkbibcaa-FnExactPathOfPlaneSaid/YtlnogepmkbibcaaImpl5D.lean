/- The program's PlaneOf: the open vertices hang on each other. -/
import Derived.Test.YtlnogepmkbibcaaImpl5B
import Derived.Test.YtlnogepmkbibcaaImpl2C
namespace Go.Proofs.Ytlnogepmkbibcaa
open Go.ChangeShapes Go.WideShapes Go.ChangeAt Go.RowKit
open Go.PlainAid (bt bt_nonneg bt_le get_bt)
set_option linter.unusedVariables false

/-- From p on lie the vertices st, each with a pointer to the next one; the last one has none. -/
def Chain (w : World) : Option Addr → List Nat → Prop
  | none, [] => True
  | some a, n :: st => ∃ (g : Nat) (q : Option Addr), a = ⟨g, 0, none⟩ ∧ w.heap[g]? = some (.cells #[.pointer q, .int .i64 (n : Int), .int .i64 (st.length : Int)] 41 (0, 0)) ∧ Chain w q st
  | _, _ => False
theorem Chain.same {w w' : World} (hb : ∀ (g : Nat) (C : Array Value), w.heap[g]? = some (Obj.cells C 41 (0, 0)) → w'.heap[g]? = w.heap[g]?) : ∀ {st : List Nat} {p : Option Addr}, Chain w p st → Chain w' p st := by
  intro st
  induction st with
  | nil =>
    intro p h
    cases p with
    | none => exact h
    | some a => exact h
  | cons n st ih =>
    intro p h
    cases p with
    | none => exact h
    | some a =>
      obtain ⟨g, q, e, hh, hr⟩ := h
      exact ⟨g, q, e, (hb _ _ hh).trans hh, ih hr⟩
/-- Each of st is a number of the list, and has the next one as its parent. -/
def Lnk (l : List Int) : List Nat → Prop
  | [] => True
  | [n] => n < l.length
  | n :: m :: st => n < l.length ∧ l.getD n 0 = (m : Int) ∧ Lnk l (m :: st)
theorem Lnk.more {l : List Int} (x : Int) : ∀ {st : List Nat}, Lnk l st → Lnk (l ++ [x]) st
  | [], h => h
  | [n], h => by show n < _; have : n < l.length := h; simp; omega
  | n :: m :: st, h => by
    obtain ⟨a, b, c⟩ := h
    exact ⟨by simp; omega, by rw [ga_old _ _ _ _ a]; exact b, Lnk.more x c⟩
theorem Lnk.lt {l : List Int} {n : Nat} {st : List Nat} (h : Lnk l (n :: st)) : n < l.length := by
  cases st with
  | nil => exact h
  | cons m st => exact h.1
theorem Lnk.tail {l : List Int} {n : Nat} {st : List Nat} (h : Lnk l (n :: st)) : Lnk l st := by
  cases st with
  | nil => exact True.intro
  | cons m st => exact h.2.2
theorem row_other {w : World} {base n g : Nat} {v : Value} {xs : List Value} {C : Array Value} (h : w.ownsRow base 3 1 v n xs) (e : w.heap[g]? = some (Obj.cells C 41 (0, 0))) : some g ≠ v.ownBlock := by
  intro he
  rcases h.2 with ⟨rfl, -⟩ | ⟨r, cap, cur, rfl, hb, hh, -⟩
  · cases he
  · simp only [Value.ownBlock, Option.some.injEq] at he
    subst he
    rw [hh] at e
    simp at e
theorem iter_other {w : World} {k i j g : Nat} {s : ByteArray} {C : Array Value} (hk : AtS w k s i) (e : w.heap[g]? = some (Obj.cells C 41 (0, 0))) : (w.iterAt k s j).heap[g]? = w.heap[g]? := by
  rw [Lib.iterAt_other]
  intro h
  subst h
  unfold AtS at hk
  rw [e] at hk
  simp at hk

theorem plane_len (s : ByteArray) : (planeOfP s).length ≤ 1048576 := by
  unfold planeOfP
  split
  · rename_i hd
    have h16 := dyck_size hd
    have := (plI_all hd s.size (Nat.le_refl _)).1
    show (plSt s s.size).1.length ≤ _
    omega
  · simp
/-- What holds behind the first i letters. -/
def PlRel (s : ByteArray) (base k i : Nat) (wr : World) (v p : Value) : Prop :=
  ∃ (P : Option Addr) (n : Nat) (st : List Nat), p = .pointer P ∧ AtS wr k s i ∧ Chain wr P (n :: st) ∧ Lnk (plSt s i).1 (n :: st) ∧ (plSt s i).2 = (n : Int) ∧ (st.length : Int) = hAt s i ∧ wr.ownsRow base 3 1 v (plSt s i).1.length ((plSt s i).1.map (Value.int .i64)) ∧ (plSt s i).1.length ≤ i + 1

set_option maxRecDepth 100000 in
set_option maxHeartbeats 3200000 in
theorem planeOfI (s : ByteArray) (w : World) : Calls Try.prog 15 #[.string s] w (AnsIP (planeOfP s) (dyck s) w) := by
  rcases hd : dyck s with _ | _
  · have HP := Lib.hid (show planeOfP s = [] from if_neg (by simp [hd]))
    have HD := Lib.hid hd
    clear hd
    go_enter Try.func15, Try.ntmps15
    go_wp2_with fail
    (with_reducible refine (isDyckI_no s _ HD.out).mono ?_)
    rintro e w1 ⟨rfl, hb⟩
    go_wp2
    go_ret2
    exact ⟨_, rfl, by rw [HP.out]; exact ⟨none, 0, rfl, .inl rfl⟩, hb⟩
  · have HP := Lib.hid (show planeOfP s = (plSt s s.size).1 from if_pos hd)
    have HD := Lib.hid hd
    have h16 := dyck_size hd
    have HN := Lib.hid (fun i hi => (hAt_fit hd i hi).1)
    clear hd
    go_enter Try.func15, Try.ntmps15
    go_wp2_with fail
    (with_reducible refine (isDyckI_yes s _ HD.out).mono ?_)
    rintro e w1 ⟨rfl, hb⟩
    have HB1 := Lib.hid hb
    have z1 := hb.size
    clear hb
    have HSTART := Lib.hid (show ∃ i, i ≤ s.size ∧ PlRel s w1.heap.size (w1.heap.size + 1 + 1) i (((w1.alloc (.cells #[.int .i64 (-1)] 3)).alloc (.cells #[.pointer none, .int .i64 0, .int .i64 0] 41)).iter s 0) (.slice (some ⟨w1.heap.size, 0, none⟩) 1 1) (.pointer (some ⟨w1.heap.size + 1, 0, none⟩)) ∧ Below w1.heap.size w1 (((w1.alloc (.cells #[.int .i64 (-1)] 3)).alloc (.cells #[.pointer none, .int .i64 0, .int .i64 0] 41)).iter s 0) by
      have e1 : (w1.alloc (.cells #[.int .i64 (-1)] 3)).heap.size = w1.heap.size + 1 := by simp
      refine ⟨0, Nat.zero_le _, ⟨_, 0, [], rfl, ?_, ⟨w1.heap.size + 1, none, rfl, ?_, True.intro⟩, ?_, rfl, ?_, ?_, ?_⟩, ?_⟩
      · have h := World.iter_heap ((w1.alloc (.cells #[.int .i64 (-1)] 3)).alloc (.cells #[.pointer none, .int .i64 0, .int .i64 0] 41)) s 0
        have e2 : ((w1.alloc (.cells #[.int .i64 (-1)] 3)).alloc (.cells #[.pointer none, .int .i64 0, .int .i64 0] 41)).heap.size = w1.heap.size + 1 + 1 := by simp
        rw [e2] at h; exact h
      · have h := heap_alloc_new (w1.alloc (.cells #[.int .i64 (-1)] 3)) (.cells #[.pointer none, .int .i64 0, .int .i64 0] 41)
        rw [e1] at h
        show (Array.push _ _)[w1.heap.size + 1]? = _
        rw [Array.getElem?_push, if_neg (by simp)]
        exact h
      · exact Nat.zero_lt_one
      · rw [hAt_zero]; rfl
      · exact World.ownsRow.alloc (World.ownsRow.alloc (row_one w1 (-1)) _) _
      · exact Nat.le_refl _
      · exact (((Below.refl _ w1).alloc (Nat.le_refl _) _).alloc (by simp) _).alloc (by simp; omega) _)
    go_wp2
    go_loopw [4, 5] (fun v p wr => ∃ i, i ≤ s.size ∧ PlRel s w1.heap.size (w1.heap.size + 1 + 1) i wr v p ∧ Below w1.heap.size w1 wr) (fun _ _ wr => s.size - wr.iterPos (w1.heap.size + 1 + 1))
    case atStart => exact HSTART.out
    case round =>
      obtain ⟨i, hi, ⟨P, n, st, rfl, hit, hch, hln, hcur, hst, hown, hlen⟩, hbr⟩ := hrel
      have HIT := Lib.hid hit
      have HB := Lib.hid hbr
      clear HSTART
      by_cases hlt : i < s.size
      · cases P with
        | none => exact absurd hch (by simp [Chain])
        | some a =>
        obtain ⟨g, q, rfl, hg, hq⟩ := hch
        obtain ⟨W, hW⟩ : ∃ W, W = wr.iterAt (w1.heap.size + 1 + 1) s (i + 1) := ⟨_, rfl⟩
        have HIT1 := Lib.hid (show AtS W (w1.heap.size + 1 + 1) s (i + 1) by rw [hW]; exact Lib.iterAt_heap _ _ _ _ _ hit)
        have HOWN := Lib.hid (show W.ownsRow w1.heap.size 3 1 u4 (plSt s i).1.length ((plSt s i).1.map (Value.int .i64)) by rw [hW]; exact own_iterAt hown hit)
        have HCQ := Lib.hid (show Chain W q st by rw [hW]; exact hq.same (fun g C e => iter_other hit e))
        have HG := Lib.hid (show W.heap[g]? = some (.cells #[.pointer q, .int .i64 (n : Int), .int .i64 (st.length : Int)] 41 (0, 0)) by rw [hW]; exact (iter_other hit hg).trans hg)
        have HB3 := Lib.hid (show Below w1.heap.size w1 W by rw [hW]; exact Lib.below_iterAt hbr (by omega) _ _)
        have hB3 := HB3.out.size
        have HLN := Lib.hid hln
        have hc0 : W.cell? ⟨g, 0, none⟩ = some (.pointer q) := by rw [cell_of_row W g 0 _ _ (0, 0) HG.out]; rfl
        have hc1 : W.cell? ⟨g, 1, none⟩ = some (.int .i64 (n : Int)) := by rw [cell_of_row W g 1 _ _ (0, 0) HG.out]; rfl
        have hc2 : W.cell? ⟨g, 2, none⟩ = some (.int .i64 (st.length : Int)) := by rw [cell_of_row W g 2 _ _ (0, 0) HG.out]; rfl
        have hgl := (Array.getElem?_eq_some_iff.1 HG.out).1
        have hbt := get_bt s i hlt
        have hl := dyck_letter HD.out i hlt
        have hn0 := HN.out (i + 1) (by omega)
        have hbd := hAt_bd s i (by omega)
        have HCUR := Lib.hid hcur
        have HST := Lib.hid hst
        have hsl : st.length ≤ 100 := by omega
        clear hst hown hg hq hit hbr hln hcur
        rcases hl with e1 | e1
        · have hnx := next_letter (P := Try.prog) wr _ s i 117 HIT.out hlt e1 (by omega)
          rw [← hW] at hnx
          have HU := Lib.hid (hAt_up s i hlt e1)
          have HSU := Lib.hid (plSt_up (s := s) (i := i) (by omega))
          have HCH := Lib.hid (childC W g ((plSt s i).1.length : Int) (st.length : Int) hc2 (by omega))
          clear e1 hW hbt hc2
          generalize hll : (plSt s i).1 = ol at *
          have hlo : ol.length ≤ 100 := by omega
          obtain ⟨A4, c4, hu4, -⟩ := id (OwnI.of_row HOWN.out)
          subst hu4
          have HGT := Lib.hid (show (W.alloc (.cells #[.pointer (some ⟨g, 0, none⟩), .int .i64 (ol.length : Int), .int .i64 ((st.length : Int) + 1)] 41)).heap.size = W.heap.size + 1 by simp)
          have hd0 : (W.alloc (.cells #[.pointer (some ⟨g, 0, none⟩), .int .i64 (ol.length : Int), .int .i64 ((st.length : Int) + 1)] 41)).cell? ⟨W.heap.size, 0, none⟩ = some (.pointer (some ⟨g, 0, none⟩)) := by
            rw [World.cell?_alloc_at _ _ _ _ rfl]; rfl
          have hd1 : (W.alloc (.cells #[.pointer (some ⟨g, 0, none⟩), .int .i64 (ol.length : Int), .int .i64 ((st.length : Int) + 1)] 41)).cell? ⟨g, 1, none⟩ = some (.int .i64 (n : Int)) :=
            ((below_fresh W _).cell (p := ⟨g, 1, none⟩) hgl).trans hc1
          have HCL := Lib.hid (show ((W.alloc (.cells #[.pointer (some ⟨g, 0, none⟩), .int .i64 (ol.length : Int), .int .i64 ((st.length : Int) + 1)] 41)).alloc (.cells #[.int .i64 (n : Int)] 3)).cell? ⟨W.heap.size + 1, 0, none⟩ = some (.int .i64 (n : Int)) by
            rw [← HGT.out]; exact cell_one _ _ _)
          go_wp2_with fail
          (with_reducible refine HCH.out.mono ?_)
          rintro e w2 ⟨rfl, rfl⟩
          go_wp2_with (at_builtin; go_must (refine wpAppInt rfl _ _ rfl w1.heap.size _ _ ol rfl (World.ownsRow.alloc (World.ownsRow.alloc HOWN.out _) _) _ _ (n : Int) rfl HCL.out (by omega) (by simp; omega) ?_); intro v' w' hown' hg')
          go_roundw
          case rel =>
            have hnr := row_other HOWN.out HG.out
            have hrl := World.ownsRow.lt HOWN.out
            have hne : ∀ j, (Value.slice A4 ol.length c4).ownBlock = some j → w1.heap.size ≤ j ∧ j < W.heap.size := fun j hj => hrl j hj
            have hnew := grow_new hg' (fun e => by have := (hne _ e.symm).2; omega)
            have hold : ∀ (g0 : Nat) (C : Array Value), W.heap[g0]? = some (Obj.cells C 41 (0, 0)) → w'.heap[g0]? = W.heap[g0]? := fun g0 C e => grow_old hg' (Array.getElem?_eq_some_iff.1 e).1 (row_other HOWN.out e)
            have hkk : W.heap[w1.heap.size + 1 + 1]? = some (.stringIter s (i + 1)) := HIT1.out
            have hkl : w1.heap.size + 1 + 1 < W.heap.size := (Array.getElem?_eq_some_iff.1 hkk).1
            refine ⟨i + 1, by omega, ⟨some ⟨W.heap.size, 0, none⟩, ol.length, n :: st, rfl, ?_, ⟨W.heap.size, some ⟨g, 0, none⟩, rfl, ?_, ⟨g, q, rfl, (hold _ _ HG.out).trans HG.out, HCQ.out.same hold⟩⟩, ?_, ?_, ?_, ?_, ?_⟩, ?_⟩
            · exact (grow_old hg' hkl (fun e => by
                have h := own_ne_iter HOWN.out HIT1.out
                exact h e.symm)).trans HIT1.out
            · rw [hnew]; simp
            · rw [HSU.out]
              show Lnk (ol ++ [(plSt s i).2]) (ol.length :: n :: st)
              rw [HCUR.out]
              exact ⟨by simp, ga_new _ _ _ _ rfl, HLN.out.more _⟩
            · rw [HSU.out]
            · rw [HU.out]; have := HST.out; simp only [List.length_cons]; omega
            · rw [HSU.out]
              show w'.ownsRow w1.heap.size 3 1 v' (ol ++ [(plSt s i).2]).length _
              rw [HCUR.out]
              simpa using hown'
            · rw [HSU.out]; simp; omega
            · exact ((HB3.out.alloc hB3 _).alloc (by simp; omega) _).grown hg' (by simp; omega) (fun j hj => (hne j hj).1)
          case measure =>
            have hnr := row_other HOWN.out HG.out
            have hrl := World.ownsRow.lt HOWN.out
            have hkk : W.heap[w1.heap.size + 1 + 1]? = some (.stringIter s (i + 1)) := HIT1.out
            have hkl : w1.heap.size + 1 + 1 < W.heap.size := (Array.getElem?_eq_some_iff.1 hkk).1
            have h1 : AtS w' (w1.heap.size + 1 + 1) s (i + 1) := (grow_old hg' hkl (fun e => by
                have h := own_ne_iter HOWN.out HIT1.out
                exact h e.symm)).trans HIT1.out
            rw [h1.pos, HIT.out.pos]; omega
        · have hnx := next_letter (P := Try.prog) wr _ s i 100 HIT.out hlt e1 (by omega)
          rw [← hW] at hnx
          have HU := Lib.hid (hAt_down s i hlt (by omega))
          have HSU := Lib.hid (plSt_down (s := s) (i := i) (by omega))
          have hun := HU.out
          cases st with
          | nil => have hst := HST.out; simp only [List.length_nil] at hst; omega
          | cons m st =>
          cases q with
          | none => exact absurd HCQ.out (by simp [Chain])
          | some aq =>
          obtain ⟨-, hpm, htl⟩ := HLN.out
          have HPM := Lib.hid hpm
          have HTL := Lib.hid htl
          clear e1 hW hbt hc1 hc2 hpm htl
          go_wp2
          refine ⟨⟨i + 1, by omega, ⟨some aq, m, st, rfl, HIT1.out, HCQ.out, ?_, ?_, ?_, ?_, ?_⟩, HB3.out⟩, ?_⟩
          · rw [HSU.out]; exact HTL.out
          · rw [HSU.out]
            show (plSt s i).1.getD (plSt s i).2.toNat 0 = _
            rw [HCUR.out, Int.toNat_natCast, HPM.out]
          · rw [HU.out]; have := HST.out; simp only [List.length_cons] at this; omega
          · rw [HSU.out]; exact HOWN.out
          · rw [HSU.out]; show (plSt s i).1.length ≤ _; omega
          · rw [HIT1.out.pos, HIT.out.pos]; omega
      · have hnx := fun ty => Lib.run_next_end_at (P := Try.prog) wr _ s i ty hit hlt
        obtain rfl : i = s.size := by omega
        have HOW := Lib.hid (OwnI.of_row hown)
        clear hown hch hln hit
        go_wp2
        go_ret2
        exact ⟨_, rfl, by rw [HP.out]; exact HOW.out.wide z1 (Nat.le_refl _), HB1.out.trans (HB.out.mono z1)⟩

end Go.Proofs.Ytlnogepmkbibcaa
