/- The program's beginningsOf, MajorOf, TableauOf. -/
import Derived.Test.YtefbbkogfoongaaFact11
import Derived.Test.YtefbbkogfoongaaTblTwo
import Derived.Test.YtefbbkogfoongaaShelfB
namespace Go.Proofs.Ytefbbkogfoongaa
open Go.ChangeShapes Go.WideShapes Go.ChangeAt Go.RowKit
open Go.PlainAid (bt bt_nonneg bt_le get_bt)
set_option linter.unusedVariables false

theorem rowIter {w : World} {base n k : Nat} {v : Value} {xs : List Int} {s : ByteArray} {i j : Nat} (h : w.ownsRow base 3 1 v n (xs.map (Value.int .i64))) (hk : w.heap[k]? = some (.stringIter s i)) : (w.iterAt k s j).ownsRow base 3 1 v n (xs.map (Value.int .i64)) := by
  refine ⟨h.1, ?_⟩
  rcases h.2 with h | ⟨g, cap, cur, rfl, h1, h2, h3⟩
  · exact .inl h
  · exact .inr ⟨g, cap, cur, rfl, h1, (Lib.iterAt_other _ _ _ _ _ (by intro e; rw [e, hk] at h2; simp at h2)).trans h2, h3⟩

set_option maxRecDepth 100000 in
set_option maxHeartbeats 1600000 in
theorem beginningsOfI (part s : ByteArray) (w : World) (hd : dyck s = true) :
    Calls Try.prog 38 #[.string part, .string s] w fun e w' => ∃ v, e = .returned v ∧ w'.ownsRow w.heap.size 3 1 v (begL part s s.size).length ((begL part s s.size).map (Value.int .i64)) ∧ Below w.heap.size w w' := by
  have HD := Lib.hid hd
  have h16 := dyck_size hd
  clear hd
  go_enter Try.func38, Try.ntmps38
  go_wp2
  go_loopw [5] (fun st wr => ∃ i : Nat, i ≤ s.size ∧ AtS wr w.heap.size s i ∧ wr.ownsRow (w.heap.size + 1) 3 1 st (begL part s i).length ((begL part s i).map (Value.int .i64)) ∧ w.heap.size + 1 ≤ wr.heap.size ∧ Below w.heap.size w wr) (fun _ wr => s.size - wr.iterPos w.heap.size)
  case atStart => exact ⟨0, Nat.zero_le _, World.iter_heap w s 0, World.ownsRow_nil _ _ _ _, by simp [World.iter], (Below.refl _ _).alloc (Nat.le_refl _) _⟩
  case round =>
    obtain ⟨i, hi1, hit, hst, hsz, hb⟩ := hrel
    have HIT := Lib.hid hit
    have HST := Lib.hid hst
    have HB := Lib.hid hb
    clear hit hst hb
    by_cases hlt : i < s.size
    · obtain ⟨W, hW⟩ : ∃ W, W = wr.iterAt w.heap.size s (i + 1) := ⟨_, rfl⟩
      have HIT1 := Lib.hid (show AtS W w.heap.size s (i + 1) by rw [hW]; exact HIT.out.move)
      have HST1 := Lib.hid (show W.ownsRow (w.heap.size + 1) 3 1 u5 (begL part s i).length ((begL part s i).map (Value.int .i64)) by rw [hW]; exact rowIter HST.out HIT.out)
      have HB4 := Lib.hid (show Below w.heap.size w W by rw [hW]; exact Lib.below_iterAt HB.out (by omega) _ _)
      have hzW : w.heap.size + 1 ≤ W.heap.size := by rw [hW, Lib.iterAt_size]; exact hsz
      have hl := dyck_letter HD.out i hlt
      obtain ⟨c, hc⟩ : ∃ c, s[i].toNat = c := ⟨_, rfl⟩
      have hnx := next_letter (P := Try.prog) wr _ s i c HIT.out hlt hc (by omega)
      rw [← hW] at hnx
      have hle := begL_len part s i
      have hii : (i : Int) ≤ (s.size : Int) := by omega
      have HBS := Lib.hid (show begL part s (i + 1) = if hpB part s i = true then begL part s i ++ [(i : Int) + 1] else begL part s i from rfl)
      have HCP := Lib.hid (show ∀ w, Calls Try.prog 43 #[.string (s.extract i s.size), .string part] w fun e w' => e = .returned (.bool (hpB part s i)) ∧ w = w' from fun w => by
        have h := Try.strings_HasPrefix (s.extract i s.size) part w
        rw [ext_rest s i (by omega)] at h
        exact h.mono (fun _ _ h => ⟨h.1, h.2.symm⟩))
      have hrw := fun k (e : some k = u5.ownBlock) => (World.ownsRow.lt HST1.out k e.symm).1
      have HRW := Lib.hid hrw
      clear hc hl hW hrw HST
      generalize begL part s i = S at *
      rcases hb : hpB part s i with _ | _
      · rw [hb] at HCP
        have HE := Lib.hid (HBS.out.trans (if_neg (by simp [hb])))
        clear HBS hb
        go_wp2_with fail
        (with_reducible refine (HCP.out _).mono ?_)
        rintro e w' ⟨rfl, rfl⟩
        go_wp2
        go_roundw
        case rel => exact ⟨i + 1, by omega, HIT1.out, by rw [HE.out]; exact HST1.out, hzW, HB4.out⟩
        case measure =>
          rw [HIT.out.pos, HIT1.out.pos]; omega
      · rw [hb] at HCP
        have HE := Lib.hid (HBS.out.trans (if_pos hb))
        clear HBS hb
        go_wp2_with fail
        (with_reducible refine (HCP.out _).mono ?_)
        rintro e w' ⟨rfl, rfl⟩
        go_wp2_with (at_builtin; go_must (refine wpAppInt rfl _ _ rfl (w.heap.size + 1) u5 _ S rfl (World.ownsRow.alloc HST1.out _) W.heap.size _ _ rfl (cell_one _ _ _) (by omega) (by simp; omega) ?_); intro v' w' hown' hg')
        have hz3 := hg'.size
        have HA3 := Lib.hid (show AtS w' w.heap.size s (i + 1) from (HIT1.out.alloc _).grown hg' (fun e => by have := HRW.out _ e.symm; omega))
        go_roundw
        case rel => exact ⟨i + 1, by omega, HA3.out, by rw [HE.out]; simpa using hown', by simp at hz3; omega, (HB4.out.alloc (by omega) _).grown hg' (by simp; omega) (fun k hk => by have := HRW.out k hk.symm; omega)⟩
        case measure =>
          rw [HIT.out.pos, HA3.out.pos]; omega
    · have hnx := fun ty => Lib.run_next_end_at (P := Try.prog) wr _ s i ty HIT.out hlt
      obtain rfl : i = s.size := by omega
      go_wp2
      go_ret
      exact ⟨_, rfl, by
        obtain ⟨h1, h2⟩ := HST.out
        exact ⟨h1, h2.elim .inl fun ⟨g, cap, cur, e, hg, r⟩ => .inr ⟨g, cap, cur, e, by omega, r⟩⟩, HB.out⟩

set_option maxRecDepth 100000 in
set_option maxHeartbeats 1600000 in
theorem tableauOfI (s : ByteArray) (w : World) : Calls Try.prog 30 #[.string s] w fun e w' => ∃ v vs, e = .returned (.tuple #[v, .bool (dyck s)]) ∧ Tb w' w.heap.size v vs (tabP s) ∧ Below w.heap.size w w' := by
  rcases hd : dyck s with _ | _
  · have HP := Lib.hid (show tabP s = [] from if_neg (by simp [hd]))
    have HD := Lib.hid hd
    clear hd
    go_enter Try.func30, Try.ntmps30
    go_wp2_with fail
    (with_reducible refine (isDyckI_no s _ HD.out).mono ?_)
    rintro e w' ⟨rfl, hb⟩
    go_wp2
    go_ret2
    exact ⟨_, _, rfl, by rw [HP.out]; exact Tb.nil _ _, hb⟩
  · have HP := Lib.hid (show tabP s = [plU s s.size, plD s s.size] from if_pos hd)
    have HD := Lib.hid hd
    have HU := Lib.hid (fun w => beginningsOfI ⟨#[117]⟩ s w hd)
    have HE := Lib.hid (fun w => beginningsOfI ⟨#[100]⟩ s w hd)
    rw [beg_u s s.size (Nat.le_refl _)] at HU
    rw [beg_d hd s.size (Nat.le_refl _)] at HE
    clear hd
    generalize plU s s.size = L1 at *
    generalize plD s s.size = L2 at *
    go_enter Try.func30, Try.ntmps30
    go_wp2_with fail
    (with_reducible refine (isDyckI_yes s _ HD.out).mono ?_)
    rintro e w1 ⟨rfl, hb1⟩
    have z1 := hb1.size
    have HB1 := Lib.hid hb1
    clear hb1
    go_wp2_with fail
    (with_reducible refine (HU.out _).mono ?_)
    rintro e w2 ⟨v1, rfl, ho, hb2⟩
    have z2 := hb2.size
    obtain ⟨A1, c1, rfl, -⟩ := OwnI.of_row ho
    have HO1 := Lib.hid ho
    have HB2 := Lib.hid hb2
    clear ho hb2
    go_wp2_with fail
    (with_reducible refine (HE.out _).mono ?_)
    rintro e w3 ⟨v2, rfl, ho, hb3⟩
    have z3 := hb3.size
    obtain ⟨A2, c2, rfl, -⟩ := OwnI.of_row ho
    obtain ⟨v1, hv1⟩ : ∃ v, v = Value.slice A1 L1.length c1 := ⟨_, rfl⟩
    obtain ⟨v2, hv2⟩ : ∃ v, v = Value.slice A2 L2.length c2 := ⟨_, rfl⟩
    rw [← hv1] at HO1
    rw [← hv2] at ho
    have HB3 := Lib.hid hb3
    have hlt1 := fun k (e : v1.ownBlock = some k) => World.ownsRow.lt HO1.out k e
    have hlt2 := fun k (e : v2.ownBlock = some k) => World.ownsRow.lt ho k e
    have HO2 := Lib.hid (show w3.ownsRow w.heap.size 3 1 v2 L2.length (L2.map (Value.int .i64)) from ⟨ho.1, ho.2.elim .inl fun ⟨g, cap, cur, e, hg, r⟩ => .inr ⟨g, cap, cur, e, by omega, r⟩⟩)
    have HO3 := Lib.hid (show w3.ownsRow w.heap.size 3 1 v1 L1.length (L1.map (Value.int .i64)) by
      have h := row_eq HO1.out (fun b e => hb3.block b (hlt1 b e).2)
      exact ⟨h.1, h.2.elim .inl fun ⟨g, cap, cur, e, hg, r⟩ => .inr ⟨g, cap, cur, e, by omega, r⟩⟩)
    have HNE := Lib.hid (show v1.ownBlock = none ∨ v1.ownBlock ≠ v2.ownBlock by
      rcases e : v1.ownBlock with _ | k
      · exact .inl rfl
      · refine .inr fun e2 => ?_
        have h1 := (hlt1 k e).2
        have h2 := (hlt2 k e2.symm).1
        omega)
    have HB4 := Lib.hid ((HB1.out.trans ((HB2.out.trans (HB3.out.mono z2)).mono z1)).alloc (show w.heap.size ≤ w3.heap.size by omega) (.cells #[v1, v2] 31))
    have HTT := Lib.hid (Tb.two HO3.out HO2.out HNE.out (show w.heap.size ≤ w3.heap.size by omega))
    clear ho hb3 hlt1 hlt2
    rw [hv1, hv2] at HTT HB4
    go_wp2
    go_ret2
    exact ⟨_, _, rfl, by rw [HP.out]; exact HTT.out, HB4.out⟩

end Go.Proofs.Ytefbbkogfoongaa
