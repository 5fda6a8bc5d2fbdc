/- The contracts of the model's CountRight, NeighboursOf, WeightsOf, RightComb, LeftComb. -/
import Derived.Test.YtjpmepciklfenaaSpec16B
import Derived.Test.YtjpmepciklfenaaStrs
import Derived.Test.YtjpmepciklfenaaLawLists
namespace Go.Proofs.Ytjpmepciklfenaa
open Go.ChangeShapes Go.WideShapes Go.ChangeAt Go.RowKit
open Go.PlainAid (bt bt_nonneg bt_le get_bt bt_end)
set_option linter.unusedVariables false

/-- How many of the first k nodes can be rotated. -/
theorem chg_cnt {f : Tr → Option Tr} {s : ByteArray} {t : Tr} (e : ∀ v, rotO f s v = chg f t v) (k : Nat) : (chgL f t (k + 1)).length = (chgL f t k).length + if rotB f s k = true then 1 else 0 := by
  cases hc : chg f t k with
  | none =>
    have : rotB f s k = false := by unfold rotB; rw [e, hc]; rfl
    rw [chgL_none hc, this]; simp
  | some x =>
    have : rotB f s k = true := by unfold rotB; rw [e, hc]; rfl
    rw [chgL_some hc, this]; simp
theorem chg_app {f : Tr → Option Tr} {s : ByteArray} {t : Tr} (e : ∀ v, rotO f s v = chg f t v) (k : Nat) : (rotB f s k = true ∧ chgL f t (k + 1) = chgL f t k ++ [rotP f s k]) ∨ (rotB f s k = false ∧ chgL f t (k + 1) = chgL f t k) := by
  cases hc : chg f t k with
  | none =>
    right
    exact ⟨by unfold rotB; rw [e, hc]; rfl, chgL_none hc⟩
  | some x =>
    left
    refine ⟨by unfold rotB; rw [e, hc]; rfl, ?_⟩
    rw [chgL_some hc]
    congr 1
    unfold rotP; rw [e, hc]; rfl

set_option maxRecDepth 100000 in
set_option maxHeartbeats 1600000 in
theorem countRight (s : ByteArray) (w : World) (hs : s.size ≤ 1099511627776) : Calls Try.prog 18 #[.string s] w fun e w' => e = .returned (.int .i64 (cntP s)) ∧ Below w.heap.size w w' := by
  have HI := Lib.hid (isBinary s w hs)
  rcases hb : binB s with _ | _
  · have HP := Lib.hid (show cntP s = -1 from if_neg (by rw [hb]; simp))
    rw [hb] at HI
    clear hb
    go_enter Try.func18, Try.ntmps18
    go_wp2_with fail
    (with_reducible refine HI.out.mono ?_)
    rintro e w1 ⟨rfl, rfl⟩
    go_wp2
    go_ret
    exact ⟨ret_int HP.out.symm, Below.refl _ _⟩
  · have HN := Lib.hid (fun W => nodesOf s W hs)
    have HR := Lib.hid (fun v W => rotateRotateRight s v W hs)
    have HP0 := Lib.hid (show cntP s = (((rotsP rotR s).length : Nat) : Int) from if_pos hb)
    rw [hb] at HI
    obtain ⟨t, es, hn, -⟩ := par_yes hb
    have HP := Lib.hid (show cntP s = (((chgL rotR t (nds t)).length : Nat) : Int) by rw [HP0.out, es]; rw [rots_sh hn])
    have HC := Lib.hid (chg_cnt (f := rotR) (s := s) (t := t) (fun v => by rw [es]; exact rotO_sh hn v))
    have HLE := Lib.hid (chgL_le rotR t)
    rw [show nodesP s = (nds t : Int) by rw [es]; exact nodes_sh t hn] at HN
    obtain ⟨n, hnn⟩ : ∃ n, n = nds t := ⟨_, rfl⟩
    rw [← hnn] at HP HN hn
    clear hb es HP0 hnn
    go_enter Try.func18, Try.ntmps18
    go_wp2_with fail
    (with_reducible refine HI.out.mono ?_)
    rintro e w1 ⟨rfl, rfl⟩
    go_wp2
    go_loopw [3, 4] (fun x y wr => ∃ i q : Nat, i ≤ n ∧ y = .int .i64 i ∧ x = .int .i64 (((chgL rotR t i).length : Nat) : Int) ∧ wr = w.drewN q) (fun _ y _ => n - (intOf y).toNat)
    case atStart => exact ⟨0, 0, Nat.zero_le _, rfl, rfl, rfl⟩
    case round =>
      obtain ⟨i, q, hi, rfl, rfl, rfl⟩ := hrel
      have hle := HLE.out i
      have HCI := Lib.hid (HC.out i)
      generalize hcc : (chgL rotR t i).length = c at *
      have HCC := Lib.hid hcc
      clear hcc
      go_wp2_with fail
      (with_reducible refine (HN.out _).mono ?_)
      rintro e w1 ⟨rfl, rfl⟩
      by_cases hlt : i < n
      · have hii : (i : Int) < (n : Int) := by omega
        rcases hB : rotB rotR s i with _ | _
        · have HR1 := Lib.hid (HR.out (i : Int))
          rw [hB] at HR1
          have HC2 := Lib.hid (show (chgL rotR t (i + 1)).length = c by rw [HCI.out, hB]; simp)
          clear hB
          go_wp2_with fail
          (with_reducible refine (HR1.out _).mono ?_)
          rintro e w2 ⟨rfl, q2, rfl⟩
          go_wp2
          exact ⟨⟨i + 1, _, by omega, by simp, by rw [HC2.out], rfl⟩, by simp [intOf]; omega⟩
        · have HR1 := Lib.hid (HR.out (i : Int))
          rw [hB] at HR1
          have HC2 := Lib.hid (show (chgL rotR t (i + 1)).length = c + 1 by rw [HCI.out, hB]; simp)
          clear hB
          go_wp2_with fail
          (with_reducible refine (HR1.out _).mono ?_)
          rintro e w2 ⟨rfl, q2, rfl⟩
          go_wp2
          exact ⟨⟨i + 1, _, by omega, by simp, by rw [HC2.out]; simp, rfl⟩, by simp [intOf]; omega⟩
      · obtain rfl : i = n := by omega
        go_wp2
        go_ret
        exact ⟨ret_int (by rw [HP.out, HCC.out]), below_drewN (Below.refl _ _) _⟩

set_option maxRecDepth 100000 in
set_option maxHeartbeats 3200000 in
theorem neighboursOf (s : ByteArray) (w : World) (hs : s.size ≤ 1099511627776) : Calls Try.prog 20 #[.string s] w (AnsS (neiP s) w) := by
  have HN := Lib.hid (fun W => nodesOf s W hs)
  rcases hb : binB s with _ | _
  · have HP := Lib.hid (show neiP s = [] by unfold neiP; rw [rots_no hb, rots_no hb]; rfl)
    rw [nodes_no hb] at HN
    clear hb
    have HROW := Lib.hid (World.ownsRow_made (base := w.heap.size) (e := 9) (size := 1) w #[] 0 (Nat.le_refl _) (Nat.zero_le _) (by simp))
    have HB0 := Lib.hid ((Below.refl w.heap.size w).alloc (Nat.le_refl _) (.cells #[] 9))
    go_enter Try.func20, Try.ntmps20
    go_wp2
    go_loop [3, 4] (fun v y => v = .slice (some ⟨w.heap.size, 0, none⟩) 0 0 ∧ y = .int .i64 0) (fun _ _ => 0)
    case atStart => exact ⟨rfl, rfl⟩
    case round =>
      obtain ⟨rfl, rfl⟩ := hrel
      go_wp2_with fail
      (with_reducible refine (HN.out _).mono ?_)
      rintro e w1 ⟨rfl, rfl⟩
      go_wp2
      go_loop [3, 7] (fun v y => v = .slice (some ⟨w.heap.size, 0, none⟩) 0 0 ∧ y = .int .i64 0) (fun _ _ => 0)
      case atStart => exact ⟨rfl, rfl⟩
      case round =>
        obtain ⟨rfl, rfl⟩ := hrel
        go_wp2_with fail
        (with_reducible refine (HN.out _).mono ?_)
        rintro e w1 ⟨rfl, rfl⟩
        go_wp2
        go_ret
        exact ⟨_, rfl, by rw [HP.out]; exact ⟨_, _, rfl, .inl rfl⟩, (Below.refl _ _).alloc (Nat.le_refl _) _⟩
  · obtain ⟨t, es, hn, -⟩ := par_yes hb
    have HRR := Lib.hid (fun v W => rotateRotateRight s v W hs)
    have HRL := Lib.hid (fun v W => rotateRotateLeft s v W hs)
    have HP := Lib.hid (show neiP s = chgL rotR t (nds t) ++ chgL rotL t (nds t) by unfold neiP; rw [es, rots_sh hn, rots_sh hn])
    have HCR := Lib.hid (chg_app (f := rotR) (s := s) (t := t) (fun v => by rw [es]; exact rotO_sh hn v))
    have HCL := Lib.hid (chg_app (f := rotL) (s := s) (t := t) (fun v => by rw [es]; exact rotO_sh hn v))
    have HLR := Lib.hid (chgL_le rotR t)
    have HLL := Lib.hid (chgL_le rotL t)
    rw [show nodesP s = (nds t : Int) by rw [es]; exact nodes_sh t hn] at HN
    obtain ⟨n, hnn⟩ : ∃ n, n = nds t := ⟨_, rfl⟩
    rw [← hnn] at HP HN hn
    clear hb es hnn
    go_enter Try.func20, Try.ntmps20
    go_wp2
    go_loopw [3, 4] (fun v y wr => ∃ i : Nat, i ≤ n ∧ y = .int .i64 i ∧ wr.ownsRow w.heap.size 9 1 v (chgL rotR t i).length ((chgL rotR t i).map Value.string) ∧ Below w.heap.size w wr) (fun _ y _ => n - (intOf y).toNat)
    case atStart => exact ⟨0, Nat.zero_le _, rfl, World.ownsRow_made w #[] 0 (Nat.le_refl _) (Nat.zero_le _) (by simp), (Below.refl _ _).alloc (Nat.le_refl _) _⟩
    case round =>
      obtain ⟨i, hi, rfl, hrow, hb⟩ := hrel
      have HROW := Lib.hid hrow
      have HB := Lib.hid hb
      have hB := hb.size
      have hle := HLR.out i
      clear hrow hb
      go_wp2_with fail
      (with_reducible refine (HN.out _).mono ?_)
      rintro e w1 ⟨rfl, rfl⟩
      by_cases hlt : i < n
      · have hii : (i : Int) < (n : Int) := by omega
        have HR1 := Lib.hid (HRR.out (i : Int))
        rcases HCR.out i with ⟨hB, hL⟩ | ⟨hB, hL⟩
        · rw [hB] at HR1
          have HL := Lib.hid hL
          clear hB hL
          generalize rotP rotR s i = S at *
          go_wp2_with fail
          (with_reducible refine (HR1.out _).mono ?_)
          rintro e w2 ⟨rfl, q2, rfl⟩
          have HROW2 := Lib.hid (show (wr.drewN q2).ownsRow w.heap.size 9 1 _ _ _ from HROW.out)
          have HB2 := Lib.hid (below_drewN HB.out q2)
          have z2 := HB2.out.size
          go_wp2_with (at_builtin; go_must (refine wpAppStr rfl _ _ rfl w.heap.size _ _ _ rfl (World.ownsRow.alloc HROW2.out _) wr.heap.size _ _ rfl (cell_one _ _ _) (by omega) (base_up z2) ?_); intro v' w' hown' hg')
          go_roundw
          case rel => exact ⟨i + 1, by omega, by simp, by rw [HL.out, List.length_append, List.length_singleton]; exact hown', (HB2.out.alloc z2 _).grown hg' (base_up z2) (fun k hk => (World.ownsRow.lt HROW2.out k hk).1)⟩
          case measure => simp [intOf]; omega
        · rw [hB] at HR1
          have HL := Lib.hid hL
          clear hB hL
          go_wp2_with fail
          (with_reducible refine (HR1.out _).mono ?_)
          rintro e w2 ⟨rfl, q2, rfl⟩
          go_wp2
          exact ⟨⟨i + 1, by omega, by simp, by rw [HL.out]; exact HROW.out, below_drewN HB.out q2⟩, by simp [intOf]; omega⟩
      · obtain rfl : i = n := by omega
        go_wp2
        obtain ⟨wo, rfl⟩ : ∃ wo, wo = wr := ⟨_, rfl⟩
        go_loopw [3, 7] (fun v y w2 => ∃ k : Nat, k ≤ i ∧ y = .int .i64 k ∧ w2.ownsRow w.heap.size 9 1 v (chgL rotR t i ++ chgL rotL t k).length ((chgL rotR t i ++ chgL rotL t k).map Value.string) ∧ Below w.heap.size w w2) (fun _ y _ => i - (intOf y).toNat)
        case atStart => exact ⟨0, Nat.zero_le _, rfl, by rw [chgL, List.append_nil]; exact HROW.out, HB.out⟩
        case round =>
          obtain ⟨k, hk, rfl, hrow, hb⟩ := hrel
          have HROW1 := Lib.hid hrow
          have HB1 := Lib.hid hb
          have hB1 := hb.size
          have hle2 := HLL.out k
          clear hrow hb HROW HB
          go_wp2_with fail
          (with_reducible refine (HN.out _).mono ?_)
          rintro e w1 ⟨rfl, rfl⟩
          by_cases hlt2 : k < i
          · have hii : (k : Int) < (i : Int) := by omega
            have HR1 := Lib.hid (HRL.out (k : Int))
            have hlen : (chgL rotR t i ++ chgL rotL t k).length ≤ 100 := by rw [List.length_append]; omega
            rcases HCL.out k with ⟨hB, hL⟩ | ⟨hB, hL⟩
            · rw [hB] at HR1
              have HL := Lib.hid (show chgL rotR t i ++ chgL rotL t (k + 1) = chgL rotR t i ++ chgL rotL t k ++ [rotP rotL s k] by rw [hL, List.append_assoc])
              clear hB hL
              generalize rotP rotL s k = S at *
              go_wp2_with fail
              (with_reducible refine (HR1.out _).mono ?_)
              rintro e w3 ⟨rfl, q2, rfl⟩
              have HROW2 := Lib.hid (show (wr.drewN q2).ownsRow w.heap.size 9 1 _ _ _ from HROW1.out)
              have HB2 := Lib.hid (below_drewN HB1.out q2)
              have z2 := HB2.out.size
              go_wp2_with (at_builtin; go_must (refine wpAppStr rfl _ _ rfl w.heap.size _ _ _ rfl (World.ownsRow.alloc HROW2.out _) wr.heap.size _ _ rfl (cell_one _ _ _) (by omega) (base_up z2) ?_); intro v' w' hown' hg')
              go_roundw
              case rel => exact ⟨k + 1, by omega, by simp, by rw [HL.out, List.length_append, List.length_singleton]; exact hown', (HB2.out.alloc z2 _).grown hg' (base_up z2) (fun k hk => (World.ownsRow.lt HROW2.out k hk).1)⟩
              case measure => simp [intOf]; omega
            · rw [hB] at HR1
              have HL := Lib.hid hL
              clear hB hL
              go_wp2_with fail
              (with_reducible refine (HR1.out _).mono ?_)
              rintro e w3 ⟨rfl, q2, rfl⟩
              go_wp2
              exact ⟨⟨k + 1, by omega, by simp, by rw [HL.out]; exact HROW1.out, below_drewN HB1.out q2⟩, by simp [intOf]; omega⟩
          · obtain rfl : k = i := by omega
            go_wp2
            go_ret
            exact ⟨_, rfl, by rw [HP.out]; exact OwnS.of_row HROW1.out, HB1.out⟩

end Go.Proofs.Ytjpmepciklfenaa
