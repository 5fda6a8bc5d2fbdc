/- The contracts of the model's WeightsOf, RightComb, LeftComb, BinaryOfWeights. -/
import Derived.Test.YtbbbnnkkjgikbaaSpec16B
import Derived.Test.YtbbbnnkkjgikbaaFact16W
import Derived.Test.YtbbbnnkkjgikbaaMark2
namespace Go.Proofs.Ytbbbnnkkjgikbaa
open Go.ChangeShapes Go.WideShapes Go.ChangeAt Go.RowKit
open Go.PlainAid (bt bt_nonneg bt_le get_bt bt_end)
set_option linter.unusedVariables false

theorem wts_get {t : Tr} {k : Nat} (h : k < nds t) : ∃ a b, nat' t k = .node a b ∧ nds (.node a b) ≤ nds t ∧ (wts t).take (k + 1) = (wts t).take k ++ [(nds b : Int)] := by
  obtain ⟨a, b, e, hl⟩ := nat_node t k (by omega) (by omega)
  refine ⟨a, b, e, hl, ?_⟩
  have h1 := wts_at t k h
  rw [e] at h1
  rw [List.take_add_one, h1]; rfl
set_option maxRecDepth 100000 in
set_option maxHeartbeats 1600000 in
theorem weightsOf (s : ByteArray) (w : World) (hs : s.size ≤ 1099511627776) : Calls Try.prog 23 #[.string s] w (AnsI (wtsP s) w) := by
  have HN := Lib.hid (fun W => nodesOf s W hs)
  rcases hb : binB s with _ | _
  · have HP := Lib.hid (wtsP_no hb)
    rw [nodes_no hb] at HN
    clear hb
    go_enter Try.func23, Try.ntmps23
    go_wp2
    go_loop [3, 4] (fun v y => v = .slice (some ⟨w.heap.size, 0, none⟩) 0 0 ∧ y = .int .i64 0) (fun _ _ => 0)
    case atStart => exact ⟨rfl, rfl⟩
    case round =>
      obtain ⟨rfl, rfl⟩ := hrel
      go_wp2_with fail
      (with_reducible refine (HN.out _).mono ?_)
      rintro e w1 ⟨rfl, rfl⟩
      go_wp2
      go_ret
      exact ⟨_, rfl, by rw [HP.out]; exact ⟨_, _, rfl, .inl rfl⟩, (Below.refl _ _).alloc (Nat.le_refl _) _⟩
  · obtain ⟨t, es, hn, -⟩ := par_yes hb
    have HP := Lib.hid (show wtsP s = wts t by rw [es]; exact wtsP_sh hn)
    rw [show nodesP s = (nds t : Int) by rw [es]; exact nodes_sh t hn] at HN
    have HT := Lib.hid (fun (v : Int) (h0 : 0 ≤ v) (h1 : v < nds t) W => l16NodeF t v hn h0 h1 W)
    rw [← es] at HT
    have HG := Lib.hid (fun k (h : k < nds t) => wts_get h)
    have hlen := wts_len t
    obtain ⟨n, hnn⟩ : ∃ n, n = nds t := ⟨_, rfl⟩
    rw [← hnn] at HN hn HT HG hlen
    clear hb es hnn
    go_enter Try.func23, Try.ntmps23
    go_wp2
    go_loopw [3, 4] (fun v y wr => ∃ i : Nat, i ≤ n ∧ y = .int .i64 i ∧ wr.ownsRow w.heap.size 3 1 v i (((wts t).take i).map (Value.int .i64)) ∧ Below w.heap.size w wr) (fun _ y _ => n - (intOf y).toNat)
    case atStart => exact ⟨0, Nat.zero_le _, rfl, World.ownsRow_made w #[] 0 (Nat.le_refl _) (Nat.zero_le _) (by simp), (Below.refl _ _).alloc (Nat.le_refl _) _⟩
    case round =>
      obtain ⟨i, hi, rfl, hrow, hb⟩ := hrel
      have HROW := Lib.hid hrow
      have HB := Lib.hid hb
      have hB := hb.size
      clear hrow hb
      go_wp2_with fail
      (with_reducible refine (HN.out _).mono ?_)
      rintro e w1 ⟨rfl, rfl⟩
      by_cases hlt : i < n
      · have hii : (i : Int) < (n : Int) := by omega
        obtain ⟨a, b, en, hl, hL⟩ := HG.out i hlt
        have HL := Lib.hid hL
        have HT1 := Lib.hid (HT.out (i : Int) (by omega) (by omega))
        rw [en] at HT1
        obtain ⟨x, m, hx, hm, hz, e1, e2, e3⟩ := node_at a b
        simp only [nds] at hl
        have HE := Lib.hid (fun W => l6End1 (baL (sh (.node a b))) W (by omega))
        rw [e1] at HE
        obtain ⟨p, hp⟩ : ∃ p : Nat, p = 3 * nds b + 1 := ⟨_, rfl⟩
        obtain ⟨r, hr⟩ : ∃ r : Nat, r = 3 * nds b := ⟨_, rfl⟩
        have g1 : ((baL (sh (.node a b))).size : Int) - 1 = (m : Int) := by omega
        have g2 : (m : Int) - (x : Int) = (p : Int) := by omega
        have g3 : (p : Int) - 1 = (r : Int) := by omega
        have g4 : (r : Int).tdiv 3 = (nds b : Int) := by rw [Int.tdiv_eq_ediv_of_nonneg (by omega)]; omega
        have g5 : (r : Int) / 3 = (nds b : Int) := by omega
        have b1 : m ≤ 27 := by omega
        have b2 : p ≤ 27 := by omega
        have b3 : r ≤ 27 := by omega
        have b4 : nds b ≤ 8 := by omega
        clear hx hm hz e1 e2 e3 en hl hL hp hr
        generalize baL (sh (.node a b)) = SX at *
        generalize nds b = nb at *
        go_wp2_with fail
        (with_reducible refine (HT1.out _).mono ?_)
        rintro e w1 ⟨rfl, rfl⟩
        go_wp2_with fail
        (with_reducible refine (HE.out _).mono ?_)
        rintro e w1 ⟨rfl, rfl⟩
        go_wp2_with (at_builtin; go_must (refine wpAppInt rfl _ _ rfl w.heap.size _ _ _ rfl (World.ownsRow.alloc HROW.out _) wr.heap.size _ _ rfl (cell_one _ _ _) (by omega) (base_up hB) ?_); intro v' w' hown' hg')
        go_roundw
        case rel => exact ⟨i + 1, by omega, by simp, by rw [HL.out]; exact hown', (HB.out.alloc hB _).grown hg' (base_up hB) (fun k hk => (World.ownsRow.lt HROW.out k hk).1)⟩
        case measure => simp [intOf]; omega
      · obtain rfl : i = n := by omega
        go_wp2
        go_ret
        refine ⟨_, rfl, ?_, HB.out⟩
        have h := HROW.out
        rw [List.take_of_length_le (by omega)] at h
        rw [HP.out]; exact OwnI.of_row h

set_option maxRecDepth 100000 in
set_option maxHeartbeats 1600000 in
theorem rightComb (n : Int) (w : World) : Calls Try.prog 35 #[.int .i64 n] w fun e w' => e = .returned (.tuple #[.string (combP n), .bool (combB n)]) ∧ w = w' := by
  by_cases hn : 0 ≤ n ∧ n ≤ 8
  · obtain ⟨k, rfl⟩ : ∃ k : Nat, n = k := ⟨n.toNat, by omega⟩
    have hk : k ≤ 8 := by omega
    obtain ⟨h1, h2, -⟩ := comb_yes hk
    have HP := Lib.hid (And.intro h1 h2)
    have HI := Lib.hid (l1In_yes (k : Int) 0 8 w (by omega) (by omega))
    clear hn h1 h2
    go_enter Try.func35, Try.ntmps35
    go_wp2
    go_loop [4, 5] (fun x y => ∃ i : Nat, i ≤ k ∧ y = .int .i64 i ∧ x = .string (baL (sh (cmb i)))) (fun _ y => k - (intOf y).toNat)
    case atStart => exact ⟨0, Nat.zero_le _, rfl, rfl⟩
    case round =>
      obtain ⟨i, hi, rfl, rfl⟩ := hrel
      by_cases hlt : i < k
      · have hii : (i : Int) < (k : Int) := by omega
        have HC := Lib.hid (show (⟨#[40, 46]⟩ ++ baL (sh (cmb i))) ++ ⟨#[41]⟩ = baL (sh (cmb (i + 1))) by
          show (baL [40, 46] ++ baL (sh (cmb i))) ++ baL [41] = _
          rw [baL_app, baL_app]; congr 1)
        have hz : (baL (sh (cmb i))).size ≤ 25 := by rw [sz_sh, cmb_nds]; omega
        generalize baL (sh (cmb i)) = S at *
        have z1 : ¬ 9223372036854775807 < (⟨#[40, 46]⟩ : ByteArray).size + S.size := by rw [two_size]; omega
        have z2 : ¬ 9223372036854775807 < (⟨#[40, 46]⟩ ++ S : ByteArray).size + (⟨#[41]⟩ : ByteArray).size := by rw [ByteArray.size_append, one_size, two_size]; omega
        go_wp2_with fail
        (with_reducible refine HI.out.mono ?_)
        rintro e w1 ⟨rfl, rfl⟩
        go_wp2
        exact ⟨⟨i + 1, by omega, by simp, by rw [← HC.out]⟩, by simp [intOf]; omega⟩
      · obtain rfl : i = k := by omega
        go_wp2_with fail
        (with_reducible refine HI.out.mono ?_)
        rintro e w1 ⟨rfl, rfl⟩
        go_wp2
        go_ret2
        exact ⟨ret_sb HP.out.1.symm HP.out.2.symm, rfl⟩
  · have HI := Lib.hid (l1In_not n 0 8 w hn)
    obtain ⟨h1, h2, -⟩ := comb_no (n := n) (by omega)
    have HP := Lib.hid (And.intro h1 h2)
    clear h1 h2
    go_enter Try.func35, Try.ntmps35
    go_wp2
    go_loop [4, 5] (fun x y => x = .string ⟨#[46]⟩ ∧ y = .int .i64 0) (fun _ _ => 0)
    case atStart => exact ⟨rfl, rfl⟩
    case round =>
      obtain ⟨rfl, rfl⟩ := hrel
      by_cases h0 : 0 < n
      · go_wp2_with fail
        (with_reducible refine HI.out.mono ?_)
        rintro e w1 ⟨rfl, rfl⟩
        go_wp2_with fail
        (with_reducible refine HI.out.mono ?_)
        rintro e w1 ⟨rfl, rfl⟩
        go_wp2
        go_ret2
        exact ⟨ret_sb HP.out.1.symm HP.out.2.symm, rfl⟩
      · go_wp2_with fail
        (with_reducible refine HI.out.mono ?_)
        rintro e w1 ⟨rfl, rfl⟩
        go_wp2
        go_ret2
        exact ⟨ret_sb HP.out.1.symm HP.out.2.symm, rfl⟩
set_option maxRecDepth 100000 in
theorem leftComb (n : Int) (w : World) : Calls Try.prog 37 #[.int .i64 n] w fun e w' => e = .returned (.tuple #[.string (lcmP n), .bool (combB n)]) ∧ Below w.heap.size w w' := by
  have HR := Lib.hid (rightComb n w)
  by_cases hn : 0 ≤ n ∧ n ≤ 8
  · obtain ⟨k, rfl⟩ : ∃ k : Nat, n = k := ⟨n.toNat, by omega⟩
    have hk : k ≤ 8 := by omega
    obtain ⟨h1, h2, h3⟩ := comb_yes hk
    have hz : (baL (sh (cmb k))).size ≤ 25 := by rw [sz_sh, cmb_nds]; omega
    have HM := Lib.hid (fun W => l6MirrorF (baL (sh (cmb k))).size (baL (sh (cmb k))) (bin_tree _ (by rw [cmb_nds]; exact hk)) (Nat.le_refl _) W)
    rw [mirror_tree (cmb k) (baL (sh (cmb k))).size (by rw [sz_sh]; omega)] at HM
    rw [h1, h2] at HR
    have HP := Lib.hid (And.intro h3 h2)
    clear hn h1 h2 h3
    go_enter Try.func37, Try.ntmps37
    go_wp2_with fail
    (with_reducible refine HR.out.mono ?_)
    rintro e w1 ⟨rfl, rfl⟩
    go_wp2_with fail
    (with_reducible refine (HM.out _).mono ?_)
    rintro e w1 ⟨rfl, q, rfl⟩
    go_wp2
    go_ret2
    exact ⟨ret_sb HP.out.1.symm HP.out.2.symm, below_drewN (Below.refl _ _) _⟩
  · obtain ⟨h1, h2, h3⟩ := comb_no (n := n) (by omega)
    rw [h1, h2] at HR
    have HP := Lib.hid (And.intro h3 h2)
    clear h1 h2 h3
    go_enter Try.func37, Try.ntmps37
    go_wp2_with fail
    (with_reducible refine HR.out.mono ?_)
    rintro e w1 ⟨rfl, rfl⟩
    go_wp2
    go_ret2
    exact ⟨ret_sb HP.out.1.symm HP.out.2.symm, Below.refl _ _⟩

end Go.Proofs.Ytbbbnnkkjgikbaa
