/- The model's MatchingOfPartition. -/
import Derived.Test.YtfpknljgmpgneaaFact9P
import Derived.Test.YtfpknljgmpgneaaSpec8C
import Derived.BigRegion
import Derived.BigQuiet
namespace Go.Proofs.Ytfpknljgmpgneaa
open Go.ChangeShapes Go.WideShapes Go.ChangeAt Go.RowKit
set_option linter.unusedVariables false

set_option maxRecDepth 100000 in
set_option maxHeartbeats 3200000 in
theorem matchingOfPartition (A : Option Addr) (xs : List Int) (cap lo hi : Nat) (w : World) (hv : OwnI w lo hi (.slice A xs.length cap) xs) (hhi : hi ≤ w.heap.size) (hl : xs.length ≤ 1099511627776) :
    Calls Try.prog 29 #[.slice A xs.length cap] w (AnsIB (mopP xs) (nonB xs) w) := by
  have HN := Lib.hid (isNoncrossing (.slice A xs.length cap) xs lo hi w hv hl)
  have HV := Lib.hid hv
  have HBL := Lib.hid (fun w (h : OwnI w lo hi (.slice A xs.length cap) xs) (hh : hi ≤ w.heap.size) => blocksOf A xs cap lo hi w h hh hl)
  clear hv
  rcases hn : nonB xs with _ | _
  · have HP := Lib.hid (mop_no hn)
    rw [hn] at HN
    clear hn
    go_enter Try.func29, Try.ntmps29
    go_wp2_with fail
    (with_reducible refine HN.out.mono ?_)
    rintro e w' ⟨rfl, hb⟩
    go_wp2
    go_ret2
    exact ⟨_, ret_vb8 rfl rfl, by rw [HP.out]; exact ⟨_, _, rfl, .inl rfl⟩, hb.alloc (hb.size) _⟩
  · have HP := Lib.hid (mop_yes hn)
    have hp : prtB xs = true := by unfold nonB at hn; rw [Bool.and_eq_true] at hn; exact hn.1
    have h8 := (prt_yes hp).1
    have HBD := Lib.hid (fun j k hk => bl_bd hp j k hk)
    have HLN := Lib.hid (fun j => bl_len hp j)
    rw [hn] at HN
    clear hn hp
    generalize blP xs = ls at *
    have hls := (HLN.out 0).2
    obtain ⟨m2, hm2⟩ : ∃ m, m = 2 * xs.length := ⟨_, rfl⟩
    have hm2i : 2 * (xs.length : Int) = (m2 : Int) := by omega
    rw [← hm2] at HP
    have HM2 := Lib.hid hm2
    have hm16 : m2 ≤ 16 := by omega
    clear hm2
    obtain ⟨i0, hi0, hz0, hz1, hz2⟩ := info_parts info3
    go_enter Try.func29, Try.ntmps29
    go_wp2_with fail
    (with_reducible refine HN.out.mono ?_)
    rintro e w1 ⟨rfl, hb⟩
    have z1 := hb.size
    have HB1 := Lib.hid hb
    have HV1 := Lib.hid (HV.out.keep hb hhi)
    clear hb
    go_wp2_with (at_make; go_must (refine wpList_make_full _ rfl _ _ 22 rfl w1.heap.size 3 i0 (.int .i64 0) 1 Try.underlying22 hi0 hz0 hz1 .i64 .i64 (m2 : Int) (m2 : Int) m2 rfl rfl rfl rfl (by rw [hz2]; omega) (by unfold maxLen; omega) (Nat.le_refl _) ?_); intro w2 hown1 hgrow1)
    have HT0 := Lib.hid (TbR.made hown1)
    have z2 : w1.heap.size < w2.heap.size := (hown1.lt _ rfl).2
    have HB2 := Lib.hid (HB1.out.grown hgrow1 z1 (fun k hk => by cases hk))
    have HV2 := Lib.hid (HV1.out.keep ((Below.refl w1.heap.size w1).grown hgrow1 (Nat.le_refl _) (fun k hk => by cases hk)) (by omega))
    clear hown1 hgrow1
    go_wp2_with fail
    (with_reducible refine (HBL.out _ HV2.out (by omega)).mono ?_)
    rintro e w3 ⟨v, vs, rfl, htb, hb3⟩
    have z3 := hb3.size
    obtain ⟨AT, cT, rfl⟩ := htb.form
    have HTB := Lib.hid (OwnT.of htb)
    have HT3 := Lib.hid (HT0.out.keep (hb3.block _ z2))
    have HB3 := Lib.hid (HB2.out.trans (hb3.mono (by omega)))
    clear htb hb3
    obtain ⟨g, hg⟩ : ∃ g, g = w1.heap.size := ⟨_, rfl⟩
    rw [← hg] at HT3 z2
    rw [← hg]
    have hgw : w.heap.size ≤ g := by omega
    clear HT0 hg
    have HL0 := Lib.hid (show (List.replicate m2 (0 : Int)).length = m2 from List.length_replicate)
    generalize List.replicate m2 (0 : Int) = L0 at *
    go_wp2
    go_loopw [6] (fun x wr => ∃ j : Nat, j ≤ ls.length ∧ x = .int .i64 j ∧ TbR wr g (mpB ls j L0) ∧ OwnT wr w2.heap.size w3.heap.size (.slice AT ls.length cT) ls ∧ Below w.heap.size w wr) (fun x _ => ls.length - (intOf x).toNat)
    case atStart => exact ⟨0, Nat.zero_le _, rfl, HT3.out, HTB.out, HB3.out⟩
    case round =>
      obtain ⟨j, hj, rfl, ht, htt, hb⟩ := hrel
      have HT := Lib.hid ht
      have HTT := Lib.hid htt
      have HB := Lib.hid hb
      clear ht htt hb HTB HT3 HB3
      by_cases hlt : j < ls.length
      · obtain ⟨o1, rv, rfl, ho1, ho2, hc1, hr1⟩ := HTT.out.cell hlt
        obtain ⟨A6, c6, rfl, -⟩ := id hr1
        have HR := Lib.hid hr1
        have hji : (j : Int) < (ls.length : Int) := by omega
        have HSU := Lib.hid (show mpB ls (j + 1) L0 = mpR (ls.getD j []) (ls.getD j []).length (mpB ls j L0) from rfl)
        have HRB := Lib.hid (HBD.out j)
        have hrl := (HLN.out j).1
        have HLM := Lib.hid ((mpB_len ls L0 j).trans HL0.out)
        clear hr1
        generalize ls.getD j [] = row at *
        generalize mpB ls j L0 = L1 at *
        go_wp2
        go_loopw [7] (fun x wr => ∃ k : Nat, k ≤ row.length ∧ x = .int .i64 k ∧ TbR wr g (mpR row k L1) ∧ OwnT wr w2.heap.size w3.heap.size (.slice (some ⟨o1, 0, none⟩) ls.length cT) ls ∧ wr.cell? ⟨o1, j, none⟩ = some (.slice A6 row.length c6) ∧ OwnI wr w2.heap.size w3.heap.size (.slice A6 row.length c6) row ∧ Below w.heap.size w wr) (fun x _ => row.length - (intOf x).toNat)
        case atStart => exact ⟨0, Nat.zero_le _, rfl, HT.out, HTT.out, hc1, HR.out, HB.out⟩
        case round =>
          obtain ⟨k, hk, rfl, ht, htt, hc1, hr, hb⟩ := hrel
          have HT2 := Lib.hid ht
          have HTT2 := Lib.hid htt
          have HR2 := Lib.hid hr
          have HB5 := Lib.hid hb
          clear ht htt hr hb
          by_cases hkl : k < row.length
          · obtain ⟨g1, p1, e1, hg1, -, hce, -⟩ := HR2.out.cell hkl
            simp only [Value.slice.injEq] at e1
            obtain ⟨rfl, -, rfl⟩ := e1
            obtain ⟨q, hq⟩ : ∃ q, q = (k + 1) % row.length := ⟨_, rfl⟩
            have hqr : q < row.length := by rw [hq]; exact Nat.mod_lt _ (by omega)
            obtain ⟨g2, p2, e2, -, -, hcn, -⟩ := HR2.out.cell hqr
            obtain rfl : g1 = g2 := by simpa using (Value.slice.inj e2).1
            have hki : (k : Int) < (row.length : Int) := by omega
            have hqi : (q : Int) < (row.length : Int) := by omega
            have hmod : ((k : Int) + 1).tmod (row.length : Int) = (q : Int) := by rw [IntWalk.rem_in _ _ (by omega), hq]; push_cast; rfl
            have hw1 : IntKind.i64.wrap ((k : Int) + 1) = (k : Int) + 1 := IntWalk.i64_in _ (by omega)
            have hw2 : IntKind.i64.wrap (q : Int) = (q : Int) := IntWalk.i64_in _ (by omega)
            have e0 : ((row.length : Int) == 0) = false := beq_eq_false_iff_ne.2 (by omega)
            obtain ⟨b0, b1⟩ := HRB.out k hkl
            obtain ⟨b2, b3⟩ := HRB.out q hqr
            have HSK := Lib.hid (show mpR row (k + 1) L1 = mpS row k (mpR row k L1) from rfl)
            have HSS := Lib.hid (show mpS row k (mpR row k L1) = ((mpR row k L1).set (2 * row.getD k 0 + 1).toNat (2 * row.getD q 0)).set (2 * row.getD q 0).toNat (2 * row.getD k 0 + 1) by rw [hq]; rfl)
            have hml := (mpR_len row L1 k).trans HLM.out
            clear hq
            obtain ⟨x, hx⟩ : ∃ x : Nat, row.getD k 0 = x := ⟨(row.getD k 0).toNat, by omega⟩
            obtain ⟨y, hy⟩ : ∃ y : Nat, row.getD q 0 = y := ⟨(row.getD q 0).toNat, by omega⟩
            rw [hx] at hce b0 b1
            rw [hy] at hcn b2 b3
            rw [hx, hy] at HSS
            clear hx hy
            obtain ⟨X, hX⟩ : ∃ X, X = 2 * x + 1 := ⟨_, rfl⟩
            obtain ⟨Y, hY⟩ : ∃ Y, Y = 2 * y := ⟨_, rfl⟩
            have hXi : 2 * (x : Int) + 1 = (X : Int) := by omega
            have hYi : 2 * (y : Int) = (Y : Int) := by omega
            have hX0 : 2 * (x : Int) = (X : Int) - 1 := by omega
            have hXm : X < m2 := by have := HM2.out; omega
            have hYm : Y < m2 := by have := HM2.out; omega
            rw [hXi, hYi, Int.toNat_natCast, Int.toNat_natCast] at HSS
            rw [HSS.out] at HSK
            have hXmi : (X : Int) < (m2 : Int) := by omega
            have hYmi : (Y : Int) < (m2 : Int) := by omega
            have hw3 : IntKind.i64.wrap (2 * (x : Int)) = 2 * (x : Int) := IntWalk.i64_in _ (by omega)
            have hw4 : IntKind.i64.wrap (2 * (x : Int) + 1) = (X : Int) := by rw [hXi]; exact IntWalk.i64_in _ (by omega)
            have hw5 : IntKind.i64.wrap (2 * (y : Int)) = (Y : Int) := by rw [hYi]; exact IntWalk.i64_in _ (by omega)
            have hx16 : x ≤ 16 ∧ y ≤ 16 := by omega
            clear hX hY HSS hX0
            generalize mpR row k L1 = L2 at *
            obtain ⟨hcX, hfX⟩ := HT2.out.cell (j := X) (by omega)
            have HT3 := Lib.hid (HT2.out.set X (Y : Int))
            obtain ⟨hcY, hfY⟩ := HT3.out.cell (j := Y) (by rw [List.length_set]; omega)
            have HT4 := Lib.hid (HT3.out.set Y (X : Int))
            generalize L2.getD X 0 = zX at hcX
            generalize (L2.set X (Y : Int)).getD Y 0 = zY at hcY
            have HXI := Lib.hid hXi
            have HYI := Lib.hid hYi
            have HNG := Lib.hid (show ∀ W : World, (∀ b, w2.heap.size ≤ b → b < w3.heap.size → ((W.setCell ⟨g, X, none⟩ (.int .i64 (Y : Int))).setCell ⟨g, Y, none⟩ (.int .i64 (X : Int))).heap[b]? = W.heap[b]?) from fun W b h1 h2 => (set_ne _ (by omega) _).trans (set_ne _ (by omega) _))
            clear hcX hfX hcY hfY HT3 HT4
            go_wp2
            go_quiet (fail)
            have HT2w := Lib.hid (show TbR (wr.drewN nq) g L2 from HT2.out)
            have HTTw := Lib.hid (show OwnT (wr.drewN nq) w2.heap.size w3.heap.size (.slice (some ⟨o1, 0, none⟩) ls.length cT) ls from HTT2.out.eqs' (fun b _ _ => rfl))
            have HRw := Lib.hid (show OwnI (wr.drewN nq) w2.heap.size w3.heap.size (.slice (some ⟨g1, 0, none⟩) row.length c6) row from HR2.out.eqs' (fun b _ _ => rfl))
            have hc1w : (wr.drewN nq).cell? ⟨o1, j, none⟩ = some (.slice (some ⟨g1, 0, none⟩) row.length c6) := hc1
            have HBw := Lib.hid (below_drewN HB5.out nq)
            generalize wr.drewN nq = W at *
            obtain ⟨hcX, hfX⟩ := HT2w.out.cell (j := X) (by omega)
            have HT3 := Lib.hid (HT2w.out.set X (Y : Int))
            obtain ⟨hcY, hfY⟩ := HT3.out.cell (j := Y) (by rw [List.length_set]; omega)
            have HT4 := Lib.hid (HT3.out.set Y (X : Int))
            generalize L2.getD X 0 = zX at hcX
            generalize (L2.set X (Y : Int)).getD Y 0 = zY at hcY
            have HC1 := Lib.hid ((World.cell?_of_block (a := ⟨o1, j, none⟩) (HNG.out W o1 ho1 ho2)).trans hc1w)
            go_wp2
            refine ⟨⟨k + 1, by omega, by simp, by rw [HSK.out]; exact HT4.out, HTTw.out.eqs' (HNG.out W), HC1.out, HRw.out.eqs' (HNG.out W), (HBw.out.setCell (p := ⟨g, X, none⟩) hgw _).setCell (p := ⟨g, Y, none⟩) hgw _⟩, by simp [intOf]; omega⟩
          · obtain rfl : k = row.length := by omega
            go_wp2
            go_roundw
            case rel => exact ⟨j + 1, by omega, by simp, by rw [HSU.out]; exact HT2.out, HTT2.out, HB5.out⟩
            case measure => simp [intOf]; omega
      · obtain rfl : j = ls.length := by omega
        have HR := Lib.hid (HT.out.own hgw m2)
        rw [mpB_len, HL0.out] at HR
        go_wp2
        go_ret2
        exact ⟨_, ret_vb8 rfl rfl, by rw [HP.out]; exact HR.out, HB.out⟩

end Go.Proofs.Ytfpknljgmpgneaa
