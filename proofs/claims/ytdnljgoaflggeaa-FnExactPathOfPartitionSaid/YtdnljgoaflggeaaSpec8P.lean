/- The model's PathOfPartition. -/
import Derived.Test.YtdnljgoaflggeaaFact8P
import Derived.Test.YtdnljgoaflggeaaSpec8C
import Derived.BigQuiet
namespace Go.Proofs.Ytdnljgoaflggeaa
open Go.ChangeShapes Go.WideShapes Go.ChangeAt Go.RowKit
set_option linter.unusedVariables false

set_option maxRecDepth 100000 in
set_option maxHeartbeats 3200000 in
theorem pathOfPartition (A : Option Addr) (xs : List Int) (cap lo hi : Nat) (w : World) (hv : OwnI w lo hi (.slice A xs.length cap) xs) (hhi : hi ≤ w.heap.size) (hl : xs.length ≤ 1099511627776) :
    Calls Try.prog 11 #[.slice A xs.length cap] w fun e w' => e = .returned (.tuple #[.string (popa xs), .bool (nonB xs)]) ∧ Below w.heap.size w w' := by
  have HN := Lib.hid (isNoncrossing (.slice A xs.length cap) xs lo hi w hv hl)
  have HV := Lib.hid hv
  have HBL := Lib.hid (fun w (h : OwnI w lo hi (.slice A xs.length cap) xs) (hh : hi ≤ w.heap.size) => blocksOf A xs cap lo hi w h hh hl)
  clear hv
  rcases hn : nonB xs with _ | _
  · have HP := Lib.hid (popa_no hn)
    rw [hn] at HN
    clear hn
    go_enter Try.func11, Try.ntmps11
    go_wp2_with fail
    (with_reducible refine HN.out.mono ?_)
    rintro e w' ⟨rfl, hb⟩
    go_wp2
    go_ret2
    exact ⟨ret_sb HP.out.symm rfl, hb⟩
  · have HP := Lib.hid (popa_yes hn)
    have hp := non_prt hn
    have h8 := (prt_yes hp).1
    have HIN := Lib.hid (fun i hi => blk_in hp (i := i) hi)
    have HRB := Lib.hid (fun i hi => rowOf_bd hp (i := i) hi)
    have HLN := Lib.hid (fun i hi => ppaL_len hp i hi)
    have HRO := Lib.hid (fun i => show rowOf xs i = (blP xs).getD (xs.getD i 0).toNat [] from rfl)
    rw [hn] at HN
    clear hn hp
    generalize blP xs = ls at *
    go_enter Try.func11, Try.ntmps11
    go_wp2_with fail
    (with_reducible refine HN.out.mono ?_)
    rintro e w1 ⟨rfl, hb⟩
    have z1 := hb.size
    have HB1 := Lib.hid hb
    have HV1 := Lib.hid (HV.out.keep hb hhi)
    clear hb
    go_wp2_with fail
    (with_reducible refine (HBL.out _ HV1.out (by omega)).mono ?_)
    rintro e w2 ⟨v, vs, rfl, htb, hb2⟩
    have z2 := hb2.size
    obtain ⟨AT, cT, rfl⟩ := htb.form
    have HTB := Lib.hid (OwnT.of htb)
    have HV2 := Lib.hid (HV1.out.keep hb2 (by omega))
    have HB2 := Lib.hid (HB1.out.trans (hb2.mono z1))
    clear htb hb2
    go_wp2
    go_loop [4, 6] (fun x y => ∃ i : Nat, i ≤ xs.length ∧ y = .int .i64 i ∧ x = .string ⟨(ppaL xs i).toArray⟩) (fun _ y => xs.length - (intOf y).toNat)
    case atStart => exact ⟨0, Nat.zero_le _, rfl, rfl⟩
    case round =>
      obtain ⟨i, hi1, rfl, rfl⟩ := hrel
      have hpl := HLN.out i hi1
      have hps := str_len (ppaL xs i)
      by_cases hlt : i < xs.length
      · obtain ⟨g1, p1, e1, -, -, hc1, -⟩ := HV2.out.cell hlt
        simp only [Value.slice.injEq] at e1
        obtain ⟨rfl, -, rfl⟩ := e1
        have hii : (i : Int) < (xs.length : Int) := by omega
        obtain ⟨j0, j1⟩ := HIN.out i hlt
        obtain ⟨r1, r8⟩ := HRB.out i hlt
        have HSU := Lib.hid (show ppaL xs (i + 1) = (ppaL xs i ++ [117]) ++ ppaS xs i from rfl)
        have HSS := Lib.hid (show ppaS xs i = if (rowOf xs i).getD ((rowOf xs i).length - 1) 0 = (i : Int) then List.replicate (rowOf xs i).length 100 else [] from rfl)
        obtain ⟨j, hj⟩ : ∃ j : Nat, xs.getD i 0 = j := ⟨(xs.getD i 0).toNat, by omega⟩
        have hrow := HRO.out i
        rw [hj, Int.toNat_natCast] at hrow j1
        rw [hj] at hc1
        obtain ⟨o1, rv, hA, -, -, hct, hr1⟩ := HTB.out.cell j1
        subst hA
        rw [← hrow] at hr1
        clear hrow hj j0
        have hji : (j : Int) < (ls.length : Int) := by omega
        obtain ⟨A6, c6, rfl, -⟩ := id hr1
        generalize rowOf xs i = row at *
        generalize ppaL xs i = W at *
        obtain ⟨l, hl⟩ : ∃ l, l = row.length - 1 := ⟨_, rfl⟩
        obtain ⟨g2, p2, e2, -, -, hc2, -⟩ := hr1.cell (j := l) (by omega)
        simp only [Value.slice.injEq] at e2
        obtain ⟨rfl, -, rfl⟩ := e2
        rw [← hl] at HSS
        have hli : (row.length : Int) - 1 = (l : Int) := by omega
        have hll : (l : Int) < (row.length : Int) := by omega
        have HL := Lib.hid hl
        clear hl hr1
        generalize row.getD l 0 = z at *
        by_cases ez : z = (i : Int)
        · have ezb : (z == (i : Int)) = true := by simp [ez]
          have HE := Lib.hid (HSU.out.trans (by rw [HSS.out, if_pos ez]))
          clear ez HSU HSS
          go_wp2
          rw [str_snoc]
          have hW2 : (W ++ [117]).length ≤ 80 := by rw [List.length_append, List.length_singleton]; omega
          generalize W ++ [117] = V at *
          go_loop [4, 8] (fun x y => ∃ k : Nat, k ≤ row.length ∧ y = .int .i64 k ∧ x = .string ⟨(V ++ List.replicate k 100).toArray⟩) (fun _ y => row.length - (intOf y).toNat)
          case atStart => exact ⟨0, Nat.zero_le _, rfl, by rw [List.replicate_zero, List.append_nil]⟩
          case round =>
            obtain ⟨k, hk, rfl, rfl⟩ := hrel
            have hvs := str_len (V ++ List.replicate k (100 : UInt8))
            rw [List.length_append, List.length_replicate] at hvs
            by_cases hkl : k < row.length
            · have hki : (k : Int) < (row.length : Int) := by omega
              go_wp2
              exact ⟨⟨k + 1, by omega, by simp, by rw [str_snoc, List.append_assoc, ← List.replicate_succ']⟩, by simp [intOf]; omega⟩
            · obtain rfl : k = row.length := by omega
              go_wp2
              exact ⟨⟨i + 1, by omega, by simp, by rw [HE.out]⟩, by simp [intOf]; omega⟩
        · have ezb : (z == (i : Int)) = false := beq_eq_false_iff_ne.2 ez
          have HE := Lib.hid (HSU.out.trans (by rw [HSS.out, if_neg ez, List.append_nil]))
          clear ez HSU HSS
          go_wp2
          exact ⟨⟨i + 1, by omega, by simp, by rw [HE.out, str_snoc]⟩, by simp [intOf]; omega⟩
      · obtain rfl : i = xs.length := by omega
        go_wp2
        go_ret2
        exact ⟨ret_sb HP.out.symm rfl, HB2.out⟩

end Go.Proofs.Ytdnljgoaflggeaa
