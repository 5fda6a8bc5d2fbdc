/- The walk of the law FnReflections: one contract a call (written by tools/gen29w.py). -/
import Derived.Test.YtpggglcjocnjlaaGreatStat29
import Derived.Test.YtpggglcjocnjlaaGreatDraw29
import Derived.Test.YtpggglcjocnjlaaGreatImpl3B
namespace Go.Proofs.YtpggglcjocnjlaaGreat
open Go.ChangeShapes Go.WideShapes Go.ChangeAt Go.RowKit
set_option linter.unusedVariables false

theorem Code.carry {w w' : World} {A : Option Addr} {n : Nat} (h : Code w w.heap.size A n) (hb : Below w.heap.size w w') : Code w' w'.heap.size A n := by
  have h1 := h.keep hb.block
  refine ⟨h1.1, fun j hj => ?_⟩
  obtain ⟨b, off, z, e1, e2, e3⟩ := h1.2 j hj
  exact ⟨b, off, z, e1, Nat.lt_of_lt_of_le e2 hb.size, e3⟩

set_option maxRecDepth 100000 in
set_option maxHeartbeats 6400000 in
theorem reflections_walk (A : Option Addr) (n cap : Nat) (w : World) (hc : n ≤ 1048576 → Code w w.heap.size A n) :
    Calls Tryz.prog 3 #[.slice A n cap] w fun e w' => e = .returned (.bool true) ∧ Below w.heap.size w w' := by
  by_cases hbig : 1048576 < n
  · have hd : decide (1048576 < n) = true := by simpa using hbig
    clear hc
    go_enter Tryz.func3, Tryz.ntmps3
    go_wp2_with fail
    (with_reducible refine (bigC A n cap _).mono ?_)
    rintro e w1 ⟨rfl, rfl⟩
    go_wp2
    go_ret
    exact ⟨rfl, Below.refl _ _⟩
  have hdn : decide (1048576 < n) = false := by simpa using hbig
  have HC := Lib.hid (hc (by omega))
  clear hc hbig
  obtain ⟨dd, hdd⟩ : ∃ dd : ByteArray, dd = ⟨#[100, 101, 112, 116, 104]⟩ := ⟨_, rfl⟩
  have HSTAT := Lib.hid (fun p W h => statDepth ⟨#[100, 101, 112, 116, 104]⟩ p W rfl h)
  clear dd hdd
  go_enter Tryz.func3, Tryz.ntmps3
  go_wp2_with fail
  (with_reducible refine (bigC A n cap _).mono ?_)
  rintro e w0 ⟨rfl, rfl⟩
  go_wp2_with fail
  (with_reducible refine (drawReflectBad A n cap _ HC.out).mono ?_)
  rintro e w1 ⟨s, hs, rfl, hb⟩
  have hs20 : s.size ≤ 20 := hs
  have Hw1 := Lib.hid hb
  clear hb hs
  have F1 := Lib.hid (fun W => reflectBadI s W (by omega))
  have F2 := Lib.hid (fun W => reflectBad s W (by omega))
  have F3 := Lib.hid (fun W => isBadI s W (by omega))
  have F4 := Lib.hid (fun W => isBad s W (by omega))
  rcases hb : badB s with _ | _
  · skip
    rw [hb] at F1 F2 F3 F4
    generalize rbP s = r at *
    have hrr : (r.toList != r.toList) = false := by simp
    clear hb
    go_wp2_with fail
    (with_reducible refine (F1.out _).mono ?_)
    rintro e w2 ⟨rfl, hb⟩
    have Hw2 := Lib.hid (Hw1.out.trans (hb.mono Hw1.out.size))
    clear hb
    go_wp2_with fail
    (with_reducible refine (F2.out _).mono ?_)
    rintro e w' ⟨rfl, rfl⟩
    go_wp2_with fail
    (with_reducible refine (F3.out _).mono ?_)
    rintro e w3 ⟨rfl, hb⟩
    have Hw3 := Lib.hid (Hw2.out.trans (hb.mono Hw2.out.size))
    clear hb
    go_wp2_with fail
    (with_reducible refine (F4.out _).mono ?_)
    rintro e w' ⟨rfl, rfl⟩
    have HC4 := Lib.hid (HC.out.carry Hw3.out)
    go_wp2_with fail
    (with_reducible refine (drawUnreflectWord A n cap _ HC4.out).mono ?_)
    rintro e w4 ⟨v, hv, rfl, hb⟩
    have Hw4 := Lib.hid (Hw3.out.trans (hb.mono Hw3.out.size))
    clear hb
    have hv20 : v.size ≤ 20 := hv
    clear hv
    have F6 := Lib.hid (fun W => unreflectWordI v W (by omega))
    have F7 := Lib.hid (fun W => unreflectWord v W (by omega))
    rcases hb : lowB v with _ | _
    · skip
      rw [hb] at F6 F7
      generalize ruP v = r2 at *
      have hr2 : (r2.toList != r2.toList) = false := by simp
      clear hb
      go_wp2_with fail
      (with_reducible refine (F6.out _).mono ?_)
      rintro e w5 ⟨rfl, hb⟩
      have Hw5 := Lib.hid (Hw4.out.trans (hb.mono Hw4.out.size))
      clear hb
      go_wp2_with fail
      (with_reducible refine (F7.out _).mono ?_)
      rintro e w' ⟨rfl, rfl⟩
      have HC6 := Lib.hid (HC.out.carry Hw5.out)
      go_wp2_with fail
      (with_reducible refine (drawCountBad A n cap _ HC6.out).mono ?_)
      rintro e w6 ⟨y, y0, y1, rfl, hb⟩
      have Hw6 := Lib.hid (Hw5.out.trans (hb.mono Hw5.out.size))
      clear hb
      have F10 := Lib.hid (fun W => countBadI y W)
      have F11 := Lib.hid (fun W => countBad y W)
      have hcb : (cbP y != cbP y) = false := by simp
      by_cases hy : 0 ≤ y ∧ y ≤ 14
      · skip
        have g1 : 0 ≤ y := hy.1
        have g2 : y ≤ 14 := hy.2
        have d1 : decide (0 ≤ y) = true := decide_eq_true hy.1
        have d2 : decide (y ≤ 14) = true := decide_eq_true hy.2
        have hcd := cat_diff hy.1 hy.2
        have hcb2 := cat_bd hy.1 hy.2
        have F12 := Lib.hid (fun W => countWordsI y y W)
        have F13 := Lib.hid (fun W => catalanNumberI y W)
        have hb3 := cwP_bd y y
        have HCD := Lib.hid hcd
        have hcn : ((cwP y y - cbP y) != catP y) = false := by simp [HCD.out]
        have hbb : -1000000000000 ≤ cbP y ∧ cbP y ≤ 1000000000000 := by omega
        clear hcd hy
        generalize cwP y y = e1 at *
        generalize cbP y = e2 at *
        generalize catP y = e3 at *
        go_wp2_with fail
        (with_reducible refine (F10.out _).mono ?_)
        rintro e w' ⟨rfl, rfl⟩
        go_wp2_with fail
        (with_reducible refine (F11.out _).mono ?_)
        rintro e w' ⟨rfl, rfl⟩
        go_wp2_with fail
        (with_reducible refine (F12.out _).mono ?_)
        rintro e w' ⟨rfl, rfl⟩
        go_wp2_with fail
        (with_reducible refine (F10.out _).mono ?_)
        rintro e w' ⟨rfl, rfl⟩
        go_wp2_with fail
        (with_reducible refine (F13.out _).mono ?_)
        rintro e w7 ⟨rfl, hb⟩
        have Hw7 := Lib.hid (Hw6.out.trans (hb.mono Hw6.out.size))
        clear hb
        have HC8 := Lib.hid (HC.out.carry Hw7.out)
        go_wp2_with fail
        (with_reducible refine (drawCountWithin A n cap _ HC8.out).mono ?_)
        rintro e w8 ⟨m, h, m0, m1, h0, h1, rfl, hb⟩
        have Hw8 := Lib.hid (Hw7.out.trans (hb.mono Hw7.out.size))
        clear hb
        have F14 := Lib.hid (fun W => countWithinI m h W)
        have F15 := Lib.hid (fun W => countWithin m h W)
        by_cases hw : 0 ≤ wiP m h
        · skip
          by_cases hm6 : m ≤ 6
          · skip
            have dc : decide (0 ≤ wiP m h) = true := decide_eq_true (by omega)
            have gc : 0 ≤ wiP m h := by omega
            have dm : decide (m ≤ 6) = true := decide_eq_true hm6
            have hh0 : 0 ≤ h := by
              by_cases q : 0 ≤ h
              · exact q
              · rw [show wiP m h = -1 from if_neg (by omega)] at gc; omega
            have HCNT := Lib.hid (within_count m0 hm6 (show 0 ≤ h ∧ h ≤ 15 by omega))
            have HPD := Lib.hid (paths_dyck (m := m))
            have F16 := Lib.hid (fun W => pathsOf m W)
            have hcc : (wiP m h != wiP m h) = false := by simp
            have HLE := Lib.hid (fun i => cntA_le ((pathsP m).map (fun x => x.data.toList)) h i)
            have hpl : (pathsP m).length ≤ 4096 := by
              unfold pathsP
              split
              · exact allF_small _ _ _ _ (by omega)
              · simp
            generalize wiP m h = c at *
            generalize pathsP m = ps at *
            go_wp2_with fail
            (with_reducible refine (F14.out _).mono ?_)
            rintro e w' ⟨rfl, rfl⟩
            go_wp2_with fail
            (with_reducible refine (F15.out _).mono ?_)
            rintro e w' ⟨rfl, rfl⟩
            go_wp2_with fail
            (with_reducible refine (F16.out _).mono ?_)
            rintro e w9 ⟨pv, rfl, ho, hb⟩
            obtain ⟨Ap, cp, rfl, -⟩ := id ho
            have HO := Lib.hid ho
            have hz9 := hb.size
            have Hw9 := Lib.hid (Hw8.out.trans (hb.mono Hw8.out.size))
            clear hb ho
            go_wp2
            go_loopw [22, 23] (fun a b wr => ∃ i : Nat, i ≤ ps.length ∧ b = .int .i64 i ∧ a = .int .i64 ((cntA (ps.map (fun x => x.data.toList)) h i : Nat) : Int) ∧ Below w9.heap.size w9 wr) (fun _ b _ => ps.length - (intOf b).toNat)
            case atStart => exact ⟨0, Nat.zero_le _, rfl, rfl, Below.refl _ _⟩
            case round =>
              obtain ⟨i, hi, rfl, rfl, hbl⟩ := hrel
              have HBL := Lib.hid hbl
              have hzl := hbl.size
              clear hbl
              have hle := HLE.out i
              by_cases hlt : i < ps.length
              · have hii : (i : Int) < (ps.length : Int) := by omega
                obtain ⟨g1, p1, e1, -, -, hcx, -⟩ := (HO.out.keep HBL.out (Nat.le_refl _)).cell hlt
                simp only [Value.slice.injEq] at e1
                obtain ⟨rfl, -, -⟩ := e1
                have HST := Lib.hid (fun W => HSTAT.out (ps.getD i E0) W (HPD.out _ (by rw [List.getD_eq_getElem?_getD, List.getElem?_eq_getElem hlt]; exact List.getElem_mem hlt)))
                have HS := Lib.hid (show cntA (ps.map (fun x => x.data.toList)) h (i + 1) = cntA (ps.map (fun x => x.data.toList)) h i + if dpA (ps.getD i E0).data.toList ≤ h then 1 else 0 by
                    have e2 : (ps.map (fun x => x.data.toList)).getD i [] = (ps.getD i E0).data.toList := by
                      rw [List.getD_eq_getElem?_getD, List.getD_eq_getElem?_getD, List.getElem?_map, List.getElem?_eq_getElem hlt]; rfl
                    rw [cntA, e2])
                generalize ps.getD i E0 = p at *
                generalize dpA p.data.toList = dp at *
                generalize cntA (ps.map (fun x => x.data.toList)) h i = ck at *
                go_wp2_with fail
                (with_reducible refine (HST.out _).mono ?_)
                rintro e w9 ⟨rfl, hb9⟩
                have HB9 := Lib.hid (HBL.out.trans (hb9.mono hzl))
                clear hb9
                by_cases hdh : dp ≤ h
                · have hE := Lib.hid (HS.out.trans (by rw [if_pos hdh]))
                  have ddh : decide (dp ≤ h) = true := decide_eq_true hdh
                  go_wp2
                  exact ⟨⟨i + 1, by omega, by simp, by rw [hE.out]; simp, HB9.out⟩, by simp [intOf]; omega⟩
                · have hE := Lib.hid (HS.out.trans (by rw [if_neg hdh, Nat.add_zero]))
                  have ddh : decide (dp ≤ h) = false := decide_eq_false hdh
                  go_wp2
                  exact ⟨⟨i + 1, by omega, by simp, by rw [hE.out], HB9.out⟩, by simp [intOf]; omega⟩
              · obtain rfl : i = ps.length := by omega
                have hii : ¬ (ps.length : Int) < (ps.length : Int) := by omega
                have HKC := Lib.hid HCNT.out
                have hkc : (((cntA (ps.map (fun x => x.data.toList)) h ps.length : Nat) : Int) != c) = false := by simp [HKC.out]
                generalize cntA (ps.map (fun x => x.data.toList)) h ps.length = ck at *
                have Hw10 := Lib.hid (Hw9.out.trans (HBL.out.mono Hw9.out.size))
                skip
                have HC11 := Lib.hid (HC.out.carry Hw10.out)
                go_wp2_with fail
                (with_reducible refine (drawCountWords A n cap _ HC11.out).mono ?_)
                rintro e w11 ⟨a, b, a0, a1, b0, b1, rfl, hb⟩
                have Hw11 := Lib.hid (Hw10.out.trans (hb.mono Hw10.out.size))
                clear hb
                have HC12 := Lib.hid (HC.out.carry Hw11.out)
                go_wp2_with fail
                (with_reducible refine (drawBallotByReflection A n cap _ HC12.out).mono ?_)
                rintro e w12 ⟨d, e', d0, d1, e0, e1, rfl, hb⟩
                have Hw12 := Lib.hid (Hw11.out.trans (hb.mono Hw11.out.size))
                clear hb
                have F17 := Lib.hid (fun W => countWordsI a b W)
                have F18 := Lib.hid (fun W => countWords a b W)
                have F19 := Lib.hid (fun W => ballotByReflectionI d e' W)
                have F20 := Lib.hid (fun W => ballotByReflection d e' W)
                generalize cwP a b = z1 at *
                generalize blrP d e' = z2 at *
                go_wp2_with fail
                (with_reducible refine (F17.out _).mono ?_)
                rintro e w' ⟨rfl, rfl⟩
                go_wp2_with fail
                (with_reducible refine (F18.out _).mono ?_)
                rintro e w' ⟨rfl, rfl⟩
                go_wp2_with fail
                (with_reducible refine (F19.out _).mono ?_)
                rintro e w' ⟨rfl, rfl⟩
                go_wp2_with fail
                (with_reducible refine (F20.out _).mono ?_)
                rintro e w' ⟨rfl, rfl⟩
                go_wp2
                go_ret
                exact ⟨by simp, Hw12.out⟩
          · skip
            have dc : decide (0 ≤ wiP m h) = true := decide_eq_true (by omega)
            have gc : 0 ≤ wiP m h := by omega
            have dm : decide (m ≤ 6) = false := decide_eq_false hm6
            generalize wiP m h = c at *
            have hcc : (c != c) = false := by simp
            go_wp2_with fail
            (with_reducible refine (F14.out _).mono ?_)
            rintro e w' ⟨rfl, rfl⟩
            go_wp2_with fail
            (with_reducible refine (F15.out _).mono ?_)
            rintro e w' ⟨rfl, rfl⟩
            have HC9 := Lib.hid (HC.out.carry Hw8.out)
            go_wp2_with fail
            (with_reducible refine (drawCountWords A n cap _ HC9.out).mono ?_)
            rintro e w9 ⟨a, b, a0, a1, b0, b1, rfl, hb⟩
            have Hw9 := Lib.hid (Hw8.out.trans (hb.mono Hw8.out.size))
            clear hb
            have HC10 := Lib.hid (HC.out.carry Hw9.out)
            go_wp2_with fail
            (with_reducible refine (drawBallotByReflection A n cap _ HC10.out).mono ?_)
            rintro e w10 ⟨d, e', d0, d1, e0, e1, rfl, hb⟩
            have Hw10 := Lib.hid (Hw9.out.trans (hb.mono Hw9.out.size))
            clear hb
            have F17 := Lib.hid (fun W => countWordsI a b W)
            have F18 := Lib.hid (fun W => countWords a b W)
            have F19 := Lib.hid (fun W => ballotByReflectionI d e' W)
            have F20 := Lib.hid (fun W => ballotByReflection d e' W)
            generalize cwP a b = z1 at *
            generalize blrP d e' = z2 at *
            go_wp2_with fail
            (with_reducible refine (F17.out _).mono ?_)
            rintro e w' ⟨rfl, rfl⟩
            go_wp2_with fail
            (with_reducible refine (F18.out _).mono ?_)
            rintro e w' ⟨rfl, rfl⟩
            go_wp2_with fail
            (with_reducible refine (F19.out _).mono ?_)
            rintro e w' ⟨rfl, rfl⟩
            go_wp2_with fail
            (with_reducible refine (F20.out _).mono ?_)
            rintro e w' ⟨rfl, rfl⟩
            go_wp2
            go_ret
            exact ⟨by simp, Hw10.out⟩
        · skip
          have dc : decide (0 ≤ wiP m h) = false := decide_eq_false hw
          generalize wiP m h = c at *
          have hcc : (c != c) = false := by simp
          go_wp2_with fail
          (with_reducible refine (F14.out _).mono ?_)
          rintro e w' ⟨rfl, rfl⟩
          go_wp2_with fail
          (with_reducible refine (F15.out _).mono ?_)
          rintro e w' ⟨rfl, rfl⟩
          have HC9 := Lib.hid (HC.out.carry Hw8.out)
          go_wp2_with fail
          (with_reducible refine (drawCountWords A n cap _ HC9.out).mono ?_)
          rintro e w9 ⟨a, b, a0, a1, b0, b1, rfl, hb⟩
          have Hw9 := Lib.hid (Hw8.out.trans (hb.mono Hw8.out.size))
          clear hb
          have HC10 := Lib.hid (HC.out.carry Hw9.out)
          go_wp2_with fail
          (with_reducible refine (drawBallotByReflection A n cap _ HC10.out).mono ?_)
          rintro e w10 ⟨d, e', d0, d1, e0, e1, rfl, hb⟩
          have Hw10 := Lib.hid (Hw9.out.trans (hb.mono Hw9.out.size))
          clear hb
          have F17 := Lib.hid (fun W => countWordsI a b W)
          have F18 := Lib.hid (fun W => countWords a b W)
          have F19 := Lib.hid (fun W => ballotByReflectionI d e' W)
          have F20 := Lib.hid (fun W => ballotByReflection d e' W)
          generalize cwP a b = z1 at *
          generalize blrP d e' = z2 at *
          go_wp2_with fail
          (with_reducible refine (F17.out _).mono ?_)
          rintro e w' ⟨rfl, rfl⟩
          go_wp2_with fail
          (with_reducible refine (F18.out _).mono ?_)
          rintro e w' ⟨rfl, rfl⟩
          go_wp2_with fail
          (with_reducible refine (F19.out _).mono ?_)
          rintro e w' ⟨rfl, rfl⟩
          go_wp2_with fail
          (with_reducible refine (F20.out _).mono ?_)
          rintro e w' ⟨rfl, rfl⟩
          go_wp2
          go_ret
          exact ⟨by simp, Hw10.out⟩
      · skip
        have d1 : (decide (0 ≤ y) && decide (y ≤ 14)) = false := by rw [Bool.and_eq_false_iff, decide_eq_false_iff_not, decide_eq_false_iff_not]; omega
        generalize cbP y = e2 at *
        clear hcb
        by_cases hy0 : y < 0
        · skip
          have d0 : decide (0 ≤ y) = false := decide_eq_false (by omega)
          have g0 : ¬ 0 ≤ y := by omega
          have hcb : (e2 != e2) = false := by simp
          clear hy d1
          go_wp2_with fail
          (with_reducible refine (F10.out _).mono ?_)
          rintro e w' ⟨rfl, rfl⟩
          go_wp2_with fail
          (with_reducible refine (F11.out _).mono ?_)
          rintro e w' ⟨rfl, rfl⟩
          have HC7 := Lib.hid (HC.out.carry Hw6.out)
          go_wp2_with fail
          (with_reducible refine (drawCountWithin A n cap _ HC7.out).mono ?_)
          rintro e w7 ⟨m, h, m0, m1, h0, h1, rfl, hb⟩
          have Hw7 := Lib.hid (Hw6.out.trans (hb.mono Hw6.out.size))
          clear hb
          have F14 := Lib.hid (fun W => countWithinI m h W)
          have F15 := Lib.hid (fun W => countWithin m h W)
          by_cases hw : 0 ≤ wiP m h
          · skip
            by_cases hm6 : m ≤ 6
            · skip
              have dc : decide (0 ≤ wiP m h) = true := decide_eq_true (by omega)
              have gc : 0 ≤ wiP m h := by omega
              have dm : decide (m ≤ 6) = true := decide_eq_true hm6
              have hh0 : 0 ≤ h := by
                by_cases q : 0 ≤ h
                · exact q
                · rw [show wiP m h = -1 from if_neg (by omega)] at gc; omega
              have HCNT := Lib.hid (within_count m0 hm6 (show 0 ≤ h ∧ h ≤ 15 by omega))
              have HPD := Lib.hid (paths_dyck (m := m))
              have F16 := Lib.hid (fun W => pathsOf m W)
              have hcc : (wiP m h != wiP m h) = false := by simp
              have HLE := Lib.hid (fun i => cntA_le ((pathsP m).map (fun x => x.data.toList)) h i)
              have hpl : (pathsP m).length ≤ 4096 := by
                unfold pathsP
                split
                · exact allF_small _ _ _ _ (by omega)
                · simp
              generalize wiP m h = c at *
              generalize pathsP m = ps at *
              go_wp2_with fail
              (with_reducible refine (F14.out _).mono ?_)
              rintro e w' ⟨rfl, rfl⟩
              go_wp2_with fail
              (with_reducible refine (F15.out _).mono ?_)
              rintro e w' ⟨rfl, rfl⟩
              go_wp2_with fail
              (with_reducible refine (F16.out _).mono ?_)
              rintro e w8 ⟨pv, rfl, ho, hb⟩
              obtain ⟨Ap, cp, rfl, -⟩ := id ho
              have HO := Lib.hid ho
              have hz8 := hb.size
              have Hw8 := Lib.hid (Hw7.out.trans (hb.mono Hw7.out.size))
              clear hb ho
              go_wp2
              go_loopw [22, 23] (fun a b wr => ∃ i : Nat, i ≤ ps.length ∧ b = .int .i64 i ∧ a = .int .i64 ((cntA (ps.map (fun x => x.data.toList)) h i : Nat) : Int) ∧ Below w8.heap.size w8 wr) (fun _ b _ => ps.length - (intOf b).toNat)
              case atStart => exact ⟨0, Nat.zero_le _, rfl, rfl, Below.refl _ _⟩
              case round =>
                obtain ⟨i, hi, rfl, rfl, hbl⟩ := hrel
                have HBL := Lib.hid hbl
                have hzl := hbl.size
                clear hbl
                have hle := HLE.out i
                by_cases hlt : i < ps.length
                · have hii : (i : Int) < (ps.length : Int) := by omega
                  obtain ⟨g1, p1, e1, -, -, hcx, -⟩ := (HO.out.keep HBL.out (Nat.le_refl _)).cell hlt
                  simp only [Value.slice.injEq] at e1
                  obtain ⟨rfl, -, -⟩ := e1
                  have HST := Lib.hid (fun W => HSTAT.out (ps.getD i E0) W (HPD.out _ (by rw [List.getD_eq_getElem?_getD, List.getElem?_eq_getElem hlt]; exact List.getElem_mem hlt)))
                  have HS := Lib.hid (show cntA (ps.map (fun x => x.data.toList)) h (i + 1) = cntA (ps.map (fun x => x.data.toList)) h i + if dpA (ps.getD i E0).data.toList ≤ h then 1 else 0 by
                      have e2 : (ps.map (fun x => x.data.toList)).getD i [] = (ps.getD i E0).data.toList := by
                        rw [List.getD_eq_getElem?_getD, List.getD_eq_getElem?_getD, List.getElem?_map, List.getElem?_eq_getElem hlt]; rfl
                      rw [cntA, e2])
                  generalize ps.getD i E0 = p at *
                  generalize dpA p.data.toList = dp at *
                  generalize cntA (ps.map (fun x => x.data.toList)) h i = ck at *
                  go_wp2_with fail
                  (with_reducible refine (HST.out _).mono ?_)
                  rintro e w9 ⟨rfl, hb9⟩
                  have HB9 := Lib.hid (HBL.out.trans (hb9.mono hzl))
                  clear hb9
                  by_cases hdh : dp ≤ h
                  · have hE := Lib.hid (HS.out.trans (by rw [if_pos hdh]))
                    have ddh : decide (dp ≤ h) = true := decide_eq_true hdh
                    go_wp2
                    exact ⟨⟨i + 1, by omega, by simp, by rw [hE.out]; simp, HB9.out⟩, by simp [intOf]; omega⟩
                  · have hE := Lib.hid (HS.out.trans (by rw [if_neg hdh, Nat.add_zero]))
                    have ddh : decide (dp ≤ h) = false := decide_eq_false hdh
                    go_wp2
                    exact ⟨⟨i + 1, by omega, by simp, by rw [hE.out], HB9.out⟩, by simp [intOf]; omega⟩
                · obtain rfl : i = ps.length := by omega
                  have hii : ¬ (ps.length : Int) < (ps.length : Int) := by omega
                  have HKC := Lib.hid HCNT.out
                  have hkc : (((cntA (ps.map (fun x => x.data.toList)) h ps.length : Nat) : Int) != c) = false := by simp [HKC.out]
                  generalize cntA (ps.map (fun x => x.data.toList)) h ps.length = ck at *
                  have Hw9 := Lib.hid (Hw8.out.trans (HBL.out.mono Hw8.out.size))
                  skip
                  have HC10 := Lib.hid (HC.out.carry Hw9.out)
                  go_wp2_with fail
                  (with_reducible refine (drawCountWords A n cap _ HC10.out).mono ?_)
                  rintro e w10 ⟨a, b, a0, a1, b0, b1, rfl, hb⟩
                  have Hw10 := Lib.hid (Hw9.out.trans (hb.mono Hw9.out.size))
                  clear hb
                  have HC11 := Lib.hid (HC.out.carry Hw10.out)
                  go_wp2_with fail
                  (with_reducible refine (drawBallotByReflection A n cap _ HC11.out).mono ?_)
                  rintro e w11 ⟨d, e', d0, d1, e0, e1, rfl, hb⟩
                  have Hw11 := Lib.hid (Hw10.out.trans (hb.mono Hw10.out.size))
                  clear hb
                  have F17 := Lib.hid (fun W => countWordsI a b W)
                  have F18 := Lib.hid (fun W => countWords a b W)
                  have F19 := Lib.hid (fun W => ballotByReflectionI d e' W)
                  have F20 := Lib.hid (fun W => ballotByReflection d e' W)
                  generalize cwP a b = z1 at *
                  generalize blrP d e' = z2 at *
                  go_wp2_with fail
                  (with_reducible refine (F17.out _).mono ?_)
                  rintro e w' ⟨rfl, rfl⟩
                  go_wp2_with fail
                  (with_reducible refine (F18.out _).mono ?_)
                  rintro e w' ⟨rfl, rfl⟩
                  go_wp2_with fail
                  (with_reducible refine (F19.out _).mono ?_)
                  rintro e w' ⟨rfl, rfl⟩
                  go_wp2_with fail
                  (with_reducible refine (F20.out _).mono ?_)
                  rintro e w' ⟨rfl, rfl⟩
                  go_wp2
                  go_ret
                  exact ⟨by simp, Hw11.out⟩
            · skip
              have dc : decide (0 ≤ wiP m h) = true := decide_eq_true (by omega)
              have gc : 0 ≤ wiP m h := by omega
              have dm : decide (m ≤ 6) = false := decide_eq_false hm6
              generalize wiP m h = c at *
              have hcc : (c != c) = false := by simp
              go_wp2_with fail
              (with_reducible refine (F14.out _).mono ?_)
              rintro e w' ⟨rfl, rfl⟩
              go_wp2_with fail
              (with_reducible refine (F15.out _).mono ?_)
              rintro e w' ⟨rfl, rfl⟩
              have HC8 := Lib.hid (HC.out.carry Hw7.out)
              go_wp2_with fail
              (with_reducible refine (drawCountWords A n cap _ HC8.out).mono ?_)
              rintro e w8 ⟨a, b, a0, a1, b0, b1, rfl, hb⟩
              have Hw8 := Lib.hid (Hw7.out.trans (hb.mono Hw7.out.size))
              clear hb
              have HC9 := Lib.hid (HC.out.carry Hw8.out)
              go_wp2_with fail
              (with_reducible refine (drawBallotByReflection A n cap _ HC9.out).mono ?_)
              rintro e w9 ⟨d, e', d0, d1, e0, e1, rfl, hb⟩
              have Hw9 := Lib.hid (Hw8.out.trans (hb.mono Hw8.out.size))
              clear hb
              have F17 := Lib.hid (fun W => countWordsI a b W)
              have F18 := Lib.hid (fun W => countWords a b W)
              have F19 := Lib.hid (fun W => ballotByReflectionI d e' W)
              have F20 := Lib.hid (fun W => ballotByReflection d e' W)
              generalize cwP a b = z1 at *
              generalize blrP d e' = z2 at *
              go_wp2_with fail
              (with_reducible refine (F17.out _).mono ?_)
              rintro e w' ⟨rfl, rfl⟩
              go_wp2_with fail
              (with_reducible refine (F18.out _).mono ?_)
              rintro e w' ⟨rfl, rfl⟩
              go_wp2_with fail
              (with_reducible refine (F19.out _).mono ?_)
              rintro e w' ⟨rfl, rfl⟩
              go_wp2_with fail
              (with_reducible refine (F20.out _).mono ?_)
              rintro e w' ⟨rfl, rfl⟩
              go_wp2
              go_ret
              exact ⟨by simp, Hw9.out⟩
          · skip
            have dc : decide (0 ≤ wiP m h) = false := decide_eq_false hw
            generalize wiP m h = c at *
            have hcc : (c != c) = false := by simp
            go_wp2_with fail
            (with_reducible refine (F14.out _).mono ?_)
            rintro e w' ⟨rfl, rfl⟩
            go_wp2_with fail
            (with_reducible refine (F15.out _).mono ?_)
            rintro e w' ⟨rfl, rfl⟩
            have HC8 := Lib.hid (HC.out.carry Hw7.out)
            go_wp2_with fail
            (with_reducible refine (drawCountWords A n cap _ HC8.out).mono ?_)
            rintro e w8 ⟨a, b, a0, a1, b0, b1, rfl, hb⟩
            have Hw8 := Lib.hid (Hw7.out.trans (hb.mono Hw7.out.size))
            clear hb
            have HC9 := Lib.hid (HC.out.carry Hw8.out)
            go_wp2_with fail
            (with_reducible refine (drawBallotByReflection A n cap _ HC9.out).mono ?_)
            rintro e w9 ⟨d, e', d0, d1, e0, e1, rfl, hb⟩
            have Hw9 := Lib.hid (Hw8.out.trans (hb.mono Hw8.out.size))
            clear hb
            have F17 := Lib.hid (fun W => countWordsI a b W)
            have F18 := Lib.hid (fun W => countWords a b W)
            have F19 := Lib.hid (fun W => ballotByReflectionI d e' W)
            have F20 := Lib.hid (fun W => ballotByReflection d e' W)
            generalize cwP a b = z1 at *
            generalize blrP d e' = z2 at *
            go_wp2_with fail
            (with_reducible refine (F17.out _).mono ?_)
            rintro e w' ⟨rfl, rfl⟩
            go_wp2_with fail
            (with_reducible refine (F18.out _).mono ?_)
            rintro e w' ⟨rfl, rfl⟩
            go_wp2_with fail
            (with_reducible refine (F19.out _).mono ?_)
            rintro e w' ⟨rfl, rfl⟩
            go_wp2_with fail
            (with_reducible refine (F20.out _).mono ?_)
            rintro e w' ⟨rfl, rfl⟩
            go_wp2
            go_ret
            exact ⟨by simp, Hw9.out⟩
        · skip
          have g0 : 0 ≤ y := by omega
          have d0 : decide (0 ≤ y) = true := decide_eq_true g0
          have g3 : ¬ y ≤ 14 := by omega
          have d3 : decide (y ≤ 14) = false := decide_eq_false g3
          have hcb : (e2 != e2) = false := by simp
          clear hy d1
          go_wp2_with fail
          (with_reducible refine (F10.out _).mono ?_)
          rintro e w' ⟨rfl, rfl⟩
          go_wp2_with fail
          (with_reducible refine (F11.out _).mono ?_)
          rintro e w' ⟨rfl, rfl⟩
          have HC7 := Lib.hid (HC.out.carry Hw6.out)
          go_wp2_with fail
          (with_reducible refine (drawCountWithin A n cap _ HC7.out).mono ?_)
          rintro e w7 ⟨m, h, m0, m1, h0, h1, rfl, hb⟩
          have Hw7 := Lib.hid (Hw6.out.trans (hb.mono Hw6.out.size))
          clear hb
          have F14 := Lib.hid (fun W => countWithinI m h W)
          have F15 := Lib.hid (fun W => countWithin m h W)
          by_cases hw : 0 ≤ wiP m h
          · skip
            by_cases hm6 : m ≤ 6
            · skip
              have dc : decide (0 ≤ wiP m h) = true := decide_eq_true (by omega)
              have gc : 0 ≤ wiP m h := by omega
              have dm : decide (m ≤ 6) = true := decide_eq_true hm6
              have hh0 : 0 ≤ h := by
                by_cases q : 0 ≤ h
                · exact q
                · rw [show wiP m h = -1 from if_neg (by omega)] at gc; omega
              have HCNT := Lib.hid (within_count m0 hm6 (show 0 ≤ h ∧ h ≤ 15 by omega))
              have HPD := Lib.hid (paths_dyck (m := m))
              have F16 := Lib.hid (fun W => pathsOf m W)
              have hcc : (wiP m h != wiP m h) = false := by simp
              have HLE := Lib.hid (fun i => cntA_le ((pathsP m).map (fun x => x.data.toList)) h i)
              have hpl : (pathsP m).length ≤ 4096 := by
                unfold pathsP
                split
                · exact allF_small _ _ _ _ (by omega)
                · simp
              generalize wiP m h = c at *
              generalize pathsP m = ps at *
              go_wp2_with fail
              (with_reducible refine (F14.out _).mono ?_)
              rintro e w' ⟨rfl, rfl⟩
              go_wp2_with fail
              (with_reducible refine (F15.out _).mono ?_)
              rintro e w' ⟨rfl, rfl⟩
              go_wp2_with fail
              (with_reducible refine (F16.out _).mono ?_)
              rintro e w8 ⟨pv, rfl, ho, hb⟩
              obtain ⟨Ap, cp, rfl, -⟩ := id ho
              have HO := Lib.hid ho
              have hz8 := hb.size
              have Hw8 := Lib.hid (Hw7.out.trans (hb.mono Hw7.out.size))
              clear hb ho
              go_wp2
              go_loopw [22, 23] (fun a b wr => ∃ i : Nat, i ≤ ps.length ∧ b = .int .i64 i ∧ a = .int .i64 ((cntA (ps.map (fun x => x.data.toList)) h i : Nat) : Int) ∧ Below w8.heap.size w8 wr) (fun _ b _ => ps.length - (intOf b).toNat)
              case atStart => exact ⟨0, Nat.zero_le _, rfl, rfl, Below.refl _ _⟩
              case round =>
                obtain ⟨i, hi, rfl, rfl, hbl⟩ := hrel
                have HBL := Lib.hid hbl
                have hzl := hbl.size
                clear hbl
                have hle := HLE.out i
                by_cases hlt : i < ps.length
                · have hii : (i : Int) < (ps.length : Int) := by omega
                  obtain ⟨g1, p1, e1, -, -, hcx, -⟩ := (HO.out.keep HBL.out (Nat.le_refl _)).cell hlt
                  simp only [Value.slice.injEq] at e1
                  obtain ⟨rfl, -, -⟩ := e1
                  have HST := Lib.hid (fun W => HSTAT.out (ps.getD i E0) W (HPD.out _ (by rw [List.getD_eq_getElem?_getD, List.getElem?_eq_getElem hlt]; exact List.getElem_mem hlt)))
                  have HS := Lib.hid (show cntA (ps.map (fun x => x.data.toList)) h (i + 1) = cntA (ps.map (fun x => x.data.toList)) h i + if dpA (ps.getD i E0).data.toList ≤ h then 1 else 0 by
                      have e2 : (ps.map (fun x => x.data.toList)).getD i [] = (ps.getD i E0).data.toList := by
                        rw [List.getD_eq_getElem?_getD, List.getD_eq_getElem?_getD, List.getElem?_map, List.getElem?_eq_getElem hlt]; rfl
                      rw [cntA, e2])
                  generalize ps.getD i E0 = p at *
                  generalize dpA p.data.toList = dp at *
                  generalize cntA (ps.map (fun x => x.data.toList)) h i = ck at *
                  go_wp2_with fail
                  (with_reducible refine (HST.out _).mono ?_)
                  rintro e w9 ⟨rfl, hb9⟩
                  have HB9 := Lib.hid (HBL.out.trans (hb9.mono hzl))
                  clear hb9
                  by_cases hdh : dp ≤ h
                  · have hE := Lib.hid (HS.out.trans (by rw [if_pos hdh]))
                    have ddh : decide (dp ≤ h) = true := decide_eq_true hdh
                    go_wp2
                    exact ⟨⟨i + 1, by omega, by simp, by rw [hE.out]; simp, HB9.out⟩, by simp [intOf]; omega⟩
                  · have hE := Lib.hid (HS.out.trans (by rw [if_neg hdh, Nat.add_zero]))
                    have ddh : decide (dp ≤ h) = false := decide_eq_false hdh
                    go_wp2
                    exact ⟨⟨i + 1, by omega, by simp, by rw [hE.out], HB9.out⟩, by simp [intOf]; omega⟩
                · obtain rfl : i = ps.length := by omega
                  have hii : ¬ (ps.length : Int) < (ps.length : Int) := by omega
                  have HKC := Lib.hid HCNT.out
                  have hkc : (((cntA (ps.map (fun x => x.data.toList)) h ps.length : Nat) : Int) != c) = false := by simp [HKC.out]
                  generalize cntA (ps.map (fun x => x.data.toList)) h ps.length = ck at *
                  have Hw9 := Lib.hid (Hw8.out.trans (HBL.out.mono Hw8.out.size))
                  skip
                  have HC10 := Lib.hid (HC.out.carry Hw9.out)
                  go_wp2_with fail
                  (with_reducible refine (drawCountWords A n cap _ HC10.out).mono ?_)
                  rintro e w10 ⟨a, b, a0, a1, b0, b1, rfl, hb⟩
                  have Hw10 := Lib.hid (Hw9.out.trans (hb.mono Hw9.out.size))
                  clear hb
                  have HC11 := Lib.hid (HC.out.carry Hw10.out)
                  go_wp2_with fail
                  (with_reducible refine (drawBallotByReflection A n cap _ HC11.out).mono ?_)
                  rintro e w11 ⟨d, e', d0, d1, e0, e1, rfl, hb⟩
                  have Hw11 := Lib.hid (Hw10.out.trans (hb.mono Hw10.out.size))
                  clear hb
                  have F17 := Lib.hid (fun W => countWordsI a b W)
                  have F18 := Lib.hid (fun W => countWords a b W)
                  have F19 := Lib.hid (fun W => ballotByReflectionI d e' W)
                  have F20 := Lib.hid (fun W => ballotByReflection d e' W)
                  generalize cwP a b = z1 at *
                  generalize blrP d e' = z2 at *
                  go_wp2_with fail
                  (with_reducible refine (F17.out _).mono ?_)
                  rintro e w' ⟨rfl, rfl⟩
                  go_wp2_with fail
                  (with_reducible refine (F18.out _).mono ?_)
                  rintro e w' ⟨rfl, rfl⟩
                  go_wp2_with fail
                  (with_reducible refine (F19.out _).mono ?_)
                  rintro e w' ⟨rfl, rfl⟩
                  go_wp2_with fail
                  (with_reducible refine (F20.out _).mono ?_)
                  rintro e w' ⟨rfl, rfl⟩
                  go_wp2
                  go_ret
                  exact ⟨by simp, Hw11.out⟩
            · skip
              have dc : decide (0 ≤ wiP m h) = true := decide_eq_true (by omega)
              have gc : 0 ≤ wiP m h := by omega
              have dm : decide (m ≤ 6) = false := decide_eq_false hm6
              generalize wiP m h = c at *
              have hcc : (c != c) = false := by simp
              go_wp2_with fail
              (with_reducible refine (F14.out _).mono ?_)
              rintro e w' ⟨rfl, rfl⟩
              go_wp2_with fail
              (with_reducible refine (F15.out _).mono ?_)
              rintro e w' ⟨rfl, rfl⟩
              have HC8 := Lib.hid (HC.out.carry Hw7.out)
              go_wp2_with fail
              (with_reducible refine (drawCountWords A n cap _ HC8.out).mono ?_)
              rintro e w8 ⟨a, b, a0, a1, b0, b1, rfl, hb⟩
              have Hw8 := Lib.hid (Hw7.out.trans (hb.mono Hw7.out.size))
              clear hb
              have HC9 := Lib.hid (HC.out.carry Hw8.out)
              go_wp2_with fail
              (with_reducible refine (drawBallotByReflection A n cap _ HC9.out).mono ?_)
              rintro e w9 ⟨d, e', d0, d1, e0, e1, rfl, hb⟩
              have Hw9 := Lib.hid (Hw8.out.trans (hb.mono Hw8.out.size))
              clear hb
              have F17 := Lib.hid (fun W => countWordsI a b W)
              have F18 := Lib.hid (fun W => countWords a b W)
              have F19 := Lib.hid (fun W => ballotByReflectionI d e' W)
              have F20 := Lib.hid (fun W => ballotByReflection d e' W)
              generalize cwP a b = z1 at *
              generalize blrP d e' = z2 at *
              go_wp2_with fail
              (with_reducible refine (F17.out _).mono ?_)
              rintro e w' ⟨rfl, rfl⟩
              go_wp2_with fail
              (with_reducible refine (F18.out _).mono ?_)
              rintro e w' ⟨rfl, rfl⟩
              go_wp2_with fail
              (with_reducible refine (F19.out _).mono ?_)
              rintro e w' ⟨rfl, rfl⟩
              go_wp2_with fail
              (with_reducible refine (F20.out _).mono ?_)
              rintro e w' ⟨rfl, rfl⟩
              go_wp2
              go_ret
              exact ⟨by simp, Hw9.out⟩
          · skip
            have dc : decide (0 ≤ wiP m h) = false := decide_eq_false hw
            generalize wiP m h = c at *
            have hcc : (c != c) = false := by simp
            go_wp2_with fail
            (with_reducible refine (F14.out _).mono ?_)
            rintro e w' ⟨rfl, rfl⟩
            go_wp2_with fail
            (with_reducible refine (F15.out _).mono ?_)
            rintro e w' ⟨rfl, rfl⟩
            have HC8 := Lib.hid (HC.out.carry Hw7.out)
            go_wp2_with fail
            (with_reducible refine (drawCountWords A n cap _ HC8.out).mono ?_)
            rintro e w8 ⟨a, b, a0, a1, b0, b1, rfl, hb⟩
            have Hw8 := Lib.hid (Hw7.out.trans (hb.mono Hw7.out.size))
            clear hb
            have HC9 := Lib.hid (HC.out.carry Hw8.out)
            go_wp2_with fail
            (with_reducible refine (drawBallotByReflection A n cap _ HC9.out).mono ?_)
            rintro e w9 ⟨d, e', d0, d1, e0, e1, rfl, hb⟩
            have Hw9 := Lib.hid (Hw8.out.trans (hb.mono Hw8.out.size))
            clear hb
            have F17 := Lib.hid (fun W => countWordsI a b W)
            have F18 := Lib.hid (fun W => countWords a b W)
            have F19 := Lib.hid (fun W => ballotByReflectionI d e' W)
            have F20 := Lib.hid (fun W => ballotByReflection d e' W)
            generalize cwP a b = z1 at *
            generalize blrP d e' = z2 at *
            go_wp2_with fail
            (with_reducible refine (F17.out _).mono ?_)
            rintro e w' ⟨rfl, rfl⟩
            go_wp2_with fail
            (with_reducible refine (F18.out _).mono ?_)
            rintro e w' ⟨rfl, rfl⟩
            go_wp2_with fail
            (with_reducible refine (F19.out _).mono ?_)
            rintro e w' ⟨rfl, rfl⟩
            go_wp2_with fail
            (with_reducible refine (F20.out _).mono ?_)
            rintro e w' ⟨rfl, rfl⟩
            go_wp2
            go_ret
            exact ⟨by simp, Hw9.out⟩
    · obtain ⟨hl1, hl2⟩ := low_bad2 hb
      rw [hb] at F6 F7
      have hz2 : (ruP v).size ≤ 20 := by rw [show ruP v = flS v from if_pos hb, flS_size]; exact hv20
      have F8 := Lib.hid (fun W => reflectBadI (ruP v) W (by omega))
      have F9 := Lib.hid (fun W => isBadI (ruP v) W (by omega))
      rw [hl1, hl2] at F8
      rw [hl1] at F9
      generalize ruP v = r2 at *
      have hr2 : (r2.toList != r2.toList) = false := by simp
      have hvv : (v.toList != v.toList) = false := by simp
      clear hb hl1 hl2 hz2
      go_wp2_with fail
      (with_reducible refine (F6.out _).mono ?_)
      rintro e w5 ⟨rfl, hb⟩
      have Hw5 := Lib.hid (Hw4.out.trans (hb.mono Hw4.out.size))
      clear hb
      go_wp2_with fail
      (with_reducible refine (F7.out _).mono ?_)
      rintro e w' ⟨rfl, rfl⟩
      go_wp2_with fail
      (with_reducible refine (F8.out _).mono ?_)
      rintro e w6 ⟨rfl, hb⟩
      have Hw6 := Lib.hid (Hw5.out.trans (hb.mono Hw5.out.size))
      clear hb
      go_wp2_with fail
      (with_reducible refine (F9.out _).mono ?_)
      rintro e w7 ⟨rfl, hb⟩
      have Hw7 := Lib.hid (Hw6.out.trans (hb.mono Hw6.out.size))
      clear hb
      have HC8 := Lib.hid (HC.out.carry Hw7.out)
      go_wp2_with fail
      (with_reducible refine (drawCountBad A n cap _ HC8.out).mono ?_)
      rintro e w8 ⟨y, y0, y1, rfl, hb⟩
      have Hw8 := Lib.hid (Hw7.out.trans (hb.mono Hw7.out.size))
      clear hb
      have F10 := Lib.hid (fun W => countBadI y W)
      have F11 := Lib.hid (fun W => countBad y W)
      have hcb : (cbP y != cbP y) = false := by simp
      by_cases hy : 0 ≤ y ∧ y ≤ 14
      · skip
        have g1 : 0 ≤ y := hy.1
        have g2 : y ≤ 14 := hy.2
        have d1 : decide (0 ≤ y) = true := decide_eq_true hy.1
        have d2 : decide (y ≤ 14) = true := decide_eq_true hy.2
        have hcd := cat_diff hy.1 hy.2
        have hcb2 := cat_bd hy.1 hy.2
        have F12 := Lib.hid (fun W => countWordsI y y W)
        have F13 := Lib.hid (fun W => catalanNumberI y W)
        have hb3 := cwP_bd y y
        have HCD := Lib.hid hcd
        have hcn : ((cwP y y - cbP y) != catP y) = false := by simp [HCD.out]
        have hbb : -1000000000000 ≤ cbP y ∧ cbP y ≤ 1000000000000 := by omega
        clear hcd hy
        generalize cwP y y = e1 at *
        generalize cbP y = e2 at *
        generalize catP y = e3 at *
        go_wp2_with fail
        (with_reducible refine (F10.out _).mono ?_)
        rintro e w' ⟨rfl, rfl⟩
        go_wp2_with fail
        (with_reducible refine (F11.out _).mono ?_)
        rintro e w' ⟨rfl, rfl⟩
        go_wp2_with fail
        (with_reducible refine (F12.out _).mono ?_)
        rintro e w' ⟨rfl, rfl⟩
        go_wp2_with fail
        (with_reducible refine (F10.out _).mono ?_)
        rintro e w' ⟨rfl, rfl⟩
        go_wp2_with fail
        (with_reducible refine (F13.out _).mono ?_)
        rintro e w9 ⟨rfl, hb⟩
        have Hw9 := Lib.hid (Hw8.out.trans (hb.mono Hw8.out.size))
        clear hb
        have HC10 := Lib.hid (HC.out.carry Hw9.out)
        go_wp2_with fail
        (with_reducible refine (drawCountWithin A n cap _ HC10.out).mono ?_)
        rintro e w10 ⟨m, h, m0, m1, h0, h1, rfl, hb⟩
        have Hw10 := Lib.hid (Hw9.out.trans (hb.mono Hw9.out.size))
        clear hb
        have F14 := Lib.hid (fun W => countWithinI m h W)
        have F15 := Lib.hid (fun W => countWithin m h W)
        by_cases hw : 0 ≤ wiP m h
        · skip
          by_cases hm6 : m ≤ 6
          · skip
            have dc : decide (0 ≤ wiP m h) = true := decide_eq_true (by omega)
            have gc : 0 ≤ wiP m h := by omega
            have dm : decide (m ≤ 6) = true := decide_eq_true hm6
            have hh0 : 0 ≤ h := by
              by_cases q : 0 ≤ h
              · exact q
              · rw [show wiP m h = -1 from if_neg (by omega)] at gc; omega
            have HCNT := Lib.hid (within_count m0 hm6 (show 0 ≤ h ∧ h ≤ 15 by omega))
            have HPD := Lib.hid (paths_dyck (m := m))
            have F16 := Lib.hid (fun W => pathsOf m W)
            have hcc : (wiP m h != wiP m h) = false := by simp
            have HLE := Lib.hid (fun i => cntA_le ((pathsP m).map (fun x => x.data.toList)) h i)
            have hpl : (pathsP m).length ≤ 4096 := by
              unfold pathsP
              split
              · exact allF_small _ _ _ _ (by omega)
              · simp
            generalize wiP m h = c at *
            generalize pathsP m = ps at *
            go_wp2_with fail
            (with_reducible refine (F14.out _).mono ?_)
            rintro e w' ⟨rfl, rfl⟩
            go_wp2_with fail
            (with_reducible refine (F15.out _).mono ?_)
            rintro e w' ⟨rfl, rfl⟩
            go_wp2_with fail
            (with_reducible refine (F16.out _).mono ?_)
            rintro e w11 ⟨pv, rfl, ho, hb⟩
            obtain ⟨Ap, cp, rfl, -⟩ := id ho
            have HO := Lib.hid ho
            have hz11 := hb.size
            have Hw11 := Lib.hid (Hw10.out.trans (hb.mono Hw10.out.size))
            clear hb ho
            go_wp2
            go_loopw [22, 23] (fun a b wr => ∃ i : Nat, i ≤ ps.length ∧ b = .int .i64 i ∧ a = .int .i64 ((cntA (ps.map (fun x => x.data.toList)) h i : Nat) : Int) ∧ Below w11.heap.size w11 wr) (fun _ b _ => ps.length - (intOf b).toNat)
            case atStart => exact ⟨0, Nat.zero_le _, rfl, rfl, Below.refl _ _⟩
            case round =>
              obtain ⟨i, hi, rfl, rfl, hbl⟩ := hrel
              have HBL := Lib.hid hbl
              have hzl := hbl.size
              clear hbl
              have hle := HLE.out i
              by_cases hlt : i < ps.length
              · have hii : (i : Int) < (ps.length : Int) := by omega
                obtain ⟨g1, p1, e1, -, -, hcx, -⟩ := (HO.out.keep HBL.out (Nat.le_refl _)).cell hlt
                simp only [Value.slice.injEq] at e1
                obtain ⟨rfl, -, -⟩ := e1
                have HST := Lib.hid (fun W => HSTAT.out (ps.getD i E0) W (HPD.out _ (by rw [List.getD_eq_getElem?_getD, List.getElem?_eq_getElem hlt]; exact List.getElem_mem hlt)))
                have HS := Lib.hid (show cntA (ps.map (fun x => x.data.toList)) h (i + 1) = cntA (ps.map (fun x => x.data.toList)) h i + if dpA (ps.getD i E0).data.toList ≤ h then 1 else 0 by
                    have e2 : (ps.map (fun x => x.data.toList)).getD i [] = (ps.getD i E0).data.toList := by
                      rw [List.getD_eq_getElem?_getD, List.getD_eq_getElem?_getD, List.getElem?_map, List.getElem?_eq_getElem hlt]; rfl
                    rw [cntA, e2])
                generalize ps.getD i E0 = p at *
                generalize dpA p.data.toList = dp at *
                generalize cntA (ps.map (fun x => x.data.toList)) h i = ck at *
                go_wp2_with fail
                (with_reducible refine (HST.out _).mono ?_)
                rintro e w9 ⟨rfl, hb9⟩
                have HB9 := Lib.hid (HBL.out.trans (hb9.mono hzl))
                clear hb9
                by_cases hdh : dp ≤ h
                · have hE := Lib.hid (HS.out.trans (by rw [if_pos hdh]))
                  have ddh : decide (dp ≤ h) = true := decide_eq_true hdh
                  go_wp2
                  exact ⟨⟨i + 1, by omega, by simp, by rw [hE.out]; simp, HB9.out⟩, by simp [intOf]; omega⟩
                · have hE := Lib.hid (HS.out.trans (by rw [if_neg hdh, Nat.add_zero]))
                  have ddh : decide (dp ≤ h) = false := decide_eq_false hdh
                  go_wp2
                  exact ⟨⟨i + 1, by omega, by simp, by rw [hE.out], HB9.out⟩, by simp [intOf]; omega⟩
              · obtain rfl : i = ps.length := by omega
                have hii : ¬ (ps.length : Int) < (ps.length : Int) := by omega
                have HKC := Lib.hid HCNT.out
                have hkc : (((cntA (ps.map (fun x => x.data.toList)) h ps.length : Nat) : Int) != c) = false := by simp [HKC.out]
                generalize cntA (ps.map (fun x => x.data.toList)) h ps.length = ck at *
                have Hw12 := Lib.hid (Hw11.out.trans (HBL.out.mono Hw11.out.size))
                skip
                have HC13 := Lib.hid (HC.out.carry Hw12.out)
                go_wp2_with fail
                (with_reducible refine (drawCountWords A n cap _ HC13.out).mono ?_)
                rintro e w13 ⟨a, b, a0, a1, b0, b1, rfl, hb⟩
                have Hw13 := Lib.hid (Hw12.out.trans (hb.mono Hw12.out.size))
                clear hb
                have HC14 := Lib.hid (HC.out.carry Hw13.out)
                go_wp2_with fail
                (with_reducible refine (drawBallotByReflection A n cap _ HC14.out).mono ?_)
                rintro e w14 ⟨d, e', d0, d1, e0, e1, rfl, hb⟩
                have Hw14 := Lib.hid (Hw13.out.trans (hb.mono Hw13.out.size))
                clear hb
                have F17 := Lib.hid (fun W => countWordsI a b W)
                have F18 := Lib.hid (fun W => countWords a b W)
                have F19 := Lib.hid (fun W => ballotByReflectionI d e' W)
                have F20 := Lib.hid (fun W => ballotByReflection d e' W)
                generalize cwP a b = z1 at *
                generalize blrP d e' = z2 at *
                go_wp2_with fail
                (with_reducible refine (F17.out _).mono ?_)
                rintro e w' ⟨rfl, rfl⟩
                go_wp2_with fail
                (with_reducible refine (F18.out _).mono ?_)
                rintro e w' ⟨rfl, rfl⟩
                go_wp2_with fail
                (with_reducible refine (F19.out _).mono ?_)
                rintro e w' ⟨rfl, rfl⟩
                go_wp2_with fail
                (with_reducible refine (F20.out _).mono ?_)
                rintro e w' ⟨rfl, rfl⟩
                go_wp2
                go_ret
                exact ⟨by simp, Hw14.out⟩
          · skip
            have dc : decide (0 ≤ wiP m h) = true := decide_eq_true (by omega)
            have gc : 0 ≤ wiP m h := by omega
            have dm : decide (m ≤ 6) = false := decide_eq_false hm6
            generalize wiP m h = c at *
            have hcc : (c != c) = false := by simp
            go_wp2_with fail
            (with_reducible refine (F14.out _).mono ?_)
            rintro e w' ⟨rfl, rfl⟩
            go_wp2_with fail
            (with_reducible refine (F15.out _).mono ?_)
            rintro e w' ⟨rfl, rfl⟩
            have HC11 := Lib.hid (HC.out.carry Hw10.out)
            go_wp2_with fail
            (with_reducible refine (drawCountWords A n cap _ HC11.out).mono ?_)
            rintro e w11 ⟨a, b, a0, a1, b0, b1, rfl, hb⟩
            have Hw11 := Lib.hid (Hw10.out.trans (hb.mono Hw10.out.size))
            clear hb
            have HC12 := Lib.hid (HC.out.carry Hw11.out)
            go_wp2_with fail
            (with_reducible refine (drawBallotByReflection A n cap _ HC12.out).mono ?_)
            rintro e w12 ⟨d, e', d0, d1, e0, e1, rfl, hb⟩
            have Hw12 := Lib.hid (Hw11.out.trans (hb.mono Hw11.out.size))
            clear hb
            have F17 := Lib.hid (fun W => countWordsI a b W)
            have F18 := Lib.hid (fun W => countWords a b W)
            have F19 := Lib.hid (fun W => ballotByReflectionI d e' W)
            have F20 := Lib.hid (fun W => ballotByReflection d e' W)
            generalize cwP a b = z1 at *
            generalize blrP d e' = z2 at *
            go_wp2_with fail
            (with_reducible refine (F17.out _).mono ?_)
            rintro e w' ⟨rfl, rfl⟩
            go_wp2_with fail
            (with_reducible refine (F18.out _).mono ?_)
            rintro e w' ⟨rfl, rfl⟩
            go_wp2_with fail
            (with_reducible refine (F19.out _).mono ?_)
            rintro e w' ⟨rfl, rfl⟩
            go_wp2_with fail
            (with_reducible refine (F20.out _).mono ?_)
            rintro e w' ⟨rfl, rfl⟩
            go_wp2
            go_ret
            exact ⟨by simp, Hw12.out⟩
        · skip
          have dc : decide (0 ≤ wiP m h) = false := decide_eq_false hw
          generalize wiP m h = c at *
          have hcc : (c != c) = false := by simp
          go_wp2_with fail
          (with_reducible refine (F14.out _).mono ?_)
          rintro e w' ⟨rfl, rfl⟩
          go_wp2_with fail
          (with_reducible refine (F15.out _).mono ?_)
          rintro e w' ⟨rfl, rfl⟩
          have HC11 := Lib.hid (HC.out.carry Hw10.out)
          go_wp2_with fail
          (with_reducible refine (drawCountWords A n cap _ HC11.out).mono ?_)
          rintro e w11 ⟨a, b, a0, a1, b0, b1, rfl, hb⟩
          have Hw11 := Lib.hid (Hw10.out.trans (hb.mono Hw10.out.size))
          clear hb
          have HC12 := Lib.hid (HC.out.carry Hw11.out)
          go_wp2_with fail
          (with_reducible refine (drawBallotByReflection A n cap _ HC12.out).mono ?_)
          rintro e w12 ⟨d, e', d0, d1, e0, e1, rfl, hb⟩
          have Hw12 := Lib.hid (Hw11.out.trans (hb.mono Hw11.out.size))
          clear hb
          have F17 := Lib.hid (fun W => countWordsI a b W)
          have F18 := Lib.hid (fun W => countWords a b W)
          have F19 := Lib.hid (fun W => ballotByReflectionI d e' W)
          have F20 := Lib.hid (fun W => ballotByReflection d e' W)
          generalize cwP a b = z1 at *
          generalize blrP d e' = z2 at *
          go_wp2_with fail
          (with_reducible refine (F17.out _).mono ?_)
          rintro e w' ⟨rfl, rfl⟩
          go_wp2_with fail
          (with_reducible refine (F18.out _).mono ?_)
          rintro e w' ⟨rfl, rfl⟩
          go_wp2_with fail
          (with_reducible refine (F19.out _).mono ?_)
          rintro e w' ⟨rfl, rfl⟩
          go_wp2_with fail
          (with_reducible refine (F20.out _).mono ?_)
          rintro e w' ⟨rfl, rfl⟩
          go_wp2
          go_ret
          exact ⟨by simp, Hw12.out⟩
      · skip
        have d1 : (decide (0 ≤ y) && decide (y ≤ 14)) = false := by rw [Bool.and_eq_false_iff, decide_eq_false_iff_not, decide_eq_false_iff_not]; omega
        generalize cbP y = e2 at *
        clear hcb
        by_cases hy0 : y < 0
        · skip
          have d0 : decide (0 ≤ y) = false := decide_eq_false (by omega)
          have g0 : ¬ 0 ≤ y := by omega
          have hcb : (e2 != e2) = false := by simp
          clear hy d1
          go_wp2_with fail
          (with_reducible refine (F10.out _).mono ?_)
          rintro e w' ⟨rfl, rfl⟩
          go_wp2_with fail
          (with_reducible refine (F11.out _).mono ?_)
          rintro e w' ⟨rfl, rfl⟩
          have HC9 := Lib.hid (HC.out.carry Hw8.out)
          go_wp2_with fail
          (with_reducible refine (drawCountWithin A n cap _ HC9.out).mono ?_)
          rintro e w9 ⟨m, h, m0, m1, h0, h1, rfl, hb⟩
          have Hw9 := Lib.hid (Hw8.out.trans (hb.mono Hw8.out.size))
          clear hb
          have F14 := Lib.hid (fun W => countWithinI m h W)
          have F15 := Lib.hid (fun W => countWithin m h W)
          by_cases hw : 0 ≤ wiP m h
          · skip
            by_cases hm6 : m ≤ 6
            · skip
              have dc : decide (0 ≤ wiP m h) = true := decide_eq_true (by omega)
              have gc : 0 ≤ wiP m h := by omega
              have dm : decide (m ≤ 6) = true := decide_eq_true hm6
              have hh0 : 0 ≤ h := by
                by_cases q : 0 ≤ h
                · exact q
                · rw [show wiP m h = -1 from if_neg (by omega)] at gc; omega
              have HCNT := Lib.hid (within_count m0 hm6 (show 0 ≤ h ∧ h ≤ 15 by omega))
              have HPD := Lib.hid (paths_dyck (m := m))
              have F16 := Lib.hid (fun W => pathsOf m W)
              have hcc : (wiP m h != wiP m h) = false := by simp
              have HLE := Lib.hid (fun i => cntA_le ((pathsP m).map (fun x => x.data.toList)) h i)
              have hpl : (pathsP m).length ≤ 4096 := by
                unfold pathsP
                split
                · exact allF_small _ _ _ _ (by omega)
                · simp
              generalize wiP m h = c at *
              generalize pathsP m = ps at *
              go_wp2_with fail
              (with_reducible refine (F14.out _).mono ?_)
              rintro e w' ⟨rfl, rfl⟩
              go_wp2_with fail
              (with_reducible refine (F15.out _).mono ?_)
              rintro e w' ⟨rfl, rfl⟩
              go_wp2_with fail
              (with_reducible refine (F16.out _).mono ?_)
              rintro e w10 ⟨pv, rfl, ho, hb⟩
              obtain ⟨Ap, cp, rfl, -⟩ := id ho
              have HO := Lib.hid ho
              have hz10 := hb.size
              have Hw10 := Lib.hid (Hw9.out.trans (hb.mono Hw9.out.size))
              clear hb ho
              go_wp2
              go_loopw [22, 23] (fun a b wr => ∃ i : Nat, i ≤ ps.length ∧ b = .int .i64 i ∧ a = .int .i64 ((cntA (ps.map (fun x => x.data.toList)) h i : Nat) : Int) ∧ Below w10.heap.size w10 wr) (fun _ b _ => ps.length - (intOf b).toNat)
              case atStart => exact ⟨0, Nat.zero_le _, rfl, rfl, Below.refl _ _⟩
              case round =>
                obtain ⟨i, hi, rfl, rfl, hbl⟩ := hrel
                have HBL := Lib.hid hbl
                have hzl := hbl.size
                clear hbl
                have hle := HLE.out i
                by_cases hlt : i < ps.length
                · have hii : (i : Int) < (ps.length : Int) := by omega
                  obtain ⟨g1, p1, e1, -, -, hcx, -⟩ := (HO.out.keep HBL.out (Nat.le_refl _)).cell hlt
                  simp only [Value.slice.injEq] at e1
                  obtain ⟨rfl, -, -⟩ := e1
                  have HST := Lib.hid (fun W => HSTAT.out (ps.getD i E0) W (HPD.out _ (by rw [List.getD_eq_getElem?_getD, List.getElem?_eq_getElem hlt]; exact List.getElem_mem hlt)))
                  have HS := Lib.hid (show cntA (ps.map (fun x => x.data.toList)) h (i + 1) = cntA (ps.map (fun x => x.data.toList)) h i + if dpA (ps.getD i E0).data.toList ≤ h then 1 else 0 by
                      have e2 : (ps.map (fun x => x.data.toList)).getD i [] = (ps.getD i E0).data.toList := by
                        rw [List.getD_eq_getElem?_getD, List.getD_eq_getElem?_getD, List.getElem?_map, List.getElem?_eq_getElem hlt]; rfl
                      rw [cntA, e2])
                  generalize ps.getD i E0 = p at *
                  generalize dpA p.data.toList = dp at *
                  generalize cntA (ps.map (fun x => x.data.toList)) h i = ck at *
                  go_wp2_with fail
                  (with_reducible refine (HST.out _).mono ?_)
                  rintro e w9 ⟨rfl, hb9⟩
                  have HB9 := Lib.hid (HBL.out.trans (hb9.mono hzl))
                  clear hb9
                  by_cases hdh : dp ≤ h
                  · have hE := Lib.hid (HS.out.trans (by rw [if_pos hdh]))
                    have ddh : decide (dp ≤ h) = true := decide_eq_true hdh
                    go_wp2
                    exact ⟨⟨i + 1, by omega, by simp, by rw [hE.out]; simp, HB9.out⟩, by simp [intOf]; omega⟩
                  · have hE := Lib.hid (HS.out.trans (by rw [if_neg hdh, Nat.add_zero]))
                    have ddh : decide (dp ≤ h) = false := decide_eq_false hdh
                    go_wp2
                    exact ⟨⟨i + 1, by omega, by simp, by rw [hE.out], HB9.out⟩, by simp [intOf]; omega⟩
                · obtain rfl : i = ps.length := by omega
                  have hii : ¬ (ps.length : Int) < (ps.length : Int) := by omega
                  have HKC := Lib.hid HCNT.out
                  have hkc : (((cntA (ps.map (fun x => x.data.toList)) h ps.length : Nat) : Int) != c) = false := by simp [HKC.out]
                  generalize cntA (ps.map (fun x => x.data.toList)) h ps.length = ck at *
                  have Hw11 := Lib.hid (Hw10.out.trans (HBL.out.mono Hw10.out.size))
                  skip
                  have HC12 := Lib.hid (HC.out.carry Hw11.out)
                  go_wp2_with fail
                  (with_reducible refine (drawCountWords A n cap _ HC12.out).mono ?_)
                  rintro e w12 ⟨a, b, a0, a1, b0, b1, rfl, hb⟩
                  have Hw12 := Lib.hid (Hw11.out.trans (hb.mono Hw11.out.size))
                  clear hb
                  have HC13 := Lib.hid (HC.out.carry Hw12.out)
                  go_wp2_with fail
                  (with_reducible refine (drawBallotByReflection A n cap _ HC13.out).mono ?_)
                  rintro e w13 ⟨d, e', d0, d1, e0, e1, rfl, hb⟩
                  have Hw13 := Lib.hid (Hw12.out.trans (hb.mono Hw12.out.size))
                  clear hb
                  have F17 := Lib.hid (fun W => countWordsI a b W)
                  have F18 := Lib.hid (fun W => countWords a b W)
                  have F19 := Lib.hid (fun W => ballotByReflectionI d e' W)
                  have F20 := Lib.hid (fun W => ballotByReflection d e' W)
                  generalize cwP a b = z1 at *
                  generalize blrP d e' = z2 at *
                  go_wp2_with fail
                  (with_reducible refine (F17.out _).mono ?_)
                  rintro e w' ⟨rfl, rfl⟩
                  go_wp2_with fail
                  (with_reducible refine (F18.out _).mono ?_)
                  rintro e w' ⟨rfl, rfl⟩
                  go_wp2_with fail
                  (with_reducible refine (F19.out _).mono ?_)
                  rintro e w' ⟨rfl, rfl⟩
                  go_wp2_with fail
                  (with_reducible refine (F20.out _).mono ?_)
                  rintro e w' ⟨rfl, rfl⟩
                  go_wp2
                  go_ret
                  exact ⟨by simp, Hw13.out⟩
            · skip
              have dc : decide (0 ≤ wiP m h) = true := decide_eq_true (by omega)
              have gc : 0 ≤ wiP m h := by omega
              have dm : decide (m ≤ 6) = false := decide_eq_false hm6
              generalize wiP m h = c at *
              have hcc : (c != c) = false := by simp
              go_wp2_with fail
              (with_reducible refine (F14.out _).mono ?_)
              rintro e w' ⟨rfl, rfl⟩
              go_wp2_with fail
              (with_reducible refine (F15.out _).mono ?_)
              rintro e w' ⟨rfl, rfl⟩
              have HC10 := Lib.hid (HC.out.carry Hw9.out)
              go_wp2_with fail
              (with_reducible refine (drawCountWords A n cap _ HC10.out).mono ?_)
              rintro e w10 ⟨a, b, a0, a1, b0, b1, rfl, hb⟩
              have Hw10 := Lib.hid (Hw9.out.trans (hb.mono Hw9.out.size))
              clear hb
              have HC11 := Lib.hid (HC.out.carry Hw10.out)
              go_wp2_with fail
              (with_reducible refine (drawBallotByReflection A n cap _ HC11.out).mono ?_)
              rintro e w11 ⟨d, e', d0, d1, e0, e1, rfl, hb⟩
              have Hw11 := Lib.hid (Hw10.out.trans (hb.mono Hw10.out.size))
              clear hb
              have F17 := Lib.hid (fun W => countWordsI a b W)
              have F18 := Lib.hid (fun W => countWords a b W)
              have F19 := Lib.hid (fun W => ballotByReflectionI d e' W)
              have F20 := Lib.hid (fun W => ballotByReflection d e' W)
              generalize cwP a b = z1 at *
              generalize blrP d e' = z2 at *
              go_wp2_with fail
              (with_reducible refine (F17.out _).mono ?_)
              rintro e w' ⟨rfl, rfl⟩
              go_wp2_with fail
              (with_reducible refine (F18.out _).mono ?_)
              rintro e w' ⟨rfl, rfl⟩
              go_wp2_with fail
              (with_reducible refine (F19.out _).mono ?_)
              rintro e w' ⟨rfl, rfl⟩
              go_wp2_with fail
              (with_reducible refine (F20.out _).mono ?_)
              rintro e w' ⟨rfl, rfl⟩
              go_wp2
              go_ret
              exact ⟨by simp, Hw11.out⟩
          · skip
            have dc : decide (0 ≤ wiP m h) = false := decide_eq_false hw
            generalize wiP m h = c at *
            have hcc : (c != c) = false := by simp
            go_wp2_with fail
            (with_reducible refine (F14.out _).mono ?_)
            rintro e w' ⟨rfl, rfl⟩
            go_wp2_with fail
            (with_reducible refine (F15.out _).mono ?_)
            rintro e w' ⟨rfl, rfl⟩
            have HC10 := Lib.hid (HC.out.carry Hw9.out)
            go_wp2_with fail
            (with_reducible refine (drawCountWords A n cap _ HC10.out).mono ?_)
            rintro e w10 ⟨a, b, a0, a1, b0, b1, rfl, hb⟩
            have Hw10 := Lib.hid (Hw9.out.trans (hb.mono Hw9.out.size))
            clear hb
            have HC11 := Lib.hid (HC.out.carry Hw10.out)
            go_wp2_with fail
            (with_reducible refine (drawBallotByReflection A n cap _ HC11.out).mono ?_)
            rintro e w11 ⟨d, e', d0, d1, e0, e1, rfl, hb⟩
            have Hw11 := Lib.hid (Hw10.out.trans (hb.mono Hw10.out.size))
            clear hb
            have F17 := Lib.hid (fun W => countWordsI a b W)
            have F18 := Lib.hid (fun W => countWords a b W)
            have F19 := Lib.hid (fun W => ballotByReflectionI d e' W)
            have F20 := Lib.hid (fun W => ballotByReflection d e' W)
            generalize cwP a b = z1 at *
            generalize blrP d e' = z2 at *
            go_wp2_with fail
            (with_reducible refine (F17.out _).mono ?_)
            rintro e w' ⟨rfl, rfl⟩
            go_wp2_with fail
            (with_reducible refine (F18.out _).mono ?_)
            rintro e w' ⟨rfl, rfl⟩
            go_wp2_with fail
            (with_reducible refine (F19.out _).mono ?_)
            rintro e w' ⟨rfl, rfl⟩
            go_wp2_with fail
            (with_reducible refine (F20.out _).mono ?_)
            rintro e w' ⟨rfl, rfl⟩
            go_wp2
            go_ret
            exact ⟨by simp, Hw11.out⟩
        · skip
          have g0 : 0 ≤ y := by omega
          have d0 : decide (0 ≤ y) = true := decide_eq_true g0
          have g3 : ¬ y ≤ 14 := by omega
          have d3 : decide (y ≤ 14) = false := decide_eq_false g3
          have hcb : (e2 != e2) = false := by simp
          clear hy d1
          go_wp2_with fail
          (with_reducible refine (F10.out _).mono ?_)
          rintro e w' ⟨rfl, rfl⟩
          go_wp2_with fail
          (with_reducible refine (F11.out _).mono ?_)
          rintro e w' ⟨rfl, rfl⟩
          have HC9 := Lib.hid (HC.out.carry Hw8.out)
          go_wp2_with fail
          (with_reducible refine (drawCountWithin A n cap _ HC9.out).mono ?_)
          rintro e w9 ⟨m, h, m0, m1, h0, h1, rfl, hb⟩
          have Hw9 := Lib.hid (Hw8.out.trans (hb.mono Hw8.out.size))
          clear hb
          have F14 := Lib.hid (fun W => countWithinI m h W)
          have F15 := Lib.hid (fun W => countWithin m h W)
          by_cases hw : 0 ≤ wiP m h
          · skip
            by_cases hm6 : m ≤ 6
            · skip
              have dc : decide (0 ≤ wiP m h) = true := decide_eq_true (by omega)
              have gc : 0 ≤ wiP m h := by omega
              have dm : decide (m ≤ 6) = true := decide_eq_true hm6
              have hh0 : 0 ≤ h := by
                by_cases q : 0 ≤ h
                · exact q
                · rw [show wiP m h = -1 from if_neg (by omega)] at gc; omega
              have HCNT := Lib.hid (within_count m0 hm6 (show 0 ≤ h ∧ h ≤ 15 by omega))
              have HPD := Lib.hid (paths_dyck (m := m))
              have F16 := Lib.hid (fun W => pathsOf m W)
              have hcc : (wiP m h != wiP m h) = false := by simp
              have HLE := Lib.hid (fun i => cntA_le ((pathsP m).map (fun x => x.data.toList)) h i)
              have hpl : (pathsP m).length ≤ 4096 := by
                unfold pathsP
                split
                · exact allF_small _ _ _ _ (by omega)
                · simp
              generalize wiP m h = c at *
              generalize pathsP m = ps at *
              go_wp2_with fail
              (with_reducible refine (F14.out _).mono ?_)
              rintro e w' ⟨rfl, rfl⟩
              go_wp2_with fail
              (with_reducible refine (F15.out _).mono ?_)
              rintro e w' ⟨rfl, rfl⟩
              go_wp2_with fail
              (with_reducible refine (F16.out _).mono ?_)
              rintro e w10 ⟨pv, rfl, ho, hb⟩
              obtain ⟨Ap, cp, rfl, -⟩ := id ho
              have HO := Lib.hid ho
              have hz10 := hb.size
              have Hw10 := Lib.hid (Hw9.out.trans (hb.mono Hw9.out.size))
              clear hb ho
              go_wp2
              go_loopw [22, 23] (fun a b wr => ∃ i : Nat, i ≤ ps.length ∧ b = .int .i64 i ∧ a = .int .i64 ((cntA (ps.map (fun x => x.data.toList)) h i : Nat) : Int) ∧ Below w10.heap.size w10 wr) (fun _ b _ => ps.length - (intOf b).toNat)
              case atStart => exact ⟨0, Nat.zero_le _, rfl, rfl, Below.refl _ _⟩
              case round =>
                obtain ⟨i, hi, rfl, rfl, hbl⟩ := hrel
                have HBL := Lib.hid hbl
                have hzl := hbl.size
                clear hbl
                have hle := HLE.out i
                by_cases hlt : i < ps.length
                · have hii : (i : Int) < (ps.length : Int) := by omega
                  obtain ⟨g1, p1, e1, -, -, hcx, -⟩ := (HO.out.keep HBL.out (Nat.le_refl _)).cell hlt
                  simp only [Value.slice.injEq] at e1
                  obtain ⟨rfl, -, -⟩ := e1
                  have HST := Lib.hid (fun W => HSTAT.out (ps.getD i E0) W (HPD.out _ (by rw [List.getD_eq_getElem?_getD, List.getElem?_eq_getElem hlt]; exact List.getElem_mem hlt)))
                  have HS := Lib.hid (show cntA (ps.map (fun x => x.data.toList)) h (i + 1) = cntA (ps.map (fun x => x.data.toList)) h i + if dpA (ps.getD i E0).data.toList ≤ h then 1 else 0 by
                      have e2 : (ps.map (fun x => x.data.toList)).getD i [] = (ps.getD i E0).data.toList := by
                        rw [List.getD_eq_getElem?_getD, List.getD_eq_getElem?_getD, List.getElem?_map, List.getElem?_eq_getElem hlt]; rfl
                      rw [cntA, e2])
                  generalize ps.getD i E0 = p at *
                  generalize dpA p.data.toList = dp at *
                  generalize cntA (ps.map (fun x => x.data.toList)) h i = ck at *
                  go_wp2_with fail
                  (with_reducible refine (HST.out _).mono ?_)
                  rintro e w9 ⟨rfl, hb9⟩
                  have HB9 := Lib.hid (HBL.out.trans (hb9.mono hzl))
                  clear hb9
                  by_cases hdh : dp ≤ h
                  · have hE := Lib.hid (HS.out.trans (by rw [if_pos hdh]))
                    have ddh : decide (dp ≤ h) = true := decide_eq_true hdh
                    go_wp2
                    exact ⟨⟨i + 1, by omega, by simp, by rw [hE.out]; simp, HB9.out⟩, by simp [intOf]; omega⟩
                  · have hE := Lib.hid (HS.out.trans (by rw [if_neg hdh, Nat.add_zero]))
                    have ddh : decide (dp ≤ h) = false := decide_eq_false hdh
                    go_wp2
                    exact ⟨⟨i + 1, by omega, by simp, by rw [hE.out], HB9.out⟩, by simp [intOf]; omega⟩
                · obtain rfl : i = ps.length := by omega
                  have hii : ¬ (ps.length : Int) < (ps.length : Int) := by omega
                  have HKC := Lib.hid HCNT.out
                  have hkc : (((cntA (ps.map (fun x => x.data.toList)) h ps.length : Nat) : Int) != c) = false := by simp [HKC.out]
                  generalize cntA (ps.map (fun x => x.data.toList)) h ps.length = ck at *
                  have Hw11 := Lib.hid (Hw10.out.trans (HBL.out.mono Hw10.out.size))
                  skip
                  have HC12 := Lib.hid (HC.out.carry Hw11.out)
                  go_wp2_with fail
                  (with_reducible refine (drawCountWords A n cap _ HC12.out).mono ?_)
                  rintro e w12 ⟨a, b, a0, a1, b0, b1, rfl, hb⟩
                  have Hw12 := Lib.hid (Hw11.out.trans (hb.mono Hw11.out.size))
                  clear hb
                  have HC13 := Lib.hid (HC.out.carry Hw12.out)
                  go_wp2_with fail
                  (with_reducible refine (drawBallotByReflection A n cap _ HC13.out).mono ?_)
                  rintro e w13 ⟨d, e', d0, d1, e0, e1, rfl, hb⟩
                  have Hw13 := Lib.hid (Hw12.out.trans (hb.mono Hw12.out.size))
                  clear hb
                  have F17 := Lib.hid (fun W => countWordsI a b W)
                  have F18 := Lib.hid (fun W => countWords a b W)
                  have F19 := Lib.hid (fun W => ballotByReflectionI d e' W)
                  have F20 := Lib.hid (fun W => ballotByReflection d e' W)
                  generalize cwP a b = z1 at *
                  generalize blrP d e' = z2 at *
                  go_wp2_with fail
                  (with_reducible refine (F17.out _).mono ?_)
                  rintro e w' ⟨rfl, rfl⟩
                  go_wp2_with fail
                  (with_reducible refine (F18.out _).mono ?_)
                  rintro e w' ⟨rfl, rfl⟩
                  go_wp2_with fail
                  (with_reducible refine (F19.out _).mono ?_)
                  rintro e w' ⟨rfl, rfl⟩
                  go_wp2_with fail
                  (with_reducible refine (F20.out _).mono ?_)
                  rintro e w' ⟨rfl, rfl⟩
                  go_wp2
                  go_ret
                  exact ⟨by simp, Hw13.out⟩
            · skip
              have dc : decide (0 ≤ wiP m h) = true := decide_eq_true (by omega)
              have gc : 0 ≤ wiP m h := by omega
              have dm : decide (m ≤ 6) = false := decide_eq_false hm6
              generalize wiP m h = c at *
              have hcc : (c != c) = false := by simp
              go_wp2_with fail
              (with_reducible refine (F14.out _).mono ?_)
              rintro e w' ⟨rfl, rfl⟩
              go_wp2_with fail
              (with_reducible refine (F15.out _).mono ?_)
              rintro e w' ⟨rfl, rfl⟩
              have HC10 := Lib.hid (HC.out.carry Hw9.out)
              go_wp2_with fail
              (with_reducible refine (drawCountWords A n cap _ HC10.out).mono ?_)
              rintro e w10 ⟨a, b, a0, a1, b0, b1, rfl, hb⟩
              have Hw10 := Lib.hid (Hw9.out.trans (hb.mono Hw9.out.size))
              clear hb
              have HC11 := Lib.hid (HC.out.carry Hw10.out)
              go_wp2_with fail
              (with_reducible refine (drawBallotByReflection A n cap _ HC11.out).mono ?_)
              rintro e w11 ⟨d, e', d0, d1, e0, e1, rfl, hb⟩
              have Hw11 := Lib.hid (Hw10.out.trans (hb.mono Hw10.out.size))
              clear hb
              have F17 := Lib.hid (fun W => countWordsI a b W)
              have F18 := Lib.hid (fun W => countWords a b W)
              have F19 := Lib.hid (fun W => ballotByReflectionI d e' W)
              have F20 := Lib.hid (fun W => ballotByReflection d e' W)
              generalize cwP a b = z1 at *
              generalize blrP d e' = z2 at *
              go_wp2_with fail
              (with_reducible refine (F17.out _).mono ?_)
              rintro e w' ⟨rfl, rfl⟩
              go_wp2_with fail
              (with_reducible refine (F18.out _).mono ?_)
              rintro e w' ⟨rfl, rfl⟩
              go_wp2_with fail
              (with_reducible refine (F19.out _).mono ?_)
              rintro e w' ⟨rfl, rfl⟩
              go_wp2_with fail
              (with_reducible refine (F20.out _).mono ?_)
              rintro e w' ⟨rfl, rfl⟩
              go_wp2
              go_ret
              exact ⟨by simp, Hw11.out⟩
          · skip
            have dc : decide (0 ≤ wiP m h) = false := decide_eq_false hw
            generalize wiP m h = c at *
            have hcc : (c != c) = false := by simp
            go_wp2_with fail
            (with_reducible refine (F14.out _).mono ?_)
            rintro e w' ⟨rfl, rfl⟩
            go_wp2_with fail
            (with_reducible refine (F15.out _).mono ?_)
            rintro e w' ⟨rfl, rfl⟩
            have HC10 := Lib.hid (HC.out.carry Hw9.out)
            go_wp2_with fail
            (with_reducible refine (drawCountWords A n cap _ HC10.out).mono ?_)
            rintro e w10 ⟨a, b, a0, a1, b0, b1, rfl, hb⟩
            have Hw10 := Lib.hid (Hw9.out.trans (hb.mono Hw9.out.size))
            clear hb
            have HC11 := Lib.hid (HC.out.carry Hw10.out)
            go_wp2_with fail
            (with_reducible refine (drawBallotByReflection A n cap _ HC11.out).mono ?_)
            rintro e w11 ⟨d, e', d0, d1, e0, e1, rfl, hb⟩
            have Hw11 := Lib.hid (Hw10.out.trans (hb.mono Hw10.out.size))
            clear hb
            have F17 := Lib.hid (fun W => countWordsI a b W)
            have F18 := Lib.hid (fun W => countWords a b W)
            have F19 := Lib.hid (fun W => ballotByReflectionI d e' W)
            have F20 := Lib.hid (fun W => ballotByReflection d e' W)
            generalize cwP a b = z1 at *
            generalize blrP d e' = z2 at *
            go_wp2_with fail
            (with_reducible refine (F17.out _).mono ?_)
            rintro e w' ⟨rfl, rfl⟩
            go_wp2_with fail
            (with_reducible refine (F18.out _).mono ?_)
            rintro e w' ⟨rfl, rfl⟩
            go_wp2_with fail
            (with_reducible refine (F19.out _).mono ?_)
            rintro e w' ⟨rfl, rfl⟩
            go_wp2_with fail
            (with_reducible refine (F20.out _).mono ?_)
            rintro e w' ⟨rfl, rfl⟩
            go_wp2
            go_ret
            exact ⟨by simp, Hw11.out⟩
  · obtain ⟨hl1, hl2⟩ := bad_low hb
    rw [hb] at F1 F2 F3 F4
    have hz1 : (rbP s).size ≤ 20 := by rw [show rbP s = flS s from if_pos hb, flS_size]; exact hs20
    have F5 := Lib.hid (fun W => unreflectWordI (rbP s) W (by omega))
    rw [hl1, hl2] at F5
    generalize rbP s = r at *
    have hrr : (r.toList != r.toList) = false := by simp
    have hss : (s.toList != s.toList) = false := by simp
    clear hb hl1 hl2 hz1
    go_wp2_with fail
    (with_reducible refine (F1.out _).mono ?_)
    rintro e w2 ⟨rfl, hb⟩
    have Hw2 := Lib.hid (Hw1.out.trans (hb.mono Hw1.out.size))
    clear hb
    go_wp2_with fail
    (with_reducible refine (F2.out _).mono ?_)
    rintro e w' ⟨rfl, rfl⟩
    go_wp2_with fail
    (with_reducible refine (F3.out _).mono ?_)
    rintro e w3 ⟨rfl, hb⟩
    have Hw3 := Lib.hid (Hw2.out.trans (hb.mono Hw2.out.size))
    clear hb
    go_wp2_with fail
    (with_reducible refine (F4.out _).mono ?_)
    rintro e w' ⟨rfl, rfl⟩
    go_wp2_with fail
    (with_reducible refine (F5.out _).mono ?_)
    rintro e w4 ⟨rfl, hb⟩
    have Hw4 := Lib.hid (Hw3.out.trans (hb.mono Hw3.out.size))
    clear hb
    have HC5 := Lib.hid (HC.out.carry Hw4.out)
    go_wp2_with fail
    (with_reducible refine (drawUnreflectWord A n cap _ HC5.out).mono ?_)
    rintro e w5 ⟨v, hv, rfl, hb⟩
    have Hw5 := Lib.hid (Hw4.out.trans (hb.mono Hw4.out.size))
    clear hb
    have hv20 : v.size ≤ 20 := hv
    clear hv
    have F6 := Lib.hid (fun W => unreflectWordI v W (by omega))
    have F7 := Lib.hid (fun W => unreflectWord v W (by omega))
    rcases hb : lowB v with _ | _
    · skip
      rw [hb] at F6 F7
      generalize ruP v = r2 at *
      have hr2 : (r2.toList != r2.toList) = false := by simp
      clear hb
      go_wp2_with fail
      (with_reducible refine (F6.out _).mono ?_)
      rintro e w6 ⟨rfl, hb⟩
      have Hw6 := Lib.hid (Hw5.out.trans (hb.mono Hw5.out.size))
      clear hb
      go_wp2_with fail
      (with_reducible refine (F7.out _).mono ?_)
      rintro e w' ⟨rfl, rfl⟩
      have HC7 := Lib.hid (HC.out.carry Hw6.out)
      go_wp2_with fail
      (with_reducible refine (drawCountBad A n cap _ HC7.out).mono ?_)
      rintro e w7 ⟨y, y0, y1, rfl, hb⟩
      have Hw7 := Lib.hid (Hw6.out.trans (hb.mono Hw6.out.size))
      clear hb
      have F10 := Lib.hid (fun W => countBadI y W)
      have F11 := Lib.hid (fun W => countBad y W)
      have hcb : (cbP y != cbP y) = false := by simp
      by_cases hy : 0 ≤ y ∧ y ≤ 14
      · skip
        have g1 : 0 ≤ y := hy.1
        have g2 : y ≤ 14 := hy.2
        have d1 : decide (0 ≤ y) = true := decide_eq_true hy.1
        have d2 : decide (y ≤ 14) = true := decide_eq_true hy.2
        have hcd := cat_diff hy.1 hy.2
        have hcb2 := cat_bd hy.1 hy.2
        have F12 := Lib.hid (fun W => countWordsI y y W)
        have F13 := Lib.hid (fun W => catalanNumberI y W)
        have hb3 := cwP_bd y y
        have HCD := Lib.hid hcd
        have hcn : ((cwP y y - cbP y) != catP y) = false := by simp [HCD.out]
        have hbb : -1000000000000 ≤ cbP y ∧ cbP y ≤ 1000000000000 := by omega
        clear hcd hy
        generalize cwP y y = e1 at *
        generalize cbP y = e2 at *
        generalize catP y = e3 at *
        go_wp2_with fail
        (with_reducible refine (F10.out _).mono ?_)
        rintro e w' ⟨rfl, rfl⟩
        go_wp2_with fail
        (with_reducible refine (F11.out _).mono ?_)
        rintro e w' ⟨rfl, rfl⟩
        go_wp2_with fail
        (with_reducible refine (F12.out _).mono ?_)
        rintro e w' ⟨rfl, rfl⟩
        go_wp2_with fail
        (with_reducible refine (F10.out _).mono ?_)
        rintro e w' ⟨rfl, rfl⟩
        go_wp2_with fail
        (with_reducible refine (F13.out _).mono ?_)
        rintro e w8 ⟨rfl, hb⟩
        have Hw8 := Lib.hid (Hw7.out.trans (hb.mono Hw7.out.size))
        clear hb
        have HC9 := Lib.hid (HC.out.carry Hw8.out)
        go_wp2_with fail
        (with_reducible refine (drawCountWithin A n cap _ HC9.out).mono ?_)
        rintro e w9 ⟨m, h, m0, m1, h0, h1, rfl, hb⟩
        have Hw9 := Lib.hid (Hw8.out.trans (hb.mono Hw8.out.size))
        clear hb
        have F14 := Lib.hid (fun W => countWithinI m h W)
        have F15 := Lib.hid (fun W => countWithin m h W)
        by_cases hw : 0 ≤ wiP m h
        · skip
          by_cases hm6 : m ≤ 6
          · skip
            have dc : decide (0 ≤ wiP m h) = true := decide_eq_true (by omega)
            have gc : 0 ≤ wiP m h := by omega
            have dm : decide (m ≤ 6) = true := decide_eq_true hm6
            have hh0 : 0 ≤ h := by
              by_cases q : 0 ≤ h
              · exact q
              · rw [show wiP m h = -1 from if_neg (by omega)] at gc; omega
            have HCNT := Lib.hid (within_count m0 hm6 (show 0 ≤ h ∧ h ≤ 15 by omega))
            have HPD := Lib.hid (paths_dyck (m := m))
            have F16 := Lib.hid (fun W => pathsOf m W)
            have hcc : (wiP m h != wiP m h) = false := by simp
            have HLE := Lib.hid (fun i => cntA_le ((pathsP m).map (fun x => x.data.toList)) h i)
            have hpl : (pathsP m).length ≤ 4096 := by
              unfold pathsP
              split
              · exact allF_small _ _ _ _ (by omega)
              · simp
            generalize wiP m h = c at *
            generalize pathsP m = ps at *
            go_wp2_with fail
            (with_reducible refine (F14.out _).mono ?_)
            rintro e w' ⟨rfl, rfl⟩
            go_wp2_with fail
            (with_reducible refine (F15.out _).mono ?_)
            rintro e w' ⟨rfl, rfl⟩
            go_wp2_with fail
            (with_reducible refine (F16.out _).mono ?_)
            rintro e w10 ⟨pv, rfl, ho, hb⟩
            obtain ⟨Ap, cp, rfl, -⟩ := id ho
            have HO := Lib.hid ho
            have hz10 := hb.size
            have Hw10 := Lib.hid (Hw9.out.trans (hb.mono Hw9.out.size))
            clear hb ho
            go_wp2
            go_loopw [22, 23] (fun a b wr => ∃ i : Nat, i ≤ ps.length ∧ b = .int .i64 i ∧ a = .int .i64 ((cntA (ps.map (fun x => x.data.toList)) h i : Nat) : Int) ∧ Below w10.heap.size w10 wr) (fun _ b _ => ps.length - (intOf b).toNat)
            case atStart => exact ⟨0, Nat.zero_le _, rfl, rfl, Below.refl _ _⟩
            case round =>
              obtain ⟨i, hi, rfl, rfl, hbl⟩ := hrel
              have HBL := Lib.hid hbl
              have hzl := hbl.size
              clear hbl
              have hle := HLE.out i
              by_cases hlt : i < ps.length
              · have hii : (i : Int) < (ps.length : Int) := by omega
                obtain ⟨g1, p1, e1, -, -, hcx, -⟩ := (HO.out.keep HBL.out (Nat.le_refl _)).cell hlt
                simp only [Value.slice.injEq] at e1
                obtain ⟨rfl, -, -⟩ := e1
                have HST := Lib.hid (fun W => HSTAT.out (ps.getD i E0) W (HPD.out _ (by rw [List.getD_eq_getElem?_getD, List.getElem?_eq_getElem hlt]; exact List.getElem_mem hlt)))
                have HS := Lib.hid (show cntA (ps.map (fun x => x.data.toList)) h (i + 1) = cntA (ps.map (fun x => x.data.toList)) h i + if dpA (ps.getD i E0).data.toList ≤ h then 1 else 0 by
                    have e2 : (ps.map (fun x => x.data.toList)).getD i [] = (ps.getD i E0).data.toList := by
                      rw [List.getD_eq_getElem?_getD, List.getD_eq_getElem?_getD, List.getElem?_map, List.getElem?_eq_getElem hlt]; rfl
                    rw [cntA, e2])
                generalize ps.getD i E0 = p at *
                generalize dpA p.data.toList = dp at *
                generalize cntA (ps.map (fun x => x.data.toList)) h i = ck at *
                go_wp2_with fail
                (with_reducible refine (HST.out _).mono ?_)
                rintro e w9 ⟨rfl, hb9⟩
                have HB9 := Lib.hid (HBL.out.trans (hb9.mono hzl))
                clear hb9
                by_cases hdh : dp ≤ h
                · have hE := Lib.hid (HS.out.trans (by rw [if_pos hdh]))
                  have ddh : decide (dp ≤ h) = true := decide_eq_true hdh
                  go_wp2
                  exact ⟨⟨i + 1, by omega, by simp, by rw [hE.out]; simp, HB9.out⟩, by simp [intOf]; omega⟩
                · have hE := Lib.hid (HS.out.trans (by rw [if_neg hdh, Nat.add_zero]))
                  have ddh : decide (dp ≤ h) = false := decide_eq_false hdh
                  go_wp2
                  exact ⟨⟨i + 1, by omega, by simp, by rw [hE.out], HB9.out⟩, by simp [intOf]; omega⟩
              · obtain rfl : i = ps.length := by omega
                have hii : ¬ (ps.length : Int) < (ps.length : Int) := by omega
                have HKC := Lib.hid HCNT.out
                have hkc : (((cntA (ps.map (fun x => x.data.toList)) h ps.length : Nat) : Int) != c) = false := by simp [HKC.out]
                generalize cntA (ps.map (fun x => x.data.toList)) h ps.length = ck at *
                have Hw11 := Lib.hid (Hw10.out.trans (HBL.out.mono Hw10.out.size))
                skip
                have HC12 := Lib.hid (HC.out.carry Hw11.out)
                go_wp2_with fail
                (with_reducible refine (drawCountWords A n cap _ HC12.out).mono ?_)
                rintro e w12 ⟨a, b, a0, a1, b0, b1, rfl, hb⟩
                have Hw12 := Lib.hid (Hw11.out.trans (hb.mono Hw11.out.size))
                clear hb
                have HC13 := Lib.hid (HC.out.carry Hw12.out)
                go_wp2_with fail
                (with_reducible refine (drawBallotByReflection A n cap _ HC13.out).mono ?_)
                rintro e w13 ⟨d, e', d0, d1, e0, e1, rfl, hb⟩
                have Hw13 := Lib.hid (Hw12.out.trans (hb.mono Hw12.out.size))
                clear hb
                have F17 := Lib.hid (fun W => countWordsI a b W)
                have F18 := Lib.hid (fun W => countWords a b W)
                have F19 := Lib.hid (fun W => ballotByReflectionI d e' W)
                have F20 := Lib.hid (fun W => ballotByReflection d e' W)
                generalize cwP a b = z1 at *
                generalize blrP d e' = z2 at *
                go_wp2_with fail
                (with_reducible refine (F17.out _).mono ?_)
                rintro e w' ⟨rfl, rfl⟩
                go_wp2_with fail
                (with_reducible refine (F18.out _).mono ?_)
                rintro e w' ⟨rfl, rfl⟩
                go_wp2_with fail
                (with_reducible refine (F19.out _).mono ?_)
                rintro e w' ⟨rfl, rfl⟩
                go_wp2_with fail
                (with_reducible refine (F20.out _).mono ?_)
                rintro e w' ⟨rfl, rfl⟩
                go_wp2
                go_ret
                exact ⟨by simp, Hw13.out⟩
          · skip
            have dc : decide (0 ≤ wiP m h) = true := decide_eq_true (by omega)
            have gc : 0 ≤ wiP m h := by omega
            have dm : decide (m ≤ 6) = false := decide_eq_false hm6
            generalize wiP m h = c at *
            have hcc : (c != c) = false := by simp
            go_wp2_with fail
            (with_reducible refine (F14.out _).mono ?_)
            rintro e w' ⟨rfl, rfl⟩
            go_wp2_with fail
            (with_reducible refine (F15.out _).mono ?_)
            rintro e w' ⟨rfl, rfl⟩
            have HC10 := Lib.hid (HC.out.carry Hw9.out)
            go_wp2_with fail
            (with_reducible refine (drawCountWords A n cap _ HC10.out).mono ?_)
            rintro e w10 ⟨a, b, a0, a1, b0, b1, rfl, hb⟩
            have Hw10 := Lib.hid (Hw9.out.trans (hb.mono Hw9.out.size))
            clear hb
            have HC11 := Lib.hid (HC.out.carry Hw10.out)
            go_wp2_with fail
            (with_reducible refine (drawBallotByReflection A n cap _ HC11.out).mono ?_)
            rintro e w11 ⟨d, e', d0, d1, e0, e1, rfl, hb⟩
            have Hw11 := Lib.hid (Hw10.out.trans (hb.mono Hw10.out.size))
            clear hb
            have F17 := Lib.hid (fun W => countWordsI a b W)
            have F18 := Lib.hid (fun W => countWords a b W)
            have F19 := Lib.hid (fun W => ballotByReflectionI d e' W)
            have F20 := Lib.hid (fun W => ballotByReflection d e' W)
            generalize cwP a b = z1 at *
            generalize blrP d e' = z2 at *
            go_wp2_with fail
            (with_reducible refine (F17.out _).mono ?_)
            rintro e w' ⟨rfl, rfl⟩
            go_wp2_with fail
            (with_reducible refine (F18.out _).mono ?_)
            rintro e w' ⟨rfl, rfl⟩
            go_wp2_with fail
            (with_reducible refine (F19.out _).mono ?_)
            rintro e w' ⟨rfl, rfl⟩
            go_wp2_with fail
            (with_reducible refine (F20.out _).mono ?_)
            rintro e w' ⟨rfl, rfl⟩
            go_wp2
            go_ret
            exact ⟨by simp, Hw11.out⟩
        · skip
          have dc : decide (0 ≤ wiP m h) = false := decide_eq_false hw
          generalize wiP m h = c at *
          have hcc : (c != c) = false := by simp
          go_wp2_with fail
          (with_reducible refine (F14.out _).mono ?_)
          rintro e w' ⟨rfl, rfl⟩
          go_wp2_with fail
          (with_reducible refine (F15.out _).mono ?_)
          rintro e w' ⟨rfl, rfl⟩
          have HC10 := Lib.hid (HC.out.carry Hw9.out)
          go_wp2_with fail
          (with_reducible refine (drawCountWords A n cap _ HC10.out).mono ?_)
          rintro e w10 ⟨a, b, a0, a1, b0, b1, rfl, hb⟩
          have Hw10 := Lib.hid (Hw9.out.trans (hb.mono Hw9.out.size))
          clear hb
          have HC11 := Lib.hid (HC.out.carry Hw10.out)
          go_wp2_with fail
          (with_reducible refine (drawBallotByReflection A n cap _ HC11.out).mono ?_)
          rintro e w11 ⟨d, e', d0, d1, e0, e1, rfl, hb⟩
          have Hw11 := Lib.hid (Hw10.out.trans (hb.mono Hw10.out.size))
          clear hb
          have F17 := Lib.hid (fun W => countWordsI a b W)
          have F18 := Lib.hid (fun W => countWords a b W)
          have F19 := Lib.hid (fun W => ballotByReflectionI d e' W)
          have F20 := Lib.hid (fun W => ballotByReflection d e' W)
          generalize cwP a b = z1 at *
          generalize blrP d e' = z2 at *
          go_wp2_with fail
          (with_reducible refine (F17.out _).mono ?_)
          rintro e w' ⟨rfl, rfl⟩
          go_wp2_with fail
          (with_reducible refine (F18.out _).mono ?_)
          rintro e w' ⟨rfl, rfl⟩
          go_wp2_with fail
          (with_reducible refine (F19.out _).mono ?_)
          rintro e w' ⟨rfl, rfl⟩
          go_wp2_with fail
          (with_reducible refine (F20.out _).mono ?_)
          rintro e w' ⟨rfl, rfl⟩
          go_wp2
          go_ret
          exact ⟨by simp, Hw11.out⟩
      · skip
        have d1 : (decide (0 ≤ y) && decide (y ≤ 14)) = false := by rw [Bool.and_eq_false_iff, decide_eq_false_iff_not, decide_eq_false_iff_not]; omega
        generalize cbP y = e2 at *
        clear hcb
        by_cases hy0 : y < 0
        · skip
          have d0 : decide (0 ≤ y) = false := decide_eq_false (by omega)
          have g0 : ¬ 0 ≤ y := by omega
          have hcb : (e2 != e2) = false := by simp
          clear hy d1
          go_wp2_with fail
          (with_reducible refine (F10.out _).mono ?_)
          rintro e w' ⟨rfl, rfl⟩
          go_wp2_with fail
          (with_reducible refine (F11.out _).mono ?_)
          rintro e w' ⟨rfl, rfl⟩
          have HC8 := Lib.hid (HC.out.carry Hw7.out)
          go_wp2_with fail
          (with_reducible refine (drawCountWithin A n cap _ HC8.out).mono ?_)
          rintro e w8 ⟨m, h, m0, m1, h0, h1, rfl, hb⟩
          have Hw8 := Lib.hid (Hw7.out.trans (hb.mono Hw7.out.size))
          clear hb
          have F14 := Lib.hid (fun W => countWithinI m h W)
          have F15 := Lib.hid (fun W => countWithin m h W)
          by_cases hw : 0 ≤ wiP m h
          · skip
            by_cases hm6 : m ≤ 6
            · skip
              have dc : decide (0 ≤ wiP m h) = true := decide_eq_true (by omega)
              have gc : 0 ≤ wiP m h := by omega
              have dm : decide (m ≤ 6) = true := decide_eq_true hm6
              have hh0 : 0 ≤ h := by
                by_cases q : 0 ≤ h
                · exact q
                · rw [show wiP m h = -1 from if_neg (by omega)] at gc; omega
              have HCNT := Lib.hid (within_count m0 hm6 (show 0 ≤ h ∧ h ≤ 15 by omega))
              have HPD := Lib.hid (paths_dyck (m := m))
              have F16 := Lib.hid (fun W => pathsOf m W)
              have hcc : (wiP m h != wiP m h) = false := by simp
              have HLE := Lib.hid (fun i => cntA_le ((pathsP m).map (fun x => x.data.toList)) h i)
              have hpl : (pathsP m).length ≤ 4096 := by
                unfold pathsP
                split
                · exact allF_small _ _ _ _ (by omega)
                · simp
              generalize wiP m h = c at *
              generalize pathsP m = ps at *
              go_wp2_with fail
              (with_reducible refine (F14.out _).mono ?_)
              rintro e w' ⟨rfl, rfl⟩
              go_wp2_with fail
              (with_reducible refine (F15.out _).mono ?_)
              rintro e w' ⟨rfl, rfl⟩
              go_wp2_with fail
              (with_reducible refine (F16.out _).mono ?_)
              rintro e w9 ⟨pv, rfl, ho, hb⟩
              obtain ⟨Ap, cp, rfl, -⟩ := id ho
              have HO := Lib.hid ho
              have hz9 := hb.size
              have Hw9 := Lib.hid (Hw8.out.trans (hb.mono Hw8.out.size))
              clear hb ho
              go_wp2
              go_loopw [22, 23] (fun a b wr => ∃ i : Nat, i ≤ ps.length ∧ b = .int .i64 i ∧ a = .int .i64 ((cntA (ps.map (fun x => x.data.toList)) h i : Nat) : Int) ∧ Below w9.heap.size w9 wr) (fun _ b _ => ps.length - (intOf b).toNat)
              case atStart => exact ⟨0, Nat.zero_le _, rfl, rfl, Below.refl _ _⟩
              case round =>
                obtain ⟨i, hi, rfl, rfl, hbl⟩ := hrel
                have HBL := Lib.hid hbl
                have hzl := hbl.size
                clear hbl
                have hle := HLE.out i
                by_cases hlt : i < ps.length
                · have hii : (i : Int) < (ps.length : Int) := by omega
                  obtain ⟨g1, p1, e1, -, -, hcx, -⟩ := (HO.out.keep HBL.out (Nat.le_refl _)).cell hlt
                  simp only [Value.slice.injEq] at e1
                  obtain ⟨rfl, -, -⟩ := e1
                  have HST := Lib.hid (fun W => HSTAT.out (ps.getD i E0) W (HPD.out _ (by rw [List.getD_eq_getElem?_getD, List.getElem?_eq_getElem hlt]; exact List.getElem_mem hlt)))
                  have HS := Lib.hid (show cntA (ps.map (fun x => x.data.toList)) h (i + 1) = cntA (ps.map (fun x => x.data.toList)) h i + if dpA (ps.getD i E0).data.toList ≤ h then 1 else 0 by
                      have e2 : (ps.map (fun x => x.data.toList)).getD i [] = (ps.getD i E0).data.toList := by
                        rw [List.getD_eq_getElem?_getD, List.getD_eq_getElem?_getD, List.getElem?_map, List.getElem?_eq_getElem hlt]; rfl
                      rw [cntA, e2])
                  generalize ps.getD i E0 = p at *
                  generalize dpA p.data.toList = dp at *
                  generalize cntA (ps.map (fun x => x.data.toList)) h i = ck at *
                  go_wp2_with fail
                  (with_reducible refine (HST.out _).mono ?_)
                  rintro e w9 ⟨rfl, hb9⟩
                  have HB9 := Lib.hid (HBL.out.trans (hb9.mono hzl))
                  clear hb9
                  by_cases hdh : dp ≤ h
                  · have hE := Lib.hid (HS.out.trans (by rw [if_pos hdh]))
                    have ddh : decide (dp ≤ h) = true := decide_eq_true hdh
                    go_wp2
                    exact ⟨⟨i + 1, by omega, by simp, by rw [hE.out]; simp, HB9.out⟩, by simp [intOf]; omega⟩
                  · have hE := Lib.hid (HS.out.trans (by rw [if_neg hdh, Nat.add_zero]))
                    have ddh : decide (dp ≤ h) = false := decide_eq_false hdh
                    go_wp2
                    exact ⟨⟨i + 1, by omega, by simp, by rw [hE.out], HB9.out⟩, by simp [intOf]; omega⟩
                · obtain rfl : i = ps.length := by omega
                  have hii : ¬ (ps.length : Int) < (ps.length : Int) := by omega
                  have HKC := Lib.hid HCNT.out
                  have hkc : (((cntA (ps.map (fun x => x.data.toList)) h ps.length : Nat) : Int) != c) = false := by simp [HKC.out]
                  generalize cntA (ps.map (fun x => x.data.toList)) h ps.length = ck at *
                  have Hw10 := Lib.hid (Hw9.out.trans (HBL.out.mono Hw9.out.size))
                  skip
                  have HC11 := Lib.hid (HC.out.carry Hw10.out)
                  go_wp2_with fail
                  (with_reducible refine (drawCountWords A n cap _ HC11.out).mono ?_)
                  rintro e w11 ⟨a, b, a0, a1, b0, b1, rfl, hb⟩
                  have Hw11 := Lib.hid (Hw10.out.trans (hb.mono Hw10.out.size))
                  clear hb
                  have HC12 := Lib.hid (HC.out.carry Hw11.out)
                  go_wp2_with fail
                  (with_reducible refine (drawBallotByReflection A n cap _ HC12.out).mono ?_)
                  rintro e w12 ⟨d, e', d0, d1, e0, e1, rfl, hb⟩
                  have Hw12 := Lib.hid (Hw11.out.trans (hb.mono Hw11.out.size))
                  clear hb
                  have F17 := Lib.hid (fun W => countWordsI a b W)
                  have F18 := Lib.hid (fun W => countWords a b W)
                  have F19 := Lib.hid (fun W => ballotByReflectionI d e' W)
                  have F20 := Lib.hid (fun W => ballotByReflection d e' W)
                  generalize cwP a b = z1 at *
                  generalize blrP d e' = z2 at *
                  go_wp2_with fail
                  (with_reducible refine (F17.out _).mono ?_)
                  rintro e w' ⟨rfl, rfl⟩
                  go_wp2_with fail
                  (with_reducible refine (F18.out _).mono ?_)
                  rintro e w' ⟨rfl, rfl⟩
                  go_wp2_with fail
                  (with_reducible refine (F19.out _).mono ?_)
                  rintro e w' ⟨rfl, rfl⟩
                  go_wp2_with fail
                  (with_reducible refine (F20.out _).mono ?_)
                  rintro e w' ⟨rfl, rfl⟩
                  go_wp2
                  go_ret
                  exact ⟨by simp, Hw12.out⟩
            · skip
              have dc : decide (0 ≤ wiP m h) = true := decide_eq_true (by omega)
              have gc : 0 ≤ wiP m h := by omega
              have dm : decide (m ≤ 6) = false := decide_eq_false hm6
              generalize wiP m h = c at *
              have hcc : (c != c) = false := by simp
              go_wp2_with fail
              (with_reducible refine (F14.out _).mono ?_)
              rintro e w' ⟨rfl, rfl⟩
              go_wp2_with fail
              (with_reducible refine (F15.out _).mono ?_)
              rintro e w' ⟨rfl, rfl⟩
              have HC9 := Lib.hid (HC.out.carry Hw8.out)
              go_wp2_with fail
              (with_reducible refine (drawCountWords A n cap _ HC9.out).mono ?_)
              rintro e w9 ⟨a, b, a0, a1, b0, b1, rfl, hb⟩
              have Hw9 := Lib.hid (Hw8.out.trans (hb.mono Hw8.out.size))
              clear hb
              have HC10 := Lib.hid (HC.out.carry Hw9.out)
              go_wp2_with fail
              (with_reducible refine (drawBallotByReflection A n cap _ HC10.out).mono ?_)
              rintro e w10 ⟨d, e', d0, d1, e0, e1, rfl, hb⟩
              have Hw10 := Lib.hid (Hw9.out.trans (hb.mono Hw9.out.size))
              clear hb
              have F17 := Lib.hid (fun W => countWordsI a b W)
              have F18 := Lib.hid (fun W => countWords a b W)
              have F19 := Lib.hid (fun W => ballotByReflectionI d e' W)
              have F20 := Lib.hid (fun W => ballotByReflection d e' W)
              generalize cwP a b = z1 at *
              generalize blrP d e' = z2 at *
              go_wp2_with fail
              (with_reducible refine (F17.out _).mono ?_)
              rintro e w' ⟨rfl, rfl⟩
              go_wp2_with fail
              (with_reducible refine (F18.out _).mono ?_)
              rintro e w' ⟨rfl, rfl⟩
              go_wp2_with fail
              (with_reducible refine (F19.out _).mono ?_)
              rintro e w' ⟨rfl, rfl⟩
              go_wp2_with fail
              (with_reducible refine (F20.out _).mono ?_)
              rintro e w' ⟨rfl, rfl⟩
              go_wp2
              go_ret
              exact ⟨by simp, Hw10.out⟩
          · skip
            have dc : decide (0 ≤ wiP m h) = false := decide_eq_false hw
            generalize wiP m h = c at *
            have hcc : (c != c) = false := by simp
            go_wp2_with fail
            (with_reducible refine (F14.out _).mono ?_)
            rintro e w' ⟨rfl, rfl⟩
            go_wp2_with fail
            (with_reducible refine (F15.out _).mono ?_)
            rintro e w' ⟨rfl, rfl⟩
            have HC9 := Lib.hid (HC.out.carry Hw8.out)
            go_wp2_with fail
            (with_reducible refine (drawCountWords A n cap _ HC9.out).mono ?_)
            rintro e w9 ⟨a, b, a0, a1, b0, b1, rfl, hb⟩
            have Hw9 := Lib.hid (Hw8.out.trans (hb.mono Hw8.out.size))
            clear hb
            have HC10 := Lib.hid (HC.out.carry Hw9.out)
            go_wp2_with fail
            (with_reducible refine (drawBallotByReflection A n cap _ HC10.out).mono ?_)
            rintro e w10 ⟨d, e', d0, d1, e0, e1, rfl, hb⟩
            have Hw10 := Lib.hid (Hw9.out.trans (hb.mono Hw9.out.size))
            clear hb
            have F17 := Lib.hid (fun W => countWordsI a b W)
            have F18 := Lib.hid (fun W => countWords a b W)
            have F19 := Lib.hid (fun W => ballotByReflectionI d e' W)
            have F20 := Lib.hid (fun W => ballotByReflection d e' W)
            generalize cwP a b = z1 at *
            generalize blrP d e' = z2 at *
            go_wp2_with fail
            (with_reducible refine (F17.out _).mono ?_)
            rintro e w' ⟨rfl, rfl⟩
            go_wp2_with fail
            (with_reducible refine (F18.out _).mono ?_)
            rintro e w' ⟨rfl, rfl⟩
            go_wp2_with fail
            (with_reducible refine (F19.out _).mono ?_)
            rintro e w' ⟨rfl, rfl⟩
            go_wp2_with fail
            (with_reducible refine (F20.out _).mono ?_)
            rintro e w' ⟨rfl, rfl⟩
            go_wp2
            go_ret
            exact ⟨by simp, Hw10.out⟩
        · skip
          have g0 : 0 ≤ y := by omega
          have d0 : decide (0 ≤ y) = true := decide_eq_true g0
          have g3 : ¬ y ≤ 14 := by omega
          have d3 : decide (y ≤ 14) = false := decide_eq_false g3
          have hcb : (e2 != e2) = false := by simp
          clear hy d1
          go_wp2_with fail
          (with_reducible refine (F10.out _).mono ?_)
          rintro e w' ⟨rfl, rfl⟩
          go_wp2_with fail
          (with_reducible refine (F11.out _).mono ?_)
          rintro e w' ⟨rfl, rfl⟩
          have HC8 := Lib.hid (HC.out.carry Hw7.out)
          go_wp2_with fail
          (with_reducible refine (drawCountWithin A n cap _ HC8.out).mono ?_)
          rintro e w8 ⟨m, h, m0, m1, h0, h1, rfl, hb⟩
          have Hw8 := Lib.hid (Hw7.out.trans (hb.mono Hw7.out.size))
          clear hb
          have F14 := Lib.hid (fun W => countWithinI m h W)
          have F15 := Lib.hid (fun W => countWithin m h W)
          by_cases hw : 0 ≤ wiP m h
          · skip
            by_cases hm6 : m ≤ 6
            · skip
              have dc : decide (0 ≤ wiP m h) = true := decide_eq_true (by omega)
              have gc : 0 ≤ wiP m h := by omega
              have dm : decide (m ≤ 6) = true := decide_eq_true hm6
              have hh0 : 0 ≤ h := by
                by_cases q : 0 ≤ h
                · exact q
                · rw [show wiP m h = -1 from if_neg (by omega)] at gc; omega
              have HCNT := Lib.hid (within_count m0 hm6 (show 0 ≤ h ∧ h ≤ 15 by omega))
              have HPD := Lib.hid (paths_dyck (m := m))
              have F16 := Lib.hid (fun W => pathsOf m W)
              have hcc : (wiP m h != wiP m h) = false := by simp
              have HLE := Lib.hid (fun i => cntA_le ((pathsP m).map (fun x => x.data.toList)) h i)
              have hpl : (pathsP m).length ≤ 4096 := by
                unfold pathsP
                split
                · exact allF_small _ _ _ _ (by omega)
                · simp
              generalize wiP m h = c at *
              generalize pathsP m = ps at *
              go_wp2_with fail
              (with_reducible refine (F14.out _).mono ?_)
              rintro e w' ⟨rfl, rfl⟩
              go_wp2_with fail
              (with_reducible refine (F15.out _).mono ?_)
              rintro e w' ⟨rfl, rfl⟩
              go_wp2_with fail
              (with_reducible refine (F16.out _).mono ?_)
              rintro e w9 ⟨pv, rfl, ho, hb⟩
              obtain ⟨Ap, cp, rfl, -⟩ := id ho
              have HO := Lib.hid ho
              have hz9 := hb.size
              have Hw9 := Lib.hid (Hw8.out.trans (hb.mono Hw8.out.size))
              clear hb ho
              go_wp2
              go_loopw [22, 23] (fun a b wr => ∃ i : Nat, i ≤ ps.length ∧ b = .int .i64 i ∧ a = .int .i64 ((cntA (ps.map (fun x => x.data.toList)) h i : Nat) : Int) ∧ Below w9.heap.size w9 wr) (fun _ b _ => ps.length - (intOf b).toNat)
              case atStart => exact ⟨0, Nat.zero_le _, rfl, rfl, Below.refl _ _⟩
              case round =>
                obtain ⟨i, hi, rfl, rfl, hbl⟩ := hrel
                have HBL := Lib.hid hbl
                have hzl := hbl.size
                clear hbl
                have hle := HLE.out i
                by_cases hlt : i < ps.length
                · have hii : (i : Int) < (ps.length : Int) := by omega
                  obtain ⟨g1, p1, e1, -, -, hcx, -⟩ := (HO.out.keep HBL.out (Nat.le_refl _)).cell hlt
                  simp only [Value.slice.injEq] at e1
                  obtain ⟨rfl, -, -⟩ := e1
                  have HST := Lib.hid (fun W => HSTAT.out (ps.getD i E0) W (HPD.out _ (by rw [List.getD_eq_getElem?_getD, List.getElem?_eq_getElem hlt]; exact List.getElem_mem hlt)))
                  have HS := Lib.hid (show cntA (ps.map (fun x => x.data.toList)) h (i + 1) = cntA (ps.map (fun x => x.data.toList)) h i + if dpA (ps.getD i E0).data.toList ≤ h then 1 else 0 by
                      have e2 : (ps.map (fun x => x.data.toList)).getD i [] = (ps.getD i E0).data.toList := by
                        rw [List.getD_eq_getElem?_getD, List.getD_eq_getElem?_getD, List.getElem?_map, List.getElem?_eq_getElem hlt]; rfl
                      rw [cntA, e2])
                  generalize ps.getD i E0 = p at *
                  generalize dpA p.data.toList = dp at *
                  generalize cntA (ps.map (fun x => x.data.toList)) h i = ck at *
                  go_wp2_with fail
                  (with_reducible refine (HST.out _).mono ?_)
                  rintro e w9 ⟨rfl, hb9⟩
                  have HB9 := Lib.hid (HBL.out.trans (hb9.mono hzl))
                  clear hb9
                  by_cases hdh : dp ≤ h
                  · have hE := Lib.hid (HS.out.trans (by rw [if_pos hdh]))
                    have ddh : decide (dp ≤ h) = true := decide_eq_true hdh
                    go_wp2
                    exact ⟨⟨i + 1, by omega, by simp, by rw [hE.out]; simp, HB9.out⟩, by simp [intOf]; omega⟩
                  · have hE := Lib.hid (HS.out.trans (by rw [if_neg hdh, Nat.add_zero]))
                    have ddh : decide (dp ≤ h) = false := decide_eq_false hdh
                    go_wp2
                    exact ⟨⟨i + 1, by omega, by simp, by rw [hE.out], HB9.out⟩, by simp [intOf]; omega⟩
                · obtain rfl : i = ps.length := by omega
                  have hii : ¬ (ps.length : Int) < (ps.length : Int) := by omega
                  have HKC := Lib.hid HCNT.out
                  have hkc : (((cntA (ps.map (fun x => x.data.toList)) h ps.length : Nat) : Int) != c) = false := by simp [HKC.out]
                  generalize cntA (ps.map (fun x => x.data.toList)) h ps.length = ck at *
                  have Hw10 := Lib.hid (Hw9.out.trans (HBL.out.mono Hw9.out.size))
                  skip
                  have HC11 := Lib.hid (HC.out.carry Hw10.out)
                  go_wp2_with fail
                  (with_reducible refine (drawCountWords A n cap _ HC11.out).mono ?_)
                  rintro e w11 ⟨a, b, a0, a1, b0, b1, rfl, hb⟩
                  have Hw11 := Lib.hid (Hw10.out.trans (hb.mono Hw10.out.size))
                  clear hb
                  have HC12 := Lib.hid (HC.out.carry Hw11.out)
                  go_wp2_with fail
                  (with_reducible refine (drawBallotByReflection A n cap _ HC12.out).mono ?_)
                  rintro e w12 ⟨d, e', d0, d1, e0, e1, rfl, hb⟩
                  have Hw12 := Lib.hid (Hw11.out.trans (hb.mono Hw11.out.size))
                  clear hb
                  have F17 := Lib.hid (fun W => countWordsI a b W)
                  have F18 := Lib.hid (fun W => countWords a b W)
                  have F19 := Lib.hid (fun W => ballotByReflectionI d e' W)
                  have F20 := Lib.hid (fun W => ballotByReflection d e' W)
                  generalize cwP a b = z1 at *
                  generalize blrP d e' = z2 at *
                  go_wp2_with fail
                  (with_reducible refine (F17.out _).mono ?_)
                  rintro e w' ⟨rfl, rfl⟩
                  go_wp2_with fail
                  (with_reducible refine (F18.out _).mono ?_)
                  rintro e w' ⟨rfl, rfl⟩
                  go_wp2_with fail
                  (with_reducible refine (F19.out _).mono ?_)
                  rintro e w' ⟨rfl, rfl⟩
                  go_wp2_with fail
                  (with_reducible refine (F20.out _).mono ?_)
                  rintro e w' ⟨rfl, rfl⟩
                  go_wp2
                  go_ret
                  exact ⟨by simp, Hw12.out⟩
            · skip
              have dc : decide (0 ≤ wiP m h) = true := decide_eq_true (by omega)
              have gc : 0 ≤ wiP m h := by omega
              have dm : decide (m ≤ 6) = false := decide_eq_false hm6
              generalize wiP m h = c at *
              have hcc : (c != c) = false := by simp
              go_wp2_with fail
              (with_reducible refine (F14.out _).mono ?_)
              rintro e w' ⟨rfl, rfl⟩
              go_wp2_with fail
              (with_reducible refine (F15.out _).mono ?_)
              rintro e w' ⟨rfl, rfl⟩
              have HC9 := Lib.hid (HC.out.carry Hw8.out)
              go_wp2_with fail
              (with_reducible refine (drawCountWords A n cap _ HC9.out).mono ?_)
              rintro e w9 ⟨a, b, a0, a1, b0, b1, rfl, hb⟩
              have Hw9 := Lib.hid (Hw8.out.trans (hb.mono Hw8.out.size))
              clear hb
              have HC10 := Lib.hid (HC.out.carry Hw9.out)
              go_wp2_with fail
              (with_reducible refine (drawBallotByReflection A n cap _ HC10.out).mono ?_)
              rintro e w10 ⟨d, e', d0, d1, e0, e1, rfl, hb⟩
              have Hw10 := Lib.hid (Hw9.out.trans (hb.mono Hw9.out.size))
              clear hb
              have F17 := Lib.hid (fun W => countWordsI a b W)
              have F18 := Lib.hid (fun W => countWords a b W)
              have F19 := Lib.hid (fun W => ballotByReflectionI d e' W)
              have F20 := Lib.hid (fun W => ballotByReflection d e' W)
              generalize cwP a b = z1 at *
              generalize blrP d e' = z2 at *
              go_wp2_with fail
              (with_reducible refine (F17.out _).mono ?_)
              rintro e w' ⟨rfl, rfl⟩
              go_wp2_with fail
              (with_reducible refine (F18.out _).mono ?_)
              rintro e w' ⟨rfl, rfl⟩
              go_wp2_with fail
              (with_reducible refine (F19.out _).mono ?_)
              rintro e w' ⟨rfl, rfl⟩
              go_wp2_with fail
              (with_reducible refine (F20.out _).mono ?_)
              rintro e w' ⟨rfl, rfl⟩
              go_wp2
              go_ret
              exact ⟨by simp, Hw10.out⟩
          · skip
            have dc : decide (0 ≤ wiP m h) = false := decide_eq_false hw
            generalize wiP m h = c at *
            have hcc : (c != c) = false := by simp
            go_wp2_with fail
            (with_reducible refine (F14.out _).mono ?_)
            rintro e w' ⟨rfl, rfl⟩
            go_wp2_with fail
            (with_reducible refine (F15.out _).mono ?_)
            rintro e w' ⟨rfl, rfl⟩
            have HC9 := Lib.hid (HC.out.carry Hw8.out)
            go_wp2_with fail
            (with_reducible refine (drawCountWords A n cap _ HC9.out).mono ?_)
            rintro e w9 ⟨a, b, a0, a1, b0, b1, rfl, hb⟩
            have Hw9 := Lib.hid (Hw8.out.trans (hb.mono Hw8.out.size))
            clear hb
            have HC10 := Lib.hid (HC.out.carry Hw9.out)
            go_wp2_with fail
            (with_reducible refine (drawBallotByReflection A n cap _ HC10.out).mono ?_)
            rintro e w10 ⟨d, e', d0, d1, e0, e1, rfl, hb⟩
            have Hw10 := Lib.hid (Hw9.out.trans (hb.mono Hw9.out.size))
            clear hb
            have F17 := Lib.hid (fun W => countWordsI a b W)
            have F18 := Lib.hid (fun W => countWords a b W)
            have F19 := Lib.hid (fun W => ballotByReflectionI d e' W)
            have F20 := Lib.hid (fun W => ballotByReflection d e' W)
            generalize cwP a b = z1 at *
            generalize blrP d e' = z2 at *
            go_wp2_with fail
            (with_reducible refine (F17.out _).mono ?_)
            rintro e w' ⟨rfl, rfl⟩
            go_wp2_with fail
            (with_reducible refine (F18.out _).mono ?_)
            rintro e w' ⟨rfl, rfl⟩
            go_wp2_with fail
            (with_reducible refine (F19.out _).mono ?_)
            rintro e w' ⟨rfl, rfl⟩
            go_wp2_with fail
            (with_reducible refine (F20.out _).mono ?_)
            rintro e w' ⟨rfl, rfl⟩
            go_wp2
            go_ret
            exact ⟨by simp, Hw10.out⟩
    · obtain ⟨hl1, hl2⟩ := low_bad2 hb
      rw [hb] at F6 F7
      have hz2 : (ruP v).size ≤ 20 := by rw [show ruP v = flS v from if_pos hb, flS_size]; exact hv20
      have F8 := Lib.hid (fun W => reflectBadI (ruP v) W (by omega))
      have F9 := Lib.hid (fun W => isBadI (ruP v) W (by omega))
      rw [hl1, hl2] at F8
      rw [hl1] at F9
      generalize ruP v = r2 at *
      have hr2 : (r2.toList != r2.toList) = false := by simp
      have hvv : (v.toList != v.toList) = false := by simp
      clear hb hl1 hl2 hz2
      go_wp2_with fail
      (with_reducible refine (F6.out _).mono ?_)
      rintro e w6 ⟨rfl, hb⟩
      have Hw6 := Lib.hid (Hw5.out.trans (hb.mono Hw5.out.size))
      clear hb
      go_wp2_with fail
      (with_reducible refine (F7.out _).mono ?_)
      rintro e w' ⟨rfl, rfl⟩
      go_wp2_with fail
      (with_reducible refine (F8.out _).mono ?_)
      rintro e w7 ⟨rfl, hb⟩
      have Hw7 := Lib.hid (Hw6.out.trans (hb.mono Hw6.out.size))
      clear hb
      go_wp2_with fail
      (with_reducible refine (F9.out _).mono ?_)
      rintro e w8 ⟨rfl, hb⟩
      have Hw8 := Lib.hid (Hw7.out.trans (hb.mono Hw7.out.size))
      clear hb
      have HC9 := Lib.hid (HC.out.carry Hw8.out)
      go_wp2_with fail
      (with_reducible refine (drawCountBad A n cap _ HC9.out).mono ?_)
      rintro e w9 ⟨y, y0, y1, rfl, hb⟩
      have Hw9 := Lib.hid (Hw8.out.trans (hb.mono Hw8.out.size))
      clear hb
      have F10 := Lib.hid (fun W => countBadI y W)
      have F11 := Lib.hid (fun W => countBad y W)
      have hcb : (cbP y != cbP y) = false := by simp
      by_cases hy : 0 ≤ y ∧ y ≤ 14
      · skip
        have g1 : 0 ≤ y := hy.1
        have g2 : y ≤ 14 := hy.2
        have d1 : decide (0 ≤ y) = true := decide_eq_true hy.1
        have d2 : decide (y ≤ 14) = true := decide_eq_true hy.2
        have hcd := cat_diff hy.1 hy.2
        have hcb2 := cat_bd hy.1 hy.2
        have F12 := Lib.hid (fun W => countWordsI y y W)
        have F13 := Lib.hid (fun W => catalanNumberI y W)
        have hb3 := cwP_bd y y
        have HCD := Lib.hid hcd
        have hcn : ((cwP y y - cbP y) != catP y) = false := by simp [HCD.out]
        have hbb : -1000000000000 ≤ cbP y ∧ cbP y ≤ 1000000000000 := by omega
        clear hcd hy
        generalize cwP y y = e1 at *
        generalize cbP y = e2 at *
        generalize catP y = e3 at *
        go_wp2_with fail
        (with_reducible refine (F10.out _).mono ?_)
        rintro e w' ⟨rfl, rfl⟩
        go_wp2_with fail
        (with_reducible refine (F11.out _).mono ?_)
        rintro e w' ⟨rfl, rfl⟩
        go_wp2_with fail
        (with_reducible refine (F12.out _).mono ?_)
        rintro e w' ⟨rfl, rfl⟩
        go_wp2_with fail
        (with_reducible refine (F10.out _).mono ?_)
        rintro e w' ⟨rfl, rfl⟩
        go_wp2_with fail
        (with_reducible refine (F13.out _).mono ?_)
        rintro e w10 ⟨rfl, hb⟩
        have Hw10 := Lib.hid (Hw9.out.trans (hb.mono Hw9.out.size))
        clear hb
        have HC11 := Lib.hid (HC.out.carry Hw10.out)
        go_wp2_with fail
        (with_reducible refine (drawCountWithin A n cap _ HC11.out).mono ?_)
        rintro e w11 ⟨m, h, m0, m1, h0, h1, rfl, hb⟩
        have Hw11 := Lib.hid (Hw10.out.trans (hb.mono Hw10.out.size))
        clear hb
        have F14 := Lib.hid (fun W => countWithinI m h W)
        have F15 := Lib.hid (fun W => countWithin m h W)
        by_cases hw : 0 ≤ wiP m h
        · skip
          by_cases hm6 : m ≤ 6
          · skip
            have dc : decide (0 ≤ wiP m h) = true := decide_eq_true (by omega)
            have gc : 0 ≤ wiP m h := by omega
            have dm : decide (m ≤ 6) = true := decide_eq_true hm6
            have hh0 : 0 ≤ h := by
              by_cases q : 0 ≤ h
              · exact q
              · rw [show wiP m h = -1 from if_neg (by omega)] at gc; omega
            have HCNT := Lib.hid (within_count m0 hm6 (show 0 ≤ h ∧ h ≤ 15 by omega))
            have HPD := Lib.hid (paths_dyck (m := m))
            have F16 := Lib.hid (fun W => pathsOf m W)
            have hcc : (wiP m h != wiP m h) = false := by simp
            have HLE := Lib.hid (fun i => cntA_le ((pathsP m).map (fun x => x.data.toList)) h i)
            have hpl : (pathsP m).length ≤ 4096 := by
              unfold pathsP
              split
              · exact allF_small _ _ _ _ (by omega)
              · simp
            generalize wiP m h = c at *
            generalize pathsP m = ps at *
            go_wp2_with fail
            (with_reducible refine (F14.out _).mono ?_)
            rintro e w' ⟨rfl, rfl⟩
            go_wp2_with fail
            (with_reducible refine (F15.out _).mono ?_)
            rintro e w' ⟨rfl, rfl⟩
            go_wp2_with fail
            (with_reducible refine (F16.out _).mono ?_)
            rintro e w12 ⟨pv, rfl, ho, hb⟩
            obtain ⟨Ap, cp, rfl, -⟩ := id ho
            have HO := Lib.hid ho
            have hz12 := hb.size
            have Hw12 := Lib.hid (Hw11.out.trans (hb.mono Hw11.out.size))
            clear hb ho
            go_wp2
            go_loopw [22, 23] (fun a b wr => ∃ i : Nat, i ≤ ps.length ∧ b = .int .i64 i ∧ a = .int .i64 ((cntA (ps.map (fun x => x.data.toList)) h i : Nat) : Int) ∧ Below w12.heap.size w12 wr) (fun _ b _ => ps.length - (intOf b).toNat)
            case atStart => exact ⟨0, Nat.zero_le _, rfl, rfl, Below.refl _ _⟩
            case round =>
              obtain ⟨i, hi, rfl, rfl, hbl⟩ := hrel
              have HBL := Lib.hid hbl
              have hzl := hbl.size
              clear hbl
              have hle := HLE.out i
              by_cases hlt : i < ps.length
              · have hii : (i : Int) < (ps.length : Int) := by omega
                obtain ⟨g1, p1, e1, -, -, hcx, -⟩ := (HO.out.keep HBL.out (Nat.le_refl _)).cell hlt
                simp only [Value.slice.injEq] at e1
                obtain ⟨rfl, -, -⟩ := e1
                have HST := Lib.hid (fun W => HSTAT.out (ps.getD i E0) W (HPD.out _ (by rw [List.getD_eq_getElem?_getD, List.getElem?_eq_getElem hlt]; exact List.getElem_mem hlt)))
                have HS := Lib.hid (show cntA (ps.map (fun x => x.data.toList)) h (i + 1) = cntA (ps.map (fun x => x.data.toList)) h i + if dpA (ps.getD i E0).data.toList ≤ h then 1 else 0 by
                    have e2 : (ps.map (fun x => x.data.toList)).getD i [] = (ps.getD i E0).data.toList := by
                      rw [List.getD_eq_getElem?_getD, List.getD_eq_getElem?_getD, List.getElem?_map, List.getElem?_eq_getElem hlt]; rfl
                    rw [cntA, e2])
                generalize ps.getD i E0 = p at *
                generalize dpA p.data.toList = dp at *
                generalize cntA (ps.map (fun x => x.data.toList)) h i = ck at *
                go_wp2_with fail
                (with_reducible refine (HST.out _).mono ?_)
                rintro e w9 ⟨rfl, hb9⟩
                have HB9 := Lib.hid (HBL.out.trans (hb9.mono hzl))
                clear hb9
                by_cases hdh : dp ≤ h
                · have hE := Lib.hid (HS.out.trans (by rw [if_pos hdh]))
                  have ddh : decide (dp ≤ h) = true := decide_eq_true hdh
                  go_wp2
                  exact ⟨⟨i + 1, by omega, by simp, by rw [hE.out]; simp, HB9.out⟩, by simp [intOf]; omega⟩
                · have hE := Lib.hid (HS.out.trans (by rw [if_neg hdh, Nat.add_zero]))
                  have ddh : decide (dp ≤ h) = false := decide_eq_false hdh
                  go_wp2
                  exact ⟨⟨i + 1, by omega, by simp, by rw [hE.out], HB9.out⟩, by simp [intOf]; omega⟩
              · obtain rfl : i = ps.length := by omega
                have hii : ¬ (ps.length : Int) < (ps.length : Int) := by omega
                have HKC := Lib.hid HCNT.out
                have hkc : (((cntA (ps.map (fun x => x.data.toList)) h ps.length : Nat) : Int) != c) = false := by simp [HKC.out]
                generalize cntA (ps.map (fun x => x.data.toList)) h ps.length = ck at *
                have Hw13 := Lib.hid (Hw12.out.trans (HBL.out.mono Hw12.out.size))
                skip
                have HC14 := Lib.hid (HC.out.carry Hw13.out)
                go_wp2_with fail
                (with_reducible refine (drawCountWords A n cap _ HC14.out).mono ?_)
                rintro e w14 ⟨a, b, a0, a1, b0, b1, rfl, hb⟩
                have Hw14 := Lib.hid (Hw13.out.trans (hb.mono Hw13.out.size))
                clear hb
                have HC15 := Lib.hid (HC.out.carry Hw14.out)
                go_wp2_with fail
                (with_reducible refine (drawBallotByReflection A n cap _ HC15.out).mono ?_)
                rintro e w15 ⟨d, e', d0, d1, e0, e1, rfl, hb⟩
                have Hw15 := Lib.hid (Hw14.out.trans (hb.mono Hw14.out.size))
                clear hb
                have F17 := Lib.hid (fun W => countWordsI a b W)
                have F18 := Lib.hid (fun W => countWords a b W)
                have F19 := Lib.hid (fun W => ballotByReflectionI d e' W)
                have F20 := Lib.hid (fun W => ballotByReflection d e' W)
                generalize cwP a b = z1 at *
                generalize blrP d e' = z2 at *
                go_wp2_with fail
                (with_reducible refine (F17.out _).mono ?_)
                rintro e w' ⟨rfl, rfl⟩
                go_wp2_with fail
                (with_reducible refine (F18.out _).mono ?_)
                rintro e w' ⟨rfl, rfl⟩
                go_wp2_with fail
                (with_reducible refine (F19.out _).mono ?_)
                rintro e w' ⟨rfl, rfl⟩
                go_wp2_with fail
                (with_reducible refine (F20.out _).mono ?_)
                rintro e w' ⟨rfl, rfl⟩
                go_wp2
                go_ret
                exact ⟨by simp, Hw15.out⟩
          · skip
            have dc : decide (0 ≤ wiP m h) = true := decide_eq_true (by omega)
            have gc : 0 ≤ wiP m h := by omega
            have dm : decide (m ≤ 6) = false := decide_eq_false hm6
            generalize wiP m h = c at *
            have hcc : (c != c) = false := by simp
            go_wp2_with fail
            (with_reducible refine (F14.out _).mono ?_)
            rintro e w' ⟨rfl, rfl⟩
            go_wp2_with fail
            (with_reducible refine (F15.out _).mono ?_)
            rintro e w' ⟨rfl, rfl⟩
            have HC12 := Lib.hid (HC.out.carry Hw11.out)
            go_wp2_with fail
            (with_reducible refine (drawCountWords A n cap _ HC12.out).mono ?_)
            rintro e w12 ⟨a, b, a0, a1, b0, b1, rfl, hb⟩
            have Hw12 := Lib.hid (Hw11.out.trans (hb.mono Hw11.out.size))
            clear hb
            have HC13 := Lib.hid (HC.out.carry Hw12.out)
            go_wp2_with fail
            (with_reducible refine (drawBallotByReflection A n cap _ HC13.out).mono ?_)
            rintro e w13 ⟨d, e', d0, d1, e0, e1, rfl, hb⟩
            have Hw13 := Lib.hid (Hw12.out.trans (hb.mono Hw12.out.size))
            clear hb
            have F17 := Lib.hid (fun W => countWordsI a b W)
            have F18 := Lib.hid (fun W => countWords a b W)
            have F19 := Lib.hid (fun W => ballotByReflectionI d e' W)
            have F20 := Lib.hid (fun W => ballotByReflection d e' W)
            generalize cwP a b = z1 at *
            generalize blrP d e' = z2 at *
            go_wp2_with fail
            (with_reducible refine (F17.out _).mono ?_)
            rintro e w' ⟨rfl, rfl⟩
            go_wp2_with fail
            (with_reducible refine (F18.out _).mono ?_)
            rintro e w' ⟨rfl, rfl⟩
            go_wp2_with fail
            (with_reducible refine (F19.out _).mono ?_)
            rintro e w' ⟨rfl, rfl⟩
            go_wp2_with fail
            (with_reducible refine (F20.out _).mono ?_)
            rintro e w' ⟨rfl, rfl⟩
            go_wp2
            go_ret
            exact ⟨by simp, Hw13.out⟩
        · skip
          have dc : decide (0 ≤ wiP m h) = false := decide_eq_false hw
          generalize wiP m h = c at *
          have hcc : (c != c) = false := by simp
          go_wp2_with fail
          (with_reducible refine (F14.out _).mono ?_)
          rintro e w' ⟨rfl, rfl⟩
          go_wp2_with fail
          (with_reducible refine (F15.out _).mono ?_)
          rintro e w' ⟨rfl, rfl⟩
          have HC12 := Lib.hid (HC.out.carry Hw11.out)
          go_wp2_with fail
          (with_reducible refine (drawCountWords A n cap _ HC12.out).mono ?_)
          rintro e w12 ⟨a, b, a0, a1, b0, b1, rfl, hb⟩
          have Hw12 := Lib.hid (Hw11.out.trans (hb.mono Hw11.out.size))
          clear hb
          have HC13 := Lib.hid (HC.out.carry Hw12.out)
          go_wp2_with fail
          (with_reducible refine (drawBallotByReflection A n cap _ HC13.out).mono ?_)
          rintro e w13 ⟨d, e', d0, d1, e0, e1, rfl, hb⟩
          have Hw13 := Lib.hid (Hw12.out.trans (hb.mono Hw12.out.size))
          clear hb
          have F17 := Lib.hid (fun W => countWordsI a b W)
          have F18 := Lib.hid (fun W => countWords a b W)
          have F19 := Lib.hid (fun W => ballotByReflectionI d e' W)
          have F20 := Lib.hid (fun W => ballotByReflection d e' W)
          generalize cwP a b = z1 at *
          generalize blrP d e' = z2 at *
          go_wp2_with fail
          (with_reducible refine (F17.out _).mono ?_)
          rintro e w' ⟨rfl, rfl⟩
          go_wp2_with fail
          (with_reducible refine (F18.out _).mono ?_)
          rintro e w' ⟨rfl, rfl⟩
          go_wp2_with fail
          (with_reducible refine (F19.out _).mono ?_)
          rintro e w' ⟨rfl, rfl⟩
          go_wp2_with fail
          (with_reducible refine (F20.out _).mono ?_)
          rintro e w' ⟨rfl, rfl⟩
          go_wp2
          go_ret
          exact ⟨by simp, Hw13.out⟩
      · skip
        have d1 : (decide (0 ≤ y) && decide (y ≤ 14)) = false := by rw [Bool.and_eq_false_iff, decide_eq_false_iff_not, decide_eq_false_iff_not]; omega
        generalize cbP y = e2 at *
        clear hcb
        by_cases hy0 : y < 0
        · skip
          have d0 : decide (0 ≤ y) = false := decide_eq_false (by omega)
          have g0 : ¬ 0 ≤ y := by omega
          have hcb : (e2 != e2) = false := by simp
          clear hy d1
          go_wp2_with fail
          (with_reducible refine (F10.out _).mono ?_)
          rintro e w' ⟨rfl, rfl⟩
          go_wp2_with fail
          (with_reducible refine (F11.out _).mono ?_)
          rintro e w' ⟨rfl, rfl⟩
          have HC10 := Lib.hid (HC.out.carry Hw9.out)
          go_wp2_with fail
          (with_reducible refine (drawCountWithin A n cap _ HC10.out).mono ?_)
          rintro e w10 ⟨m, h, m0, m1, h0, h1, rfl, hb⟩
          have Hw10 := Lib.hid (Hw9.out.trans (hb.mono Hw9.out.size))
          clear hb
          have F14 := Lib.hid (fun W => countWithinI m h W)
          have F15 := Lib.hid (fun W => countWithin m h W)
          by_cases hw : 0 ≤ wiP m h
          · skip
            by_cases hm6 : m ≤ 6
            · skip
              have dc : decide (0 ≤ wiP m h) = true := decide_eq_true (by omega)
              have gc : 0 ≤ wiP m h := by omega
              have dm : decide (m ≤ 6) = true := decide_eq_true hm6
              have hh0 : 0 ≤ h := by
                by_cases q : 0 ≤ h
                · exact q
                · rw [show wiP m h = -1 from if_neg (by omega)] at gc; omega
              have HCNT := Lib.hid (within_count m0 hm6 (show 0 ≤ h ∧ h ≤ 15 by omega))
              have HPD := Lib.hid (paths_dyck (m := m))
              have F16 := Lib.hid (fun W => pathsOf m W)
              have hcc : (wiP m h != wiP m h) = false := by simp
              have HLE := Lib.hid (fun i => cntA_le ((pathsP m).map (fun x => x.data.toList)) h i)
              have hpl : (pathsP m).length ≤ 4096 := by
                unfold pathsP
                split
                · exact allF_small _ _ _ _ (by omega)
                · simp
              generalize wiP m h = c at *
              generalize pathsP m = ps at *
              go_wp2_with fail
              (with_reducible refine (F14.out _).mono ?_)
              rintro e w' ⟨rfl, rfl⟩
              go_wp2_with fail
              (with_reducible refine (F15.out _).mono ?_)
              rintro e w' ⟨rfl, rfl⟩
              go_wp2_with fail
              (with_reducible refine (F16.out _).mono ?_)
              rintro e w11 ⟨pv, rfl, ho, hb⟩
              obtain ⟨Ap, cp, rfl, -⟩ := id ho
              have HO := Lib.hid ho
              have hz11 := hb.size
              have Hw11 := Lib.hid (Hw10.out.trans (hb.mono Hw10.out.size))
              clear hb ho
              go_wp2
              go_loopw [22, 23] (fun a b wr => ∃ i : Nat, i ≤ ps.length ∧ b = .int .i64 i ∧ a = .int .i64 ((cntA (ps.map (fun x => x.data.toList)) h i : Nat) : Int) ∧ Below w11.heap.size w11 wr) (fun _ b _ => ps.length - (intOf b).toNat)
              case atStart => exact ⟨0, Nat.zero_le _, rfl, rfl, Below.refl _ _⟩
              case round =>
                obtain ⟨i, hi, rfl, rfl, hbl⟩ := hrel
                have HBL := Lib.hid hbl
                have hzl := hbl.size
                clear hbl
                have hle := HLE.out i
                by_cases hlt : i < ps.length
                · have hii : (i : Int) < (ps.length : Int) := by omega
                  obtain ⟨g1, p1, e1, -, -, hcx, -⟩ := (HO.out.keep HBL.out (Nat.le_refl _)).cell hlt
                  simp only [Value.slice.injEq] at e1
                  obtain ⟨rfl, -, -⟩ := e1
                  have HST := Lib.hid (fun W => HSTAT.out (ps.getD i E0) W (HPD.out _ (by rw [List.getD_eq_getElem?_getD, List.getElem?_eq_getElem hlt]; exact List.getElem_mem hlt)))
                  have HS := Lib.hid (show cntA (ps.map (fun x => x.data.toList)) h (i + 1) = cntA (ps.map (fun x => x.data.toList)) h i + if dpA (ps.getD i E0).data.toList ≤ h then 1 else 0 by
                      have e2 : (ps.map (fun x => x.data.toList)).getD i [] = (ps.getD i E0).data.toList := by
                        rw [List.getD_eq_getElem?_getD, List.getD_eq_getElem?_getD, List.getElem?_map, List.getElem?_eq_getElem hlt]; rfl
                      rw [cntA, e2])
                  generalize ps.getD i E0 = p at *
                  generalize dpA p.data.toList = dp at *
                  generalize cntA (ps.map (fun x => x.data.toList)) h i = ck at *
                  go_wp2_with fail
                  (with_reducible refine (HST.out _).mono ?_)
                  rintro e w9 ⟨rfl, hb9⟩
                  have HB9 := Lib.hid (HBL.out.trans (hb9.mono hzl))
                  clear hb9
                  by_cases hdh : dp ≤ h
                  · have hE := Lib.hid (HS.out.trans (by rw [if_pos hdh]))
                    have ddh : decide (dp ≤ h) = true := decide_eq_true hdh
                    go_wp2
                    exact ⟨⟨i + 1, by omega, by simp, by rw [hE.out]; simp, HB9.out⟩, by simp [intOf]; omega⟩
                  · have hE := Lib.hid (HS.out.trans (by rw [if_neg hdh, Nat.add_zero]))
                    have ddh : decide (dp ≤ h) = false := decide_eq_false hdh
                    go_wp2
                    exact ⟨⟨i + 1, by omega, by simp, by rw [hE.out], HB9.out⟩, by simp [intOf]; omega⟩
                · obtain rfl : i = ps.length := by omega
                  have hii : ¬ (ps.length : Int) < (ps.length : Int) := by omega
                  have HKC := Lib.hid HCNT.out
                  have hkc : (((cntA (ps.map (fun x => x.data.toList)) h ps.length : Nat) : Int) != c) = false := by simp [HKC.out]
                  generalize cntA (ps.map (fun x => x.data.toList)) h ps.length = ck at *
                  have Hw12 := Lib.hid (Hw11.out.trans (HBL.out.mono Hw11.out.size))
                  skip
                  have HC13 := Lib.hid (HC.out.carry Hw12.out)
                  go_wp2_with fail
                  (with_reducible refine (drawCountWords A n cap _ HC13.out).mono ?_)
                  rintro e w13 ⟨a, b, a0, a1, b0, b1, rfl, hb⟩
                  have Hw13 := Lib.hid (Hw12.out.trans (hb.mono Hw12.out.size))
                  clear hb
                  have HC14 := Lib.hid (HC.out.carry Hw13.out)
                  go_wp2_with fail
                  (with_reducible refine (drawBallotByReflection A n cap _ HC14.out).mono ?_)
                  rintro e w14 ⟨d, e', d0, d1, e0, e1, rfl, hb⟩
                  have Hw14 := Lib.hid (Hw13.out.trans (hb.mono Hw13.out.size))
                  clear hb
                  have F17 := Lib.hid (fun W => countWordsI a b W)
                  have F18 := Lib.hid (fun W => countWords a b W)
                  have F19 := Lib.hid (fun W => ballotByReflectionI d e' W)
                  have F20 := Lib.hid (fun W => ballotByReflection d e' W)
                  generalize cwP a b = z1 at *
                  generalize blrP d e' = z2 at *
                  go_wp2_with fail
                  (with_reducible refine (F17.out _).mono ?_)
                  rintro e w' ⟨rfl, rfl⟩
                  go_wp2_with fail
                  (with_reducible refine (F18.out _).mono ?_)
                  rintro e w' ⟨rfl, rfl⟩
                  go_wp2_with fail
                  (with_reducible refine (F19.out _).mono ?_)
                  rintro e w' ⟨rfl, rfl⟩
                  go_wp2_with fail
                  (with_reducible refine (F20.out _).mono ?_)
                  rintro e w' ⟨rfl, rfl⟩
                  go_wp2
                  go_ret
                  exact ⟨by simp, Hw14.out⟩
            · skip
              have dc : decide (0 ≤ wiP m h) = true := decide_eq_true (by omega)
              have gc : 0 ≤ wiP m h := by omega
              have dm : decide (m ≤ 6) = false := decide_eq_false hm6
              generalize wiP m h = c at *
              have hcc : (c != c) = false := by simp
              go_wp2_with fail
              (with_reducible refine (F14.out _).mono ?_)
              rintro e w' ⟨rfl, rfl⟩
              go_wp2_with fail
              (with_reducible refine (F15.out _).mono ?_)
              rintro e w' ⟨rfl, rfl⟩
              have HC11 := Lib.hid (HC.out.carry Hw10.out)
              go_wp2_with fail
              (with_reducible refine (drawCountWords A n cap _ HC11.out).mono ?_)
              rintro e w11 ⟨a, b, a0, a1, b0, b1, rfl, hb⟩
              have Hw11 := Lib.hid (Hw10.out.trans (hb.mono Hw10.out.size))
              clear hb
              have HC12 := Lib.hid (HC.out.carry Hw11.out)
              go_wp2_with fail
              (with_reducible refine (drawBallotByReflection A n cap _ HC12.out).mono ?_)
              rintro e w12 ⟨d, e', d0, d1, e0, e1, rfl, hb⟩
              have Hw12 := Lib.hid (Hw11.out.trans (hb.mono Hw11.out.size))
              clear hb
              have F17 := Lib.hid (fun W => countWordsI a b W)
              have F18 := Lib.hid (fun W => countWords a b W)
              have F19 := Lib.hid (fun W => ballotByReflectionI d e' W)
              have F20 := Lib.hid (fun W => ballotByReflection d e' W)
              generalize cwP a b = z1 at *
              generalize blrP d e' = z2 at *
              go_wp2_with fail
              (with_reducible refine (F17.out _).mono ?_)
              rintro e w' ⟨rfl, rfl⟩
              go_wp2_with fail
              (with_reducible refine (F18.out _).mono ?_)
              rintro e w' ⟨rfl, rfl⟩
              go_wp2_with fail
              (with_reducible refine (F19.out _).mono ?_)
              rintro e w' ⟨rfl, rfl⟩
              go_wp2_with fail
              (with_reducible refine (F20.out _).mono ?_)
              rintro e w' ⟨rfl, rfl⟩
              go_wp2
              go_ret
              exact ⟨by simp, Hw12.out⟩
          · skip
            have dc : decide (0 ≤ wiP m h) = false := decide_eq_false hw
            generalize wiP m h = c at *
            have hcc : (c != c) = false := by simp
            go_wp2_with fail
            (with_reducible refine (F14.out _).mono ?_)
            rintro e w' ⟨rfl, rfl⟩
            go_wp2_with fail
            (with_reducible refine (F15.out _).mono ?_)
            rintro e w' ⟨rfl, rfl⟩
            have HC11 := Lib.hid (HC.out.carry Hw10.out)
            go_wp2_with fail
            (with_reducible refine (drawCountWords A n cap _ HC11.out).mono ?_)
            rintro e w11 ⟨a, b, a0, a1, b0, b1, rfl, hb⟩
            have Hw11 := Lib.hid (Hw10.out.trans (hb.mono Hw10.out.size))
            clear hb
            have HC12 := Lib.hid (HC.out.carry Hw11.out)
            go_wp2_with fail
            (with_reducible refine (drawBallotByReflection A n cap _ HC12.out).mono ?_)
            rintro e w12 ⟨d, e', d0, d1, e0, e1, rfl, hb⟩
            have Hw12 := Lib.hid (Hw11.out.trans (hb.mono Hw11.out.size))
            clear hb
            have F17 := Lib.hid (fun W => countWordsI a b W)
            have F18 := Lib.hid (fun W => countWords a b W)
            have F19 := Lib.hid (fun W => ballotByReflectionI d e' W)
            have F20 := Lib.hid (fun W => ballotByReflection d e' W)
            generalize cwP a b = z1 at *
            generalize blrP d e' = z2 at *
            go_wp2_with fail
            (with_reducible refine (F17.out _).mono ?_)
            rintro e w' ⟨rfl, rfl⟩
            go_wp2_with fail
            (with_reducible refine (F18.out _).mono ?_)
            rintro e w' ⟨rfl, rfl⟩
            go_wp2_with fail
            (with_reducible refine (F19.out _).mono ?_)
            rintro e w' ⟨rfl, rfl⟩
            go_wp2_with fail
            (with_reducible refine (F20.out _).mono ?_)
            rintro e w' ⟨rfl, rfl⟩
            go_wp2
            go_ret
            exact ⟨by simp, Hw12.out⟩
        · skip
          have g0 : 0 ≤ y := by omega
          have d0 : decide (0 ≤ y) = true := decide_eq_true g0
          have g3 : ¬ y ≤ 14 := by omega
          have d3 : decide (y ≤ 14) = false := decide_eq_false g3
          have hcb : (e2 != e2) = false := by simp
          clear hy d1
          go_wp2_with fail
          (with_reducible refine (F10.out _).mono ?_)
          rintro e w' ⟨rfl, rfl⟩
          go_wp2_with fail
          (with_reducible refine (F11.out _).mono ?_)
          rintro e w' ⟨rfl, rfl⟩
          have HC10 := Lib.hid (HC.out.carry Hw9.out)
          go_wp2_with fail
          (with_reducible refine (drawCountWithin A n cap _ HC10.out).mono ?_)
          rintro e w10 ⟨m, h, m0, m1, h0, h1, rfl, hb⟩
          have Hw10 := Lib.hid (Hw9.out.trans (hb.mono Hw9.out.size))
          clear hb
          have F14 := Lib.hid (fun W => countWithinI m h W)
          have F15 := Lib.hid (fun W => countWithin m h W)
          by_cases hw : 0 ≤ wiP m h
          · skip
            by_cases hm6 : m ≤ 6
            · skip
              have dc : decide (0 ≤ wiP m h) = true := decide_eq_true (by omega)
              have gc : 0 ≤ wiP m h := by omega
              have dm : decide (m ≤ 6) = true := decide_eq_true hm6
              have hh0 : 0 ≤ h := by
                by_cases q : 0 ≤ h
                · exact q
                · rw [show wiP m h = -1 from if_neg (by omega)] at gc; omega
              have HCNT := Lib.hid (within_count m0 hm6 (show 0 ≤ h ∧ h ≤ 15 by omega))
              have HPD := Lib.hid (paths_dyck (m := m))
              have F16 := Lib.hid (fun W => pathsOf m W)
              have hcc : (wiP m h != wiP m h) = false := by simp
              have HLE := Lib.hid (fun i => cntA_le ((pathsP m).map (fun x => x.data.toList)) h i)
              have hpl : (pathsP m).length ≤ 4096 := by
                unfold pathsP
                split
                · exact allF_small _ _ _ _ (by omega)
                · simp
              generalize wiP m h = c at *
              generalize pathsP m = ps at *
              go_wp2_with fail
              (with_reducible refine (F14.out _).mono ?_)
              rintro e w' ⟨rfl, rfl⟩
              go_wp2_with fail
              (with_reducible refine (F15.out _).mono ?_)
              rintro e w' ⟨rfl, rfl⟩
              go_wp2_with fail
              (with_reducible refine (F16.out _).mono ?_)
              rintro e w11 ⟨pv, rfl, ho, hb⟩
              obtain ⟨Ap, cp, rfl, -⟩ := id ho
              have HO := Lib.hid ho
              have hz11 := hb.size
              have Hw11 := Lib.hid (Hw10.out.trans (hb.mono Hw10.out.size))
              clear hb ho
              go_wp2
              go_loopw [22, 23] (fun a b wr => ∃ i : Nat, i ≤ ps.length ∧ b = .int .i64 i ∧ a = .int .i64 ((cntA (ps.map (fun x => x.data.toList)) h i : Nat) : Int) ∧ Below w11.heap.size w11 wr) (fun _ b _ => ps.length - (intOf b).toNat)
              case atStart => exact ⟨0, Nat.zero_le _, rfl, rfl, Below.refl _ _⟩
              case round =>
                obtain ⟨i, hi, rfl, rfl, hbl⟩ := hrel
                have HBL := Lib.hid hbl
                have hzl := hbl.size
                clear hbl
                have hle := HLE.out i
                by_cases hlt : i < ps.length
                · have hii : (i : Int) < (ps.length : Int) := by omega
                  obtain ⟨g1, p1, e1, -, -, hcx, -⟩ := (HO.out.keep HBL.out (Nat.le_refl _)).cell hlt
                  simp only [Value.slice.injEq] at e1
                  obtain ⟨rfl, -, -⟩ := e1
                  have HST := Lib.hid (fun W => HSTAT.out (ps.getD i E0) W (HPD.out _ (by rw [List.getD_eq_getElem?_getD, List.getElem?_eq_getElem hlt]; exact List.getElem_mem hlt)))
                  have HS := Lib.hid (show cntA (ps.map (fun x => x.data.toList)) h (i + 1) = cntA (ps.map (fun x => x.data.toList)) h i + if dpA (ps.getD i E0).data.toList ≤ h then 1 else 0 by
                      have e2 : (ps.map (fun x => x.data.toList)).getD i [] = (ps.getD i E0).data.toList := by
                        rw [List.getD_eq_getElem?_getD, List.getD_eq_getElem?_getD, List.getElem?_map, List.getElem?_eq_getElem hlt]; rfl
                      rw [cntA, e2])
                  generalize ps.getD i E0 = p at *
                  generalize dpA p.data.toList = dp at *
                  generalize cntA (ps.map (fun x => x.data.toList)) h i = ck at *
                  go_wp2_with fail
                  (with_reducible refine (HST.out _).mono ?_)
                  rintro e w9 ⟨rfl, hb9⟩
                  have HB9 := Lib.hid (HBL.out.trans (hb9.mono hzl))
                  clear hb9
                  by_cases hdh : dp ≤ h
                  · have hE := Lib.hid (HS.out.trans (by rw [if_pos hdh]))
                    have ddh : decide (dp ≤ h) = true := decide_eq_true hdh
                    go_wp2
                    exact ⟨⟨i + 1, by omega, by simp, by rw [hE.out]; simp, HB9.out⟩, by simp [intOf]; omega⟩
                  · have hE := Lib.hid (HS.out.trans (by rw [if_neg hdh, Nat.add_zero]))
                    have ddh : decide (dp ≤ h) = false := decide_eq_false hdh
                    go_wp2
                    exact ⟨⟨i + 1, by omega, by simp, by rw [hE.out], HB9.out⟩, by simp [intOf]; omega⟩
                · obtain rfl : i = ps.length := by omega
                  have hii : ¬ (ps.length : Int) < (ps.length : Int) := by omega
                  have HKC := Lib.hid HCNT.out
                  have hkc : (((cntA (ps.map (fun x => x.data.toList)) h ps.length : Nat) : Int) != c) = false := by simp [HKC.out]
                  generalize cntA (ps.map (fun x => x.data.toList)) h ps.length = ck at *
                  have Hw12 := Lib.hid (Hw11.out.trans (HBL.out.mono Hw11.out.size))
                  skip
                  have HC13 := Lib.hid (HC.out.carry Hw12.out)
                  go_wp2_with fail
                  (with_reducible refine (drawCountWords A n cap _ HC13.out).mono ?_)
                  rintro e w13 ⟨a, b, a0, a1, b0, b1, rfl, hb⟩
                  have Hw13 := Lib.hid (Hw12.out.trans (hb.mono Hw12.out.size))
                  clear hb
                  have HC14 := Lib.hid (HC.out.carry Hw13.out)
                  go_wp2_with fail
                  (with_reducible refine (drawBallotByReflection A n cap _ HC14.out).mono ?_)
                  rintro e w14 ⟨d, e', d0, d1, e0, e1, rfl, hb⟩
                  have Hw14 := Lib.hid (Hw13.out.trans (hb.mono Hw13.out.size))
                  clear hb
                  have F17 := Lib.hid (fun W => countWordsI a b W)
                  have F18 := Lib.hid (fun W => countWords a b W)
                  have F19 := Lib.hid (fun W => ballotByReflectionI d e' W)
                  have F20 := Lib.hid (fun W => ballotByReflection d e' W)
                  generalize cwP a b = z1 at *
                  generalize blrP d e' = z2 at *
                  go_wp2_with fail
                  (with_reducible refine (F17.out _).mono ?_)
                  rintro e w' ⟨rfl, rfl⟩
                  go_wp2_with fail
                  (with_reducible refine (F18.out _).mono ?_)
                  rintro e w' ⟨rfl, rfl⟩
                  go_wp2_with fail
                  (with_reducible refine (F19.out _).mono ?_)
                  rintro e w' ⟨rfl, rfl⟩
                  go_wp2_with fail
                  (with_reducible refine (F20.out _).mono ?_)
                  rintro e w' ⟨rfl, rfl⟩
                  go_wp2
                  go_ret
                  exact ⟨by simp, Hw14.out⟩
            · skip
              have dc : decide (0 ≤ wiP m h) = true := decide_eq_true (by omega)
              have gc : 0 ≤ wiP m h := by omega
              have dm : decide (m ≤ 6) = false := decide_eq_false hm6
              generalize wiP m h = c at *
              have hcc : (c != c) = false := by simp
              go_wp2_with fail
              (with_reducible refine (F14.out _).mono ?_)
              rintro e w' ⟨rfl, rfl⟩
              go_wp2_with fail
              (with_reducible refine (F15.out _).mono ?_)
              rintro e w' ⟨rfl, rfl⟩
              have HC11 := Lib.hid (HC.out.carry Hw10.out)
              go_wp2_with fail
              (with_reducible refine (drawCountWords A n cap _ HC11.out).mono ?_)
              rintro e w11 ⟨a, b, a0, a1, b0, b1, rfl, hb⟩
              have Hw11 := Lib.hid (Hw10.out.trans (hb.mono Hw10.out.size))
              clear hb
              have HC12 := Lib.hid (HC.out.carry Hw11.out)
              go_wp2_with fail
              (with_reducible refine (drawBallotByReflection A n cap _ HC12.out).mono ?_)
              rintro e w12 ⟨d, e', d0, d1, e0, e1, rfl, hb⟩
              have Hw12 := Lib.hid (Hw11.out.trans (hb.mono Hw11.out.size))
              clear hb
              have F17 := Lib.hid (fun W => countWordsI a b W)
              have F18 := Lib.hid (fun W => countWords a b W)
              have F19 := Lib.hid (fun W => ballotByReflectionI d e' W)
              have F20 := Lib.hid (fun W => ballotByReflection d e' W)
              generalize cwP a b = z1 at *
              generalize blrP d e' = z2 at *
              go_wp2_with fail
              (with_reducible refine (F17.out _).mono ?_)
              rintro e w' ⟨rfl, rfl⟩
              go_wp2_with fail
              (with_reducible refine (F18.out _).mono ?_)
              rintro e w' ⟨rfl, rfl⟩
              go_wp2_with fail
              (with_reducible refine (F19.out _).mono ?_)
              rintro e w' ⟨rfl, rfl⟩
              go_wp2_with fail
              (with_reducible refine (F20.out _).mono ?_)
              rintro e w' ⟨rfl, rfl⟩
              go_wp2
              go_ret
              exact ⟨by simp, Hw12.out⟩
          · skip
            have dc : decide (0 ≤ wiP m h) = false := decide_eq_false hw
            generalize wiP m h = c at *
            have hcc : (c != c) = false := by simp
            go_wp2_with fail
            (with_reducible refine (F14.out _).mono ?_)
            rintro e w' ⟨rfl, rfl⟩
            go_wp2_with fail
            (with_reducible refine (F15.out _).mono ?_)
            rintro e w' ⟨rfl, rfl⟩
            have HC11 := Lib.hid (HC.out.carry Hw10.out)
            go_wp2_with fail
            (with_reducible refine (drawCountWords A n cap _ HC11.out).mono ?_)
            rintro e w11 ⟨a, b, a0, a1, b0, b1, rfl, hb⟩
            have Hw11 := Lib.hid (Hw10.out.trans (hb.mono Hw10.out.size))
            clear hb
            have HC12 := Lib.hid (HC.out.carry Hw11.out)
            go_wp2_with fail
            (with_reducible refine (drawBallotByReflection A n cap _ HC12.out).mono ?_)
            rintro e w12 ⟨d, e', d0, d1, e0, e1, rfl, hb⟩
            have Hw12 := Lib.hid (Hw11.out.trans (hb.mono Hw11.out.size))
            clear hb
            have F17 := Lib.hid (fun W => countWordsI a b W)
            have F18 := Lib.hid (fun W => countWords a b W)
            have F19 := Lib.hid (fun W => ballotByReflectionI d e' W)
            have F20 := Lib.hid (fun W => ballotByReflection d e' W)
            generalize cwP a b = z1 at *
            generalize blrP d e' = z2 at *
            go_wp2_with fail
            (with_reducible refine (F17.out _).mono ?_)
            rintro e w' ⟨rfl, rfl⟩
            go_wp2_with fail
            (with_reducible refine (F18.out _).mono ?_)
            rintro e w' ⟨rfl, rfl⟩
            go_wp2_with fail
            (with_reducible refine (F19.out _).mono ?_)
            rintro e w' ⟨rfl, rfl⟩
            go_wp2_with fail
            (with_reducible refine (F20.out _).mono ?_)
            rintro e w' ⟨rfl, rfl⟩
            go_wp2
            go_ret
            exact ⟨by simp, Hw12.out⟩

end Go.Proofs.YtpggglcjocnjlaaGreat
