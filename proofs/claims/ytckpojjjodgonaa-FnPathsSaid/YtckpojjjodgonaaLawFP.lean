/- The walk of the law FnPaths: one contract a call. -/
import Derived.Test.YtckpojjjodgonaaPackP
import Derived.Test.YtckpojjjodgonaaSame
namespace Go.Proofs.Ytckpojjjodgonaa
open Go.ChangeShapes Go.WideShapes Go.ChangeAt Go.RowKit
set_option linter.unusedVariables false

theorem Code.carry {w w' : World} {A : Option Addr} {n : Nat} (h : Code w w.heap.size A n) (hb : Below w.heap.size w w') : Code w' w'.heap.size A n := by
  have h1 := h.keep hb.block
  refine ⟨h1.1, fun j hj => ?_⟩
  obtain ⟨b, off, z, e1, e2, e3⟩ := h1.2 j hj
  exact ⟨b, off, z, e1, Nat.lt_of_lt_of_le e2 hb.size, e3⟩
theorem catS_step (ps : List ByteArray) (j : Nat) (h : j < ps.length) : catS (ps.take (j + 1)) = catS (ps.take j) ++ ps.getD j E0 := by
  unfold catS
  rw [List.take_add_one, List.getElem?_eq_getElem h, List.foldl_append]
  simp [List.getD, h]
theorem mem_getD (ps : List ByteArray) (j : Nat) (h : j < ps.length) : ps.getD j E0 ∈ ps := by
  rw [List.getD_eq_getElem?_getD, List.getElem?_eq_getElem h]; exact List.getElem_mem h

set_option maxRecDepth 100000 in
set_option maxHeartbeats 25600000 in
theorem paths_walk (A : Option Addr) (n cap : Nat) (w : World) (hM : MaxInt w) (hc : n ≤ 1048576 → Code w w.heap.size A n) :
    Calls Try.prog 3 #[.slice A n cap] w fun e w' => e = .returned (.bool true) ∧ Below w.heap.size w w' := by
  by_cases hbig : 1048576 < n
  · have hd : decide (1048576 < n) = true := by simpa using hbig
    clear hc
    go_enter Try.func3, Try.ntmps3
    go_wp2_with fail
    (with_reducible refine (bigC A n cap _).mono ?_)
    rintro e w1 ⟨rfl, rfl⟩
    go_wp2
    go_ret
    exact ⟨rfl, Below.refl _ _⟩
  have hdn : decide (1048576 < n) = false := by simpa using hbig
  have HC := Lib.hid (hc (by omega))
  have HM := Lib.hid hM
  clear hc hM hbig
  go_enter Try.func3, Try.ntmps3
  go_wp2_with fail
  (with_reducible refine (bigC A n cap _).mono ?_)
  rintro e w0 ⟨rfl, rfl⟩
  go_wp2_with fail
  (with_reducible refine (drawHeights A n cap _ HC.out).mono ?_)
  rintro e w1 ⟨s, hword, rfl, hb⟩
  have hz18 := hword.size
  have z1 := hb.size
  have Hw1 := Lib.hid hb
  clear hb
  rcases hd : dyck s with _ | _
  · obtain ⟨z, k, r, x, ek, er, ex, fSZI, fSZ, fPKI, fPK, fRI, fR, fAI, fA⟩ := pkAll s (by omega)
    obtain ⟨fII, fIS, fFI, fF, fVI, fV, fPI, fPS, fHI, fHS, fPoh⟩ := pkNone s (by omega) hd
    obtain ⟨ps, hps⟩ : ∃ ps : List ByteArray, ps = [] := ⟨_, rfl⟩
    obtain ⟨hs, hhs⟩ : ∃ hs : List Int, hs = [] := ⟨_, rfl⟩
    have hpl : ps.length ≤ 1000 := by subst hps; simp
    have hhl : hs.length ≤ 1000 := by subst hhs; simp
    have fOne : ∀ p ∈ ps, Gv 29 #[.string p] (.int .i64 1) ∧ p.size ≤ 16 := by subst hps; intro p hp; cases hp
    rw [← hps] at fPI fPS
    rw [← hhs] at fHI fHS fPoh
    clear hps hhs
    have hss : (s.toList != s.toList) = false := by simp
    have hkk : (k != k) = false := by simp
    have hzz : (z != z) = false := by simp
    have hxx0 : (x != x) = false := by simp
    have HfSZI := Lib.hid fSZI
    have HfSZ := Lib.hid fSZ
    have HfPKI := Lib.hid fPKI
    have HfPK := Lib.hid fPK
    have HfRI := Lib.hid fRI
    have HfR := Lib.hid fR
    have HfAI := Lib.hid fAI
    have HfA := Lib.hid fA
    have HfII := Lib.hid fII
    have HfIS := Lib.hid fIS
    have HfVI := Lib.hid fVI
    have HfV := Lib.hid fV
    have HfPI := Lib.hid fPI
    have HfPS := Lib.hid fPS
    have HfOne := Lib.hid fOne
    have HfHI := Lib.hid fHI
    have HfHS := Lib.hid fHS
    have HfPoh := Lib.hid fPoh
    have HfFI := Lib.hid fFI
    have HfF := Lib.hid fF
    clear ek er ex fSZI fSZ fPKI fPK fRI fR fAI fA fII fIS fVI fV fPI fPS fOne fHI fHS fPoh fFI fF
    go_wp2_with fail
    (with_reducible refine (HfHI.out _).mono ?_)
    rintro e w2 ⟨v2, rfl, ho, hb⟩
    have z2 := hb.size
    obtain ⟨A2, c2, rfl, -⟩ := id ho
    have Q1 := Lib.hid ho
    have Hw2 := Lib.hid (Hw1.out.trans (hb.mono Hw1.out.size))
    clear hb ho
    go_wp2_with fail
    (with_reducible refine (HfPoh.out _ _ _ _ Q1.out (Nat.le_refl _)).mono ?_)
    rintro e w3 ⟨rfl, hb⟩
    have z3 := hb.size
    have Q1_3 := Lib.hid (Q1.out.keep hb (by omega))
    have Hw3 := Lib.hid (Hw2.out.trans (hb.mono Hw2.out.size))
    clear hb
    go_wp2_with fail
    (with_reducible refine (HfHS.out _).mono ?_)
    rintro e w4 ⟨v4, rfl, ho, hb⟩
    have z4 := hb.size
    obtain ⟨A4, c4, rfl, -⟩ := id ho
    have Q2 := Lib.hid ho
    have Q1_4 := Lib.hid (Q1_3.out.keep hb (by omega))
    have Hw4 := Lib.hid (Hw3.out.trans (hb.mono Hw3.out.size))
    clear hb ho
    go_wp2_with fail
    (with_reducible refine (sameI _ _ _ _ _ _ hs _ Q1_4.out Q2.out (by omega)).mono ?_)
    rintro e w5 ⟨rfl, hb⟩
    have z5 := hb.size
    have Q1_5 := Lib.hid (Q1_4.out.keep hb (by omega))
    have Q2_5 := Lib.hid (Q2.out.keep hb (by omega))
    have Hw5 := Lib.hid (Hw4.out.trans (hb.mono Hw4.out.size))
    clear hb
    go_wp2_with fail
    (with_reducible refine (HfIS.out.now _).mono ?_)
    rintro e w6 ⟨rfl, hb⟩
    have z6 := hb.size
    have Hw6 := Lib.hid (Hw5.out.trans (hb.mono Hw5.out.size))
    clear hb
    go_wp2_with fail
    (with_reducible refine (HfII.out.now _).mono ?_)
    rintro e w7 ⟨rfl, hb⟩
    have z7 := hb.size
    have Hw7 := Lib.hid (Hw6.out.trans (hb.mono Hw6.out.size))
    clear hb
    go_wp2_with fail
    (with_reducible refine (HfSZI.out.now _).mono ?_)
    rintro e w8 ⟨rfl, hb⟩
    have z8 := hb.size
    have Hw8 := Lib.hid (Hw7.out.trans (hb.mono Hw7.out.size))
    clear hb
    go_wp2_with fail
    (with_reducible refine (HfSZ.out.now _).mono ?_)
    rintro e w9 ⟨rfl, hb⟩
    have z9 := hb.size
    have Hw9 := Lib.hid (Hw8.out.trans (hb.mono Hw8.out.size))
    clear hb
    go_wp2_with fail
    (with_reducible refine (HfFI.out.now _).mono ?_)
    rintro e w10 ⟨rfl, hb⟩
    have z10 := hb.size
    have Hw10 := Lib.hid (Hw9.out.trans (hb.mono Hw9.out.size))
    clear hb
    go_wp2_with fail
    (with_reducible refine (HfF.out.now _).mono ?_)
    rintro e w11 ⟨rfl, hb⟩
    have z11 := hb.size
    have Hw11 := Lib.hid (Hw10.out.trans (hb.mono Hw10.out.size))
    clear hb
    go_wp2_with fail
    (with_reducible refine (HfPI.out _).mono ?_)
    rintro e w12 ⟨v12, rfl, ho, hb⟩
    have z12 := hb.size
    obtain ⟨A12, c12, rfl, -⟩ := id ho
    have P1 := Lib.hid ho
    have Hw12 := Lib.hid (Hw11.out.trans (hb.mono Hw11.out.size))
    clear hb ho
    go_wp2
    go_loopw [16, 17] (fun X Y wr => ∃ (j : Nat) (acc : ByteArray), Y = .int .i64 j ∧ X = .string acc ∧ j ≤ ps.length ∧ acc = catS (ps.take j) ∧ acc.size ≤ 16 * j ∧ Below w12.heap.size w12 wr) (fun _ Y _ => ps.length - (intOf Y).toNat)
    case atStart => exact ⟨0, ⟨#[]⟩, rfl, rfl, Nat.zero_le _, rfl, Nat.le_refl _, Below.refl _ _⟩
    case round =>
      obtain ⟨j, acc, rfl, rfl, hj, hacc, hasz, hb⟩ := hrel
      have HACC := Lib.hid hacc
      have HBL := Lib.hid hb
      have zL := hb.size
      clear hacc hb
      by_cases hlt : j < ps.length
      · obtain ⟨g1, p1, e1, -, -, hc1, -⟩ := (P1.out.keep HBL.out (Nat.le_refl _)).cell hlt
        simp only [Value.slice.injEq] at e1
        obtain ⟨rfl, -, rfl⟩ := e1
        obtain ⟨hr1, hsz1⟩ := HfOne.out _ (mem_getD ps j hlt)
        have HST := Lib.hid (catS_step ps j hlt)
        have hji : (j : Int) < (ps.length : Int) := by omega
        generalize ps.getD j E0 = q at hc1 hr1 hsz1 HST
        have HR1 := Lib.hid hr1
        have hcat1 : ¬ 9223372036854775807 < acc.size + q.size := by omega
        clear hr1
        go_wp2_with fail
        (with_reducible refine (HR1.out.now _).mono ?_)
        rintro e w' ⟨rfl, hb⟩
        go_wp2
        exact ⟨⟨j + 1, acc ++ q, by simp, rfl, by omega, by rw [HST.out, HACC.out], by rw [ByteArray.size_append]; omega, HBL.out.trans (hb.mono zL)⟩, by simp [intOf]; omega⟩
      · obtain rfl : j = ps.length := by omega
        clear HACC hasz
        have HwL := Lib.hid (Hw12.out.trans (HBL.out.mono Hw12.out.size))
        have P1L := Lib.hid (P1.out.keep HBL.out (Nat.le_refl _))
        have zW := HBL.out.size
        clear HBL
        go_wp2_with fail
        (with_reducible refine (HfPS.out _).mono ?_)
        rintro e w13 ⟨v13, rfl, ho, hb⟩
        have z13 := hb.size
        obtain ⟨A13, c13, rfl, -⟩ := id ho
        have P2 := Lib.hid ho
        have P1_13 := Lib.hid (P1L.out.keep hb (by omega))
        have Hw13 := Lib.hid (HwL.out.trans (hb.mono HwL.out.size))
        clear hb ho
        go_wp2_with fail
        (with_reducible refine (sameS _ _ _ _ _ _ ps _ P1_13.out P2.out (by omega)).mono ?_)
        rintro e w14 ⟨rfl, hb⟩
        have z14 := hb.size
        have P1_14 := Lib.hid (P1_13.out.keep hb (by omega))
        have P2_14 := Lib.hid (P2.out.keep hb (by omega))
        have Hw14 := Lib.hid (Hw13.out.trans (hb.mono Hw13.out.size))
        clear hb
        go_wp2_with fail
        (with_reducible refine (HfVI.out.now _).mono ?_)
        rintro e w15 ⟨rfl, hb⟩
        have z15 := hb.size
        have Hw15 := Lib.hid (Hw14.out.trans (hb.mono Hw14.out.size))
        clear hb
        go_wp2_with fail
        (with_reducible refine (HfV.out.now _).mono ?_)
        rintro e w16 ⟨rfl, hb⟩
        have z16 := hb.size
        have Hw16 := Lib.hid (Hw15.out.trans (hb.mono Hw15.out.size))
        clear hb
        go_wp2_with fail
        (with_reducible refine (drawPoh A n cap _ (HC.out.carry Hw16.out)).mono ?_)
        rintro e w17 ⟨v17, ys, hyl, rfl, ho, hb⟩
        have z17 := hb.size
        obtain ⟨A17, c17, rfl, -⟩ := id ho
        have Y1 := Lib.hid ho
        have Hw17 := Lib.hid (Hw16.out.trans (hb.mono Hw16.out.size))
        clear hb ho
        obtain ⟨p9, o9, fYI, fYS⟩ := pkHeights ys (by omega)
        have HfYI := Lib.hid fYI
        have HfYS := Lib.hid fYS
        have hp9 : (p9.toList == p9.toList) = true := by simp
        have ho9 : (o9 == o9) = true := by simp
        clear fYI fYS
        go_wp2_with fail
        (with_reducible refine (HfYI.out _ _ _ _ Y1.out (by omega)).mono ?_)
        rintro e w18 ⟨rfl, hb⟩
        have z18 := hb.size
        have Y1_18 := Lib.hid (Y1.out.keep hb (by omega))
        have Hw18 := Lib.hid (Hw17.out.trans (hb.mono Hw17.out.size))
        clear hb
        go_wp2_with fail
        (with_reducible refine (HfYS.out _ _ _ _ Y1_18.out (by omega)).mono ?_)
        rintro e w19 ⟨rfl, hb⟩
        have z19 := hb.size
        have Y1_19 := Lib.hid (Y1_18.out.keep hb (by omega))
        have Hw19 := Lib.hid (Hw18.out.trans (hb.mono Hw18.out.size))
        clear hb
        go_wp2_with fail
        (with_reducible refine (drawJoin A n cap _ (HC.out.carry Hw19.out)).mono ?_)
        rintro e w20 ⟨i1, i2, hi1, hi2, rfl, hb⟩
        have Hw20 := Lib.hid (Hw19.out.trans (hb.mono Hw19.out.size))
        clear hb
        obtain ⟨p8, o8, fJI, fJS⟩ := pkJoin i1 i2 (by have := hi1.size; omega) (by have := hi2.size; omega)
        have HfJI := Lib.hid fJI
        have HfJS := Lib.hid fJS
        have hp8 : (p8.toList == p8.toList) = true := by simp
        have ho8 : (o8 == o8) = true := by simp
        clear fJI fJS hi1 hi2
        go_wp2_with fail
        (with_reducible refine (HfJI.out.now _).mono ?_)
        rintro e w21 ⟨rfl, hb⟩
        have z21 := hb.size
        have Hw21 := Lib.hid (Hw20.out.trans (hb.mono Hw20.out.size))
        clear hb
        go_wp2_with fail
        (with_reducible refine (HfJS.out.now _).mono ?_)
        rintro e w22 ⟨rfl, hb⟩
        have z22 := hb.size
        have Hw22 := Lib.hid (Hw21.out.trans (hb.mono Hw21.out.size))
        clear hb
        go_wp2_with fail
        (with_reducible refine (HfPKI.out.now _ (HM.out.keep Hw22.out)).mono ?_)
        rintro e w23 ⟨rfl, hb⟩
        have z23 := hb.size
        have Hw23 := Lib.hid (Hw22.out.trans (hb.mono Hw22.out.size))
        clear hb
        go_wp2_with fail
        (with_reducible refine (HfPK.out.now _).mono ?_)
        rintro e w24 ⟨rfl, hb⟩
        have z24 := hb.size
        have Hw24 := Lib.hid (Hw23.out.trans (hb.mono Hw23.out.size))
        clear hb
        go_wp2_with fail
        (with_reducible refine (HfRI.out.now _).mono ?_)
        rintro e w25 ⟨rfl, hb⟩
        have z25 := hb.size
        have Hw25 := Lib.hid (Hw24.out.trans (hb.mono Hw24.out.size))
        clear hb
        go_wp2_with fail
        (with_reducible refine (HfR.out.now _).mono ?_)
        rintro e w26 ⟨rfl, hb⟩
        have z26 := hb.size
        have Hw26 := Lib.hid (Hw25.out.trans (hb.mono Hw25.out.size))
        clear hb
        go_wp2_with fail
        (with_reducible refine (HfAI.out.now _).mono ?_)
        rintro e w27 ⟨rfl, hb⟩
        have z27 := hb.size
        have Hw27 := Lib.hid (Hw26.out.trans (hb.mono Hw26.out.size))
        clear hb
        go_wp2_with fail
        (with_reducible refine (HfA.out.now _).mono ?_)
        rintro e w28 ⟨rfl, hb⟩
        have z28 := hb.size
        have Hw28 := Lib.hid (Hw27.out.trans (hb.mono Hw27.out.size))
        clear hb
        go_wp2
        go_ret
        exact ⟨rfl, Hw28.out⟩
  · by_cases h0 : 0 < s.size
    · obtain ⟨z, k, r, x, ek, er, ex, fSZI, fSZ, fPKI, fPK, fRI, fR, fAI, fA⟩ := pkAll s (by omega)
      obtain ⟨hs, ps, v, fII, fIS, fVI, fV, fPV, fAV, fPI, fPS, fOne, hcat, hlen, hpl, fHI, fHS, hhl, fPoh⟩ := pkPath s hword hd
      rw [← ek] at fPV
      rw [← ex] at fAV
      have hlr : ((ps.length : Int) != r) = false := by rw [er, hlen]; simp
      obtain ⟨a, b, x1, y1, x2, r2, b1, b2, b3, b4, b5, b6, b7, b8, exx, err, fFI, fF, fJ, fAa, fSa, fAb, fRb⟩ := pkCut s hword hd h0
      have hxx : (x != x1 + y1 + x2) = false := by rw [ex, exx]; simp
      have hrr : (r != 1 + r2) = false := by rw [er, err]; simp
      have hbb : (b.toList != b.toList) = false := by simp
      have haa : (a.toList != a.toList) = false := by simp
      clear exx err
      have hvv : (v.toList != v.toList) = false := by simp
      have hss : (s.toList != s.toList) = false := by simp
      have hkk : (k != k) = false := by simp
      have hzz : (z != z) = false := by simp
      have hxx0 : (x != x) = false := by simp
      have HfSZI := Lib.hid fSZI
      have HfSZ := Lib.hid fSZ
      have HfPKI := Lib.hid fPKI
      have HfPK := Lib.hid fPK
      have HfRI := Lib.hid fRI
      have HfR := Lib.hid fR
      have HfAI := Lib.hid fAI
      have HfA := Lib.hid fA
      have HfII := Lib.hid fII
      have HfIS := Lib.hid fIS
      have HfVI := Lib.hid fVI
      have HfV := Lib.hid fV
      have HfPV := Lib.hid fPV
      have HfAV := Lib.hid fAV
      have HfPI := Lib.hid fPI
      have HfPS := Lib.hid fPS
      have HfOne := Lib.hid fOne
      have Hhcat := Lib.hid hcat
      have HfHI := Lib.hid fHI
      have HfHS := Lib.hid fHS
      have HfPoh := Lib.hid fPoh
      have HfFI := Lib.hid fFI
      have HfF := Lib.hid fF
      have HfJ := Lib.hid fJ
      have HfAa := Lib.hid fAa
      have HfSa := Lib.hid fSa
      have HfAb := Lib.hid fAb
      have HfRb := Lib.hid fRb
      clear ek er ex fSZI fSZ fPKI fPK fRI fR fAI fA fII fIS fVI fV fPV fAV fPI fPS fOne hcat fHI fHS fPoh fFI fF fJ fAa fSa fAb fRb
      have HD := Lib.hid hd
      clear hd
      go_wp2_with fail
      (with_reducible refine (HfHI.out _).mono ?_)
      rintro e w2 ⟨v2, rfl, ho, hb⟩
      have z2 := hb.size
      obtain ⟨A2, c2, rfl, -⟩ := id ho
      have Q1 := Lib.hid ho
      have Hw2 := Lib.hid (Hw1.out.trans (hb.mono Hw1.out.size))
      clear hb ho
      go_wp2_with fail
      (with_reducible refine (HfPoh.out _ _ _ _ Q1.out (Nat.le_refl _)).mono ?_)
      rintro e w3 ⟨rfl, hb⟩
      have z3 := hb.size
      have Q1_3 := Lib.hid (Q1.out.keep hb (by omega))
      have Hw3 := Lib.hid (Hw2.out.trans (hb.mono Hw2.out.size))
      clear hb
      go_wp2_with fail
      (with_reducible refine (HfHS.out _).mono ?_)
      rintro e w4 ⟨v4, rfl, ho, hb⟩
      have z4 := hb.size
      obtain ⟨A4, c4, rfl, -⟩ := id ho
      have Q2 := Lib.hid ho
      have Q1_4 := Lib.hid (Q1_3.out.keep hb (by omega))
      have Hw4 := Lib.hid (Hw3.out.trans (hb.mono Hw3.out.size))
      clear hb ho
      go_wp2_with fail
      (with_reducible refine (sameI _ _ _ _ _ _ hs _ Q1_4.out Q2.out (by omega)).mono ?_)
      rintro e w5 ⟨rfl, hb⟩
      have z5 := hb.size
      have Q1_5 := Lib.hid (Q1_4.out.keep hb (by omega))
      have Q2_5 := Lib.hid (Q2.out.keep hb (by omega))
      have Hw5 := Lib.hid (Hw4.out.trans (hb.mono Hw4.out.size))
      clear hb
      go_wp2_with fail
      (with_reducible refine (HfIS.out.now _).mono ?_)
      rintro e w6 ⟨rfl, hb⟩
      have z6 := hb.size
      have Hw6 := Lib.hid (Hw5.out.trans (hb.mono Hw5.out.size))
      clear hb
      go_wp2_with fail
      (with_reducible refine (HfII.out.now _).mono ?_)
      rintro e w7 ⟨rfl, hb⟩
      have z7 := hb.size
      have Hw7 := Lib.hid (Hw6.out.trans (hb.mono Hw6.out.size))
      clear hb
      go_wp2_with fail
      (with_reducible refine (HfSZI.out.now _).mono ?_)
      rintro e w8 ⟨rfl, hb⟩
      have z8 := hb.size
      have Hw8 := Lib.hid (Hw7.out.trans (hb.mono Hw7.out.size))
      clear hb
      go_wp2_with fail
      (with_reducible refine (HfSZ.out.now _).mono ?_)
      rintro e w9 ⟨rfl, hb⟩
      have z9 := hb.size
      have Hw9 := Lib.hid (Hw8.out.trans (hb.mono Hw8.out.size))
      clear hb
      go_wp2_with fail
      (with_reducible refine (HfFI.out.now _).mono ?_)
      rintro e w10 ⟨rfl, hb⟩
      have z10 := hb.size
      have Hw10 := Lib.hid (Hw9.out.trans (hb.mono Hw9.out.size))
      clear hb
      go_wp2_with fail
      (with_reducible refine (HfF.out.now _).mono ?_)
      rintro e w11 ⟨rfl, hb⟩
      have z11 := hb.size
      have Hw11 := Lib.hid (Hw10.out.trans (hb.mono Hw10.out.size))
      clear hb
      go_wp2_with fail
      (with_reducible refine (HfJ.out.now _).mono ?_)
      rintro e w12 ⟨rfl, hb⟩
      have z12 := hb.size
      have Hw12 := Lib.hid (Hw11.out.trans (hb.mono Hw11.out.size))
      clear hb
      go_wp2_with fail
      (with_reducible refine (HfAI.out.now _).mono ?_)
      rintro e w13 ⟨rfl, hb⟩
      have z13 := hb.size
      have Hw13 := Lib.hid (Hw12.out.trans (hb.mono Hw12.out.size))
      clear hb
      go_wp2_with fail
      (with_reducible refine (HfAa.out.now _).mono ?_)
      rintro e w14 ⟨rfl, hb⟩
      have z14 := hb.size
      have Hw14 := Lib.hid (Hw13.out.trans (hb.mono Hw13.out.size))
      clear hb
      go_wp2_with fail
      (with_reducible refine (HfSa.out.now _).mono ?_)
      rintro e w15 ⟨rfl, hb⟩
      have z15 := hb.size
      have Hw15 := Lib.hid (Hw14.out.trans (hb.mono Hw14.out.size))
      clear hb
      go_wp2_with fail
      (with_reducible refine (HfAb.out.now _).mono ?_)
      rintro e w16 ⟨rfl, hb⟩
      have z16 := hb.size
      have Hw16 := Lib.hid (Hw15.out.trans (hb.mono Hw15.out.size))
      clear hb
      go_wp2_with fail
      (with_reducible refine (HfRI.out.now _).mono ?_)
      rintro e w17 ⟨rfl, hb⟩
      have z17 := hb.size
      have Hw17 := Lib.hid (Hw16.out.trans (hb.mono Hw16.out.size))
      clear hb
      go_wp2_with fail
      (with_reducible refine (HfRb.out.now _).mono ?_)
      rintro e w18 ⟨rfl, hb⟩
      have z18 := hb.size
      have Hw18 := Lib.hid (Hw17.out.trans (hb.mono Hw17.out.size))
      clear hb
      go_wp2_with fail
      (with_reducible refine (HfPI.out _).mono ?_)
      rintro e w19 ⟨v19, rfl, ho, hb⟩
      have z19 := hb.size
      obtain ⟨A19, c19, rfl, -⟩ := id ho
      have P1 := Lib.hid ho
      have Hw19 := Lib.hid (Hw18.out.trans (hb.mono Hw18.out.size))
      clear hb ho
      go_wp2
      go_loopw [16, 17] (fun X Y wr => ∃ (j : Nat) (acc : ByteArray), Y = .int .i64 j ∧ X = .string acc ∧ j ≤ ps.length ∧ acc = catS (ps.take j) ∧ acc.size ≤ 16 * j ∧ Below w19.heap.size w19 wr) (fun _ Y _ => ps.length - (intOf Y).toNat)
      case atStart => exact ⟨0, ⟨#[]⟩, rfl, rfl, Nat.zero_le _, rfl, Nat.le_refl _, Below.refl _ _⟩
      case round =>
        obtain ⟨j, acc, rfl, rfl, hj, hacc, hasz, hb⟩ := hrel
        have HACC := Lib.hid hacc
        have HBL := Lib.hid hb
        have zL := hb.size
        clear hacc hb
        by_cases hlt : j < ps.length
        · obtain ⟨g1, p1, e1, -, -, hc1, -⟩ := (P1.out.keep HBL.out (Nat.le_refl _)).cell hlt
          simp only [Value.slice.injEq] at e1
          obtain ⟨rfl, -, rfl⟩ := e1
          obtain ⟨hr1, hsz1⟩ := HfOne.out _ (mem_getD ps j hlt)
          have HST := Lib.hid (catS_step ps j hlt)
          have hji : (j : Int) < (ps.length : Int) := by omega
          generalize ps.getD j E0 = q at hc1 hr1 hsz1 HST
          have HR1 := Lib.hid hr1
          have hcat1 : ¬ 9223372036854775807 < acc.size + q.size := by omega
          clear hr1
          go_wp2_with fail
          (with_reducible refine (HR1.out.now _).mono ?_)
          rintro e w' ⟨rfl, hb⟩
          go_wp2
          exact ⟨⟨j + 1, acc ++ q, by simp, rfl, by omega, by rw [HST.out, HACC.out], by rw [ByteArray.size_append]; omega, HBL.out.trans (hb.mono zL)⟩, by simp [intOf]; omega⟩
        · obtain rfl : j = ps.length := by omega
          have hacs : acc = s := by rw [HACC.out, List.take_length]; exact Hhcat.out
          rw [hacs]
          clear hacs HACC hasz
          have HwL := Lib.hid (Hw19.out.trans (HBL.out.mono Hw19.out.size))
          have P1L := Lib.hid (P1.out.keep HBL.out (Nat.le_refl _))
          have zW := HBL.out.size
          clear HBL
          go_wp2_with fail
          (with_reducible refine (HfPS.out _).mono ?_)
          rintro e w20 ⟨v20, rfl, ho, hb⟩
          have z20 := hb.size
          obtain ⟨A20, c20, rfl, -⟩ := id ho
          have P2 := Lib.hid ho
          have P1_20 := Lib.hid (P1L.out.keep hb (by omega))
          have Hw20 := Lib.hid (HwL.out.trans (hb.mono HwL.out.size))
          clear hb ho
          go_wp2_with fail
          (with_reducible refine (sameS _ _ _ _ _ _ ps _ P1_20.out P2.out (by omega)).mono ?_)
          rintro e w21 ⟨rfl, hb⟩
          have z21 := hb.size
          have P1_21 := Lib.hid (P1_20.out.keep hb (by omega))
          have P2_21 := Lib.hid (P2.out.keep hb (by omega))
          have Hw21 := Lib.hid (Hw20.out.trans (hb.mono Hw20.out.size))
          clear hb
          go_wp2_with fail
          (with_reducible refine (HfRI.out.now _).mono ?_)
          rintro e w22 ⟨rfl, hb⟩
          have z22 := hb.size
          have Hw22 := Lib.hid (Hw21.out.trans (hb.mono Hw21.out.size))
          clear hb
          go_wp2_with fail
          (with_reducible refine (HfVI.out.now _).mono ?_)
          rintro e w23 ⟨rfl, hb⟩
          have z23 := hb.size
          have Hw23 := Lib.hid (Hw22.out.trans (hb.mono Hw22.out.size))
          clear hb
          go_wp2_with fail
          (with_reducible refine (HfV.out.now _).mono ?_)
          rintro e w24 ⟨rfl, hb⟩
          have z24 := hb.size
          have Hw24 := Lib.hid (Hw23.out.trans (hb.mono Hw23.out.size))
          clear hb
          go_wp2_with fail
          (with_reducible refine (HfPV.out.now _ (HM.out.keep Hw24.out)).mono ?_)
          rintro e w25 ⟨rfl, hb⟩
          have z25 := hb.size
          have Hw25 := Lib.hid (Hw24.out.trans (hb.mono Hw24.out.size))
          clear hb
          go_wp2_with fail
          (with_reducible refine (HfPKI.out.now _ (HM.out.keep Hw25.out)).mono ?_)
          rintro e w26 ⟨rfl, hb⟩
          have z26 := hb.size
          have Hw26 := Lib.hid (Hw25.out.trans (hb.mono Hw25.out.size))
          clear hb
          go_wp2_with fail
          (with_reducible refine (HfAV.out.now _).mono ?_)
          rintro e w27 ⟨rfl, hb⟩
          have z27 := hb.size
          have Hw27 := Lib.hid (Hw26.out.trans (hb.mono Hw26.out.size))
          clear hb
          go_wp2_with fail
          (with_reducible refine (HfAI.out.now _).mono ?_)
          rintro e w28 ⟨rfl, hb⟩
          have z28 := hb.size
          have Hw28 := Lib.hid (Hw27.out.trans (hb.mono Hw27.out.size))
          clear hb
          go_wp2_with fail
          (with_reducible refine (drawPoh A n cap _ (HC.out.carry Hw28.out)).mono ?_)
          rintro e w29 ⟨v29, ys, hyl, rfl, ho, hb⟩
          have z29 := hb.size
          obtain ⟨A29, c29, rfl, -⟩ := id ho
          have Y1 := Lib.hid ho
          have Hw29 := Lib.hid (Hw28.out.trans (hb.mono Hw28.out.size))
          clear hb ho
          obtain ⟨p9, o9, fYI, fYS⟩ := pkHeights ys (by omega)
          have HfYI := Lib.hid fYI
          have HfYS := Lib.hid fYS
          have hp9 : (p9.toList == p9.toList) = true := by simp
          have ho9 : (o9 == o9) = true := by simp
          clear fYI fYS
          go_wp2_with fail
          (with_reducible refine (HfYI.out _ _ _ _ Y1.out (by omega)).mono ?_)
          rintro e w30 ⟨rfl, hb⟩
          have z30 := hb.size
          have Y1_30 := Lib.hid (Y1.out.keep hb (by omega))
          have Hw30 := Lib.hid (Hw29.out.trans (hb.mono Hw29.out.size))
          clear hb
          go_wp2_with fail
          (with_reducible refine (HfYS.out _ _ _ _ Y1_30.out (by omega)).mono ?_)
          rintro e w31 ⟨rfl, hb⟩
          have z31 := hb.size
          have Y1_31 := Lib.hid (Y1_30.out.keep hb (by omega))
          have Hw31 := Lib.hid (Hw30.out.trans (hb.mono Hw30.out.size))
          clear hb
          go_wp2_with fail
          (with_reducible refine (drawJoin A n cap _ (HC.out.carry Hw31.out)).mono ?_)
          rintro e w32 ⟨i1, i2, hi1, hi2, rfl, hb⟩
          have Hw32 := Lib.hid (Hw31.out.trans (hb.mono Hw31.out.size))
          clear hb
          obtain ⟨p8, o8, fJI, fJS⟩ := pkJoin i1 i2 (by have := hi1.size; omega) (by have := hi2.size; omega)
          have HfJI := Lib.hid fJI
          have HfJS := Lib.hid fJS
          have hp8 : (p8.toList == p8.toList) = true := by simp
          have ho8 : (o8 == o8) = true := by simp
          clear fJI fJS hi1 hi2
          go_wp2_with fail
          (with_reducible refine (HfJI.out.now _).mono ?_)
          rintro e w33 ⟨rfl, hb⟩
          have z33 := hb.size
          have Hw33 := Lib.hid (Hw32.out.trans (hb.mono Hw32.out.size))
          clear hb
          go_wp2_with fail
          (with_reducible refine (HfJS.out.now _).mono ?_)
          rintro e w34 ⟨rfl, hb⟩
          have z34 := hb.size
          have Hw34 := Lib.hid (Hw33.out.trans (hb.mono Hw33.out.size))
          clear hb
          go_wp2_with fail
          (with_reducible refine (HfPKI.out.now _ (HM.out.keep Hw34.out)).mono ?_)
          rintro e w35 ⟨rfl, hb⟩
          have z35 := hb.size
          have Hw35 := Lib.hid (Hw34.out.trans (hb.mono Hw34.out.size))
          clear hb
          go_wp2_with fail
          (with_reducible refine (HfPK.out.now _).mono ?_)
          rintro e w36 ⟨rfl, hb⟩
          have z36 := hb.size
          have Hw36 := Lib.hid (Hw35.out.trans (hb.mono Hw35.out.size))
          clear hb
          go_wp2_with fail
          (with_reducible refine (HfRI.out.now _).mono ?_)
          rintro e w37 ⟨rfl, hb⟩
          have z37 := hb.size
          have Hw37 := Lib.hid (Hw36.out.trans (hb.mono Hw36.out.size))
          clear hb
          go_wp2_with fail
          (with_reducible refine (HfR.out.now _).mono ?_)
          rintro e w38 ⟨rfl, hb⟩
          have z38 := hb.size
          have Hw38 := Lib.hid (Hw37.out.trans (hb.mono Hw37.out.size))
          clear hb
          go_wp2_with fail
          (with_reducible refine (HfAI.out.now _).mono ?_)
          rintro e w39 ⟨rfl, hb⟩
          have z39 := hb.size
          have Hw39 := Lib.hid (Hw38.out.trans (hb.mono Hw38.out.size))
          clear hb
          go_wp2_with fail
          (with_reducible refine (HfA.out.now _).mono ?_)
          rintro e w40 ⟨rfl, hb⟩
          have z40 := hb.size
          have Hw40 := Lib.hid (Hw39.out.trans (hb.mono Hw39.out.size))
          clear hb
          go_wp2
          go_ret
          exact ⟨rfl, Hw40.out⟩
    · have h0 : s.size = 0 := by omega
      obtain ⟨z, k, r, x, ek, er, ex, fSZI, fSZ, fPKI, fPK, fRI, fR, fAI, fA⟩ := pkAll s (by omega)
      obtain ⟨hs, ps, v, fII, fIS, fVI, fV, fPV, fAV, fPI, fPS, fOne, hcat, hlen, hpl, fHI, fHS, hhl, fPoh⟩ := pkPath s hword hd
      rw [← ek] at fPV
      rw [← ex] at fAV
      have hlr : ((ps.length : Int) != r) = false := by rw [er, hlen]; simp
      obtain ⟨fFI, fF⟩ := pkEmpty s hd h0
      have hvv : (v.toList != v.toList) = false := by simp
      have hss : (s.toList != s.toList) = false := by simp
      have hkk : (k != k) = false := by simp
      have hzz : (z != z) = false := by simp
      have hxx0 : (x != x) = false := by simp
      have HfSZI := Lib.hid fSZI
      have HfSZ := Lib.hid fSZ
      have HfPKI := Lib.hid fPKI
      have HfPK := Lib.hid fPK
      have HfRI := Lib.hid fRI
      have HfR := Lib.hid fR
      have HfAI := Lib.hid fAI
      have HfA := Lib.hid fA
      have HfII := Lib.hid fII
      have HfIS := Lib.hid fIS
      have HfVI := Lib.hid fVI
      have HfV := Lib.hid fV
      have HfPV := Lib.hid fPV
      have HfAV := Lib.hid fAV
      have HfPI := Lib.hid fPI
      have HfPS := Lib.hid fPS
      have HfOne := Lib.hid fOne
      have Hhcat := Lib.hid hcat
      have HfHI := Lib.hid fHI
      have HfHS := Lib.hid fHS
      have HfPoh := Lib.hid fPoh
      have HfFI := Lib.hid fFI
      have HfF := Lib.hid fF
      clear ek er ex fSZI fSZ fPKI fPK fRI fR fAI fA fII fIS fVI fV fPV fAV fPI fPS fOne hcat fHI fHS fPoh fFI fF
      have HD := Lib.hid hd
      clear hd
      go_wp2_with fail
      (with_reducible refine (HfHI.out _).mono ?_)
      rintro e w2 ⟨v2, rfl, ho, hb⟩
      have z2 := hb.size
      obtain ⟨A2, c2, rfl, -⟩ := id ho
      have Q1 := Lib.hid ho
      have Hw2 := Lib.hid (Hw1.out.trans (hb.mono Hw1.out.size))
      clear hb ho
      go_wp2_with fail
      (with_reducible refine (HfPoh.out _ _ _ _ Q1.out (Nat.le_refl _)).mono ?_)
      rintro e w3 ⟨rfl, hb⟩
      have z3 := hb.size
      have Q1_3 := Lib.hid (Q1.out.keep hb (by omega))
      have Hw3 := Lib.hid (Hw2.out.trans (hb.mono Hw2.out.size))
      clear hb
      go_wp2_with fail
      (with_reducible refine (HfHS.out _).mono ?_)
      rintro e w4 ⟨v4, rfl, ho, hb⟩
      have z4 := hb.size
      obtain ⟨A4, c4, rfl, -⟩ := id ho
      have Q2 := Lib.hid ho
      have Q1_4 := Lib.hid (Q1_3.out.keep hb (by omega))
      have Hw4 := Lib.hid (Hw3.out.trans (hb.mono Hw3.out.size))
      clear hb ho
      go_wp2_with fail
      (with_reducible refine (sameI _ _ _ _ _ _ hs _ Q1_4.out Q2.out (by omega)).mono ?_)
      rintro e w5 ⟨rfl, hb⟩
      have z5 := hb.size
      have Q1_5 := Lib.hid (Q1_4.out.keep hb (by omega))
      have Q2_5 := Lib.hid (Q2.out.keep hb (by omega))
      have Hw5 := Lib.hid (Hw4.out.trans (hb.mono Hw4.out.size))
      clear hb
      go_wp2_with fail
      (with_reducible refine (HfIS.out.now _).mono ?_)
      rintro e w6 ⟨rfl, hb⟩
      have z6 := hb.size
      have Hw6 := Lib.hid (Hw5.out.trans (hb.mono Hw5.out.size))
      clear hb
      go_wp2_with fail
      (with_reducible refine (HfII.out.now _).mono ?_)
      rintro e w7 ⟨rfl, hb⟩
      have z7 := hb.size
      have Hw7 := Lib.hid (Hw6.out.trans (hb.mono Hw6.out.size))
      clear hb
      go_wp2_with fail
      (with_reducible refine (HfSZI.out.now _).mono ?_)
      rintro e w8 ⟨rfl, hb⟩
      have z8 := hb.size
      have Hw8 := Lib.hid (Hw7.out.trans (hb.mono Hw7.out.size))
      clear hb
      go_wp2_with fail
      (with_reducible refine (HfSZ.out.now _).mono ?_)
      rintro e w9 ⟨rfl, hb⟩
      have z9 := hb.size
      have Hw9 := Lib.hid (Hw8.out.trans (hb.mono Hw8.out.size))
      clear hb
      go_wp2_with fail
      (with_reducible refine (HfFI.out.now _).mono ?_)
      rintro e w10 ⟨rfl, hb⟩
      have z10 := hb.size
      have Hw10 := Lib.hid (Hw9.out.trans (hb.mono Hw9.out.size))
      clear hb
      go_wp2_with fail
      (with_reducible refine (HfF.out.now _).mono ?_)
      rintro e w11 ⟨rfl, hb⟩
      have z11 := hb.size
      have Hw11 := Lib.hid (Hw10.out.trans (hb.mono Hw10.out.size))
      clear hb
      go_wp2_with fail
      (with_reducible refine (HfPI.out _).mono ?_)
      rintro e w12 ⟨v12, rfl, ho, hb⟩
      have z12 := hb.size
      obtain ⟨A12, c12, rfl, -⟩ := id ho
      have P1 := Lib.hid ho
      have Hw12 := Lib.hid (Hw11.out.trans (hb.mono Hw11.out.size))
      clear hb ho
      go_wp2
      go_loopw [16, 17] (fun X Y wr => ∃ (j : Nat) (acc : ByteArray), Y = .int .i64 j ∧ X = .string acc ∧ j ≤ ps.length ∧ acc = catS (ps.take j) ∧ acc.size ≤ 16 * j ∧ Below w12.heap.size w12 wr) (fun _ Y _ => ps.length - (intOf Y).toNat)
      case atStart => exact ⟨0, ⟨#[]⟩, rfl, rfl, Nat.zero_le _, rfl, Nat.le_refl _, Below.refl _ _⟩
      case round =>
        obtain ⟨j, acc, rfl, rfl, hj, hacc, hasz, hb⟩ := hrel
        have HACC := Lib.hid hacc
        have HBL := Lib.hid hb
        have zL := hb.size
        clear hacc hb
        by_cases hlt : j < ps.length
        · obtain ⟨g1, p1, e1, -, -, hc1, -⟩ := (P1.out.keep HBL.out (Nat.le_refl _)).cell hlt
          simp only [Value.slice.injEq] at e1
          obtain ⟨rfl, -, rfl⟩ := e1
          obtain ⟨hr1, hsz1⟩ := HfOne.out _ (mem_getD ps j hlt)
          have HST := Lib.hid (catS_step ps j hlt)
          have hji : (j : Int) < (ps.length : Int) := by omega
          generalize ps.getD j E0 = q at hc1 hr1 hsz1 HST
          have HR1 := Lib.hid hr1
          have hcat1 : ¬ 9223372036854775807 < acc.size + q.size := by omega
          clear hr1
          go_wp2_with fail
          (with_reducible refine (HR1.out.now _).mono ?_)
          rintro e w' ⟨rfl, hb⟩
          go_wp2
          exact ⟨⟨j + 1, acc ++ q, by simp, rfl, by omega, by rw [HST.out, HACC.out], by rw [ByteArray.size_append]; omega, HBL.out.trans (hb.mono zL)⟩, by simp [intOf]; omega⟩
        · obtain rfl : j = ps.length := by omega
          have hacs : acc = s := by rw [HACC.out, List.take_length]; exact Hhcat.out
          rw [hacs]
          clear hacs HACC hasz
          have HwL := Lib.hid (Hw12.out.trans (HBL.out.mono Hw12.out.size))
          have P1L := Lib.hid (P1.out.keep HBL.out (Nat.le_refl _))
          have zW := HBL.out.size
          clear HBL
          go_wp2_with fail
          (with_reducible refine (HfPS.out _).mono ?_)
          rintro e w13 ⟨v13, rfl, ho, hb⟩
          have z13 := hb.size
          obtain ⟨A13, c13, rfl, -⟩ := id ho
          have P2 := Lib.hid ho
          have P1_13 := Lib.hid (P1L.out.keep hb (by omega))
          have Hw13 := Lib.hid (HwL.out.trans (hb.mono HwL.out.size))
          clear hb ho
          go_wp2_with fail
          (with_reducible refine (sameS _ _ _ _ _ _ ps _ P1_13.out P2.out (by omega)).mono ?_)
          rintro e w14 ⟨rfl, hb⟩
          have z14 := hb.size
          have P1_14 := Lib.hid (P1_13.out.keep hb (by omega))
          have P2_14 := Lib.hid (P2.out.keep hb (by omega))
          have Hw14 := Lib.hid (Hw13.out.trans (hb.mono Hw13.out.size))
          clear hb
          go_wp2_with fail
          (with_reducible refine (HfRI.out.now _).mono ?_)
          rintro e w15 ⟨rfl, hb⟩
          have z15 := hb.size
          have Hw15 := Lib.hid (Hw14.out.trans (hb.mono Hw14.out.size))
          clear hb
          go_wp2_with fail
          (with_reducible refine (HfVI.out.now _).mono ?_)
          rintro e w16 ⟨rfl, hb⟩
          have z16 := hb.size
          have Hw16 := Lib.hid (Hw15.out.trans (hb.mono Hw15.out.size))
          clear hb
          go_wp2_with fail
          (with_reducible refine (HfV.out.now _).mono ?_)
          rintro e w17 ⟨rfl, hb⟩
          have z17 := hb.size
          have Hw17 := Lib.hid (Hw16.out.trans (hb.mono Hw16.out.size))
          clear hb
          go_wp2_with fail
          (with_reducible refine (HfPV.out.now _ (HM.out.keep Hw17.out)).mono ?_)
          rintro e w18 ⟨rfl, hb⟩
          have z18 := hb.size
          have Hw18 := Lib.hid (Hw17.out.trans (hb.mono Hw17.out.size))
          clear hb
          go_wp2_with fail
          (with_reducible refine (HfPKI.out.now _ (HM.out.keep Hw18.out)).mono ?_)
          rintro e w19 ⟨rfl, hb⟩
          have z19 := hb.size
          have Hw19 := Lib.hid (Hw18.out.trans (hb.mono Hw18.out.size))
          clear hb
          go_wp2_with fail
          (with_reducible refine (HfAV.out.now _).mono ?_)
          rintro e w20 ⟨rfl, hb⟩
          have z20 := hb.size
          have Hw20 := Lib.hid (Hw19.out.trans (hb.mono Hw19.out.size))
          clear hb
          go_wp2_with fail
          (with_reducible refine (HfAI.out.now _).mono ?_)
          rintro e w21 ⟨rfl, hb⟩
          have z21 := hb.size
          have Hw21 := Lib.hid (Hw20.out.trans (hb.mono Hw20.out.size))
          clear hb
          go_wp2_with fail
          (with_reducible refine (drawPoh A n cap _ (HC.out.carry Hw21.out)).mono ?_)
          rintro e w22 ⟨v22, ys, hyl, rfl, ho, hb⟩
          have z22 := hb.size
          obtain ⟨A22, c22, rfl, -⟩ := id ho
          have Y1 := Lib.hid ho
          have Hw22 := Lib.hid (Hw21.out.trans (hb.mono Hw21.out.size))
          clear hb ho
          obtain ⟨p9, o9, fYI, fYS⟩ := pkHeights ys (by omega)
          have HfYI := Lib.hid fYI
          have HfYS := Lib.hid fYS
          have hp9 : (p9.toList == p9.toList) = true := by simp
          have ho9 : (o9 == o9) = true := by simp
          clear fYI fYS
          go_wp2_with fail
          (with_reducible refine (HfYI.out _ _ _ _ Y1.out (by omega)).mono ?_)
          rintro e w23 ⟨rfl, hb⟩
          have z23 := hb.size
          have Y1_23 := Lib.hid (Y1.out.keep hb (by omega))
          have Hw23 := Lib.hid (Hw22.out.trans (hb.mono Hw22.out.size))
          clear hb
          go_wp2_with fail
          (with_reducible refine (HfYS.out _ _ _ _ Y1_23.out (by omega)).mono ?_)
          rintro e w24 ⟨rfl, hb⟩
          have z24 := hb.size
          have Y1_24 := Lib.hid (Y1_23.out.keep hb (by omega))
          have Hw24 := Lib.hid (Hw23.out.trans (hb.mono Hw23.out.size))
          clear hb
          go_wp2_with fail
          (with_reducible refine (drawJoin A n cap _ (HC.out.carry Hw24.out)).mono ?_)
          rintro e w25 ⟨i1, i2, hi1, hi2, rfl, hb⟩
          have Hw25 := Lib.hid (Hw24.out.trans (hb.mono Hw24.out.size))
          clear hb
          obtain ⟨p8, o8, fJI, fJS⟩ := pkJoin i1 i2 (by have := hi1.size; omega) (by have := hi2.size; omega)
          have HfJI := Lib.hid fJI
          have HfJS := Lib.hid fJS
          have hp8 : (p8.toList == p8.toList) = true := by simp
          have ho8 : (o8 == o8) = true := by simp
          clear fJI fJS hi1 hi2
          go_wp2_with fail
          (with_reducible refine (HfJI.out.now _).mono ?_)
          rintro e w26 ⟨rfl, hb⟩
          have z26 := hb.size
          have Hw26 := Lib.hid (Hw25.out.trans (hb.mono Hw25.out.size))
          clear hb
          go_wp2_with fail
          (with_reducible refine (HfJS.out.now _).mono ?_)
          rintro e w27 ⟨rfl, hb⟩
          have z27 := hb.size
          have Hw27 := Lib.hid (Hw26.out.trans (hb.mono Hw26.out.size))
          clear hb
          go_wp2_with fail
          (with_reducible refine (HfPKI.out.now _ (HM.out.keep Hw27.out)).mono ?_)
          rintro e w28 ⟨rfl, hb⟩
          have z28 := hb.size
          have Hw28 := Lib.hid (Hw27.out.trans (hb.mono Hw27.out.size))
          clear hb
          go_wp2_with fail
          (with_reducible refine (HfPK.out.now _).mono ?_)
          rintro e w29 ⟨rfl, hb⟩
          have z29 := hb.size
          have Hw29 := Lib.hid (Hw28.out.trans (hb.mono Hw28.out.size))
          clear hb
          go_wp2_with fail
          (with_reducible refine (HfRI.out.now _).mono ?_)
          rintro e w30 ⟨rfl, hb⟩
          have z30 := hb.size
          have Hw30 := Lib.hid (Hw29.out.trans (hb.mono Hw29.out.size))
          clear hb
          go_wp2_with fail
          (with_reducible refine (HfR.out.now _).mono ?_)
          rintro e w31 ⟨rfl, hb⟩
          have z31 := hb.size
          have Hw31 := Lib.hid (Hw30.out.trans (hb.mono Hw30.out.size))
          clear hb
          go_wp2_with fail
          (with_reducible refine (HfAI.out.now _).mono ?_)
          rintro e w32 ⟨rfl, hb⟩
          have z32 := hb.size
          have Hw32 := Lib.hid (Hw31.out.trans (hb.mono Hw31.out.size))
          clear hb
          go_wp2_with fail
          (with_reducible refine (HfA.out.now _).mono ?_)
          rintro e w33 ⟨rfl, hb⟩
          have z33 := hb.size
          have Hw33 := Lib.hid (Hw32.out.trans (hb.mono Hw32.out.size))
          clear hb
          go_wp2
          go_ret
          exact ⟨rfl, Hw33.out⟩

end Go.Proofs.Ytckpojjjodgonaa
