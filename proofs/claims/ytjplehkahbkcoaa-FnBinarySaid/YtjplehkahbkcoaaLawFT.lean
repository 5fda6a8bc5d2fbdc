/- The walk of the law FnBinary: one contract a call. -/
import Derived.Test.YtjplehkahbkcoaaPackT
namespace Go.Proofs.Ytjplehkahbkcoaa
open Go.ChangeShapes Go.WideShapes Go.ChangeAt Go.RowKit
set_option linter.unusedVariables false

theorem Code.carry {w w' : World} {A : Option Addr} {n : Nat} (h : Code w w.heap.size A n) (hb : Below w.heap.size w w') : Code w' w'.heap.size A n := by
  have h1 := h.keep hb.block
  refine ⟨h1.1, fun j hj => ?_⟩
  obtain ⟨b, off, z, e1, e2, e3⟩ := h1.2 j hj
  exact ⟨b, off, z, e1, Nat.lt_of_lt_of_le e2 hb.size, e3⟩
theorem half_weight (k : Nat) : (256 / 2 ^ k : Int).tdiv 2 = 256 / 2 ^ (k + 1) := by
  rw [Int.tdiv_eq_ediv_of_nonneg (Int.ediv_nonneg (by omega) (Int.pow_nonneg (by omega))), Int.ediv_ediv_of_nonneg (Int.pow_nonneg (by omega)), Int.pow_succ]
theorem weight_bd (k : Nat) : 0 ≤ (256 / 2 ^ k : Int) ∧ (256 / 2 ^ k : Int) ≤ 256 :=
  ⟨Int.ediv_nonneg (by omega) (Int.pow_nonneg (by omega)), Int.ediv_le_self _ (by omega)⟩

set_option maxRecDepth 100000 in
set_option maxHeartbeats 25600000 in
theorem binary_walk (HT : ImplT) (A : Option Addr) (n cap : Nat) (w : World) (hc : n ≤ 1048576 → Code w w.heap.size A n) :
    Calls Try.prog 3 #[.slice A n cap] w fun e w' => e = .returned (.bool true) ∧ Below w.heap.size w w' := by
  by_cases hbig : 1048576 < n
  · have hd : decide (1048576 < n) = true := by simpa using hbig
    clear hc
    go_enter Try.func3, Try.ntmps3
    go_wp2_with fail
    (with_reducible refine (bigC A n cap _).mono ?_)
    rintro e w1 ⟨rfl, rfl⟩
    go_wp2
    go_ret
    exact ⟨rfl, Below.refl _ _⟩
  have hdn : decide (1048576 < n) = false := by simpa using hbig
  have HC := Lib.hid (hc (by omega))
  have HX := Lib.hid HT
  clear hc hbig HT
  go_enter Try.func3, Try.ntmps3
  go_wp2_with fail
  (with_reducible refine (bigC A n cap _).mono ?_)
  rintro e w0 ⟨rfl, rfl⟩
  go_wp2_with fail
  (with_reducible refine (drawPathOfBinary A n cap _ HC.out).mono ?_)
  rintro e w1 ⟨t, ht, rfl, hb⟩
  have ht50 : t.size ≤ 50 := ht
  have z1 := hb.size
  have Hw1 := Lib.hid hb
  clear hb ht
  have HI1 := Lib.hid (HX.out.path t (by omega))
  have HS1 := Lib.hid (pathOfBinary t)
  have HL1 := Lib.hid (HX.out.lvs t (by omega))
  have HI2 := Lib.hid (HX.out.isb t (by omega))
  have HL2 := Lib.hid (leafLevels t)
  have HN1 := Lib.hid (HX.out.nod t (by omega))
  have HN2 := Lib.hid (nodesOf t)
  have HH1 := Lib.hid (HX.out.hei t (by omega))
  have HH2 := Lib.hid (heightOf t)
  have hxl := lvP_len t
  generalize heightP t = hh at *
  have qhh : (hh != hh) = false := by simp
  rcases hb : binB t with _ | _
  · rw [hb] at HI1 HS1 HI2
    clear hb
    generalize pobiP t = p at *
    generalize nodesP t = nd at *
    generalize hxs : lvP t = xs at *
    clear hxs
    have qnd : (nd != nd) = false := by simp
    have qp1 : (p.toList == p.toList) = true := by simp
    have qp2 : (p.toList != p.toList) = false := by simp
    go_wp2_with fail
    (with_reducible refine (HI1.out.now _).mono ?_)
    rintro e w2 ⟨rfl, hb⟩
    have z2 := hb.size
    have Hw2 := Lib.hid (Hw1.out.trans (hb.mono Hw1.out.size))
    clear hb
    go_wp2_with fail
    (with_reducible refine (HS1.out _ (by omega)).mono ?_)
    rintro e w3 ⟨rfl, hb⟩
    have z3 := hb.size
    have Hw3 := Lib.hid (Hw2.out.trans (hb.mono Hw2.out.size))
    clear hb
    go_wp2_with fail
    (with_reducible refine (HL1.out _).mono ?_)
    rintro e w4 ⟨vl, rfl, ⟨ho, hr⟩, hb⟩
    obtain ⟨Al, cl, rfl, hcl⟩ := hr
    have LL := Lib.hid ho
    have z4 := hb.size
    have Hw4 := Lib.hid (Hw3.out.trans (hb.mono Hw3.out.size))
    clear hb ho
    go_wp2_with fail
    (with_reducible refine (HI2.out.now _).mono ?_)
    rintro e w5 ⟨rfl, hb⟩
    have z5 := hb.size
    have LL_5 := Lib.hid (LL.out.keep hb (by omega))
    have Hw5 := Lib.hid (Hw4.out.trans (hb.mono Hw4.out.size))
    clear hb
    go_wp2_with fail
    (with_reducible refine (HL2.out _ (by omega)).mono ?_)
    rintro e w6 ⟨v6, rfl, ho, hb⟩
    have z6 := hb.size
    obtain ⟨A6, c6, rfl, -⟩ := id ho
    have L2 := Lib.hid ho
    have LL_6 := Lib.hid (LL_5.out.keep hb (by omega))
    have Hw6 := Lib.hid (Hw5.out.trans (hb.mono Hw5.out.size))
    clear hb ho
    go_wp2_with fail
    (with_reducible refine (sameI _ _ _ _ _ _ xs _ LL_6.out L2.out (by omega)).mono ?_)
    rintro e w7 ⟨rfl, hb⟩
    have z7 := hb.size
    have LL_7 := Lib.hid (LL_6.out.keep hb (by omega))
    have L2_7 := Lib.hid (L2.out.keep hb (by omega))
    have Hw7 := Lib.hid (Hw6.out.trans (hb.mono Hw6.out.size))
    clear hb
    go_wp2_with fail
    (with_reducible refine (HN1.out.now _).mono ?_)
    rintro e w8 ⟨rfl, hb⟩
    have z8 := hb.size
    have LL_8 := Lib.hid (LL_7.out.keep hb (by omega))
    have Hw8 := Lib.hid (Hw7.out.trans (hb.mono Hw7.out.size))
    clear hb
    go_wp2_with fail
    (with_reducible refine (HN2.out _ (by omega)).mono ?_)
    rintro e w10 ⟨rfl, rfl⟩
    go_wp2_with fail
    (with_reducible refine (HH1.out.now _).mono ?_)
    rintro e w11 ⟨rfl, hb⟩
    have z11 := hb.size
    have LL_11 := Lib.hid (LL_8.out.keep hb (by omega))
    have Hw11 := Lib.hid (Hw8.out.trans (hb.mono Hw8.out.size))
    clear hb
    go_wp2_with fail
    (with_reducible refine (HH2.out _ (by omega)).mono ?_)
    rintro e w12 ⟨rfl, hb⟩
    have z12 := hb.size
    have LL_12 := Lib.hid (LL_11.out.keep hb (by omega))
    have Hw12 := Lib.hid (Hw11.out.trans (hb.mono Hw11.out.size))
    clear hb
    go_wp2_with fail
    (with_reducible refine (drawPartsOfBinary A n cap _ (HC.out.carry Hw12.out)).mono ?_)
    rintro e w13 ⟨a, ha, rfl, hb⟩
    have z13 := hb.size
    have Hw13 := Lib.hid (Hw12.out.trans (hb.mono Hw12.out.size))
    clear hb
    have ha50 : a.size ≤ 50 := ha
    clear ha
    have HPI := Lib.hid (HX.out.par a (by omega))
    have HPS := Lib.hid (partsOfBinary a)
    have HPP := Lib.hid (pkParts (a := a))
    have hzA : (partA a).size ≤ 50 := by unfold partA; split; (rw [ByteArray.size_extract]; omega); (rw [no_size]; omega)
    have hzB : (partB a).size ≤ 50 := by unfold partB; split; (rw [ByteArray.size_extract]; omega); (rw [no_size]; omega)
    generalize partA a = pa at *
    generalize partB a = pb at *
    generalize partOk a = po at *
    have qpa1 : (pa.toList == pa.toList) = true := by simp
    have qpa2 : (pa.toList != pa.toList) = false := by simp
    have qpb1 : (pb.toList == pb.toList) = true := by simp
    have qpb2 : (pb.toList != pb.toList) = false := by simp
    have qpo : (po == po) = true := by simp
    go_wp2_with fail
    (with_reducible refine (HPI.out.now _).mono ?_)
    rintro e w14 ⟨rfl, hb⟩
    have z14 := hb.size
    have Hw14 := Lib.hid (Hw13.out.trans (hb.mono Hw13.out.size))
    clear hb
    go_wp2_with fail
    (with_reducible refine (HPS.out _ (by omega)).mono ?_)
    rintro e w15 hor
    have hbo : e = .returned (.tuple #[.string pa, .string pb, .bool po]) ∧ Below w14.heap.size w14 w15 := by
      rcases hor with ⟨h1, h2⟩ | ⟨k, h1, h2⟩
      · exact ⟨h1, h2 ▸ Below.refl _ _⟩
      · exact ⟨h1, h2 ▸ below_drewN (Below.refl _ _) k⟩
    clear hor
    obtain ⟨rfl, hb⟩ := hbo
    have z15 := hb.size
    have Hw15 := Lib.hid (Hw14.out.trans (hb.mono Hw14.out.size))
    clear hb
    go_wp2_with fail
    (with_reducible refine (drawBinaryOfLevels A n cap _ (HC.out.carry Hw15.out)).mono ?_)
    rintro e w16 ⟨vf, fs, hfs, rfl, ⟨hof, hrf⟩, hb⟩
    obtain ⟨Af, cf, rfl, hcf⟩ := hrf
    have HF := Lib.hid hof
    have z16 := hb.size
    have Hw16 := Lib.hid (Hw15.out.trans (hb.mono Hw15.out.size))
    clear hb hof
    have HBI := Lib.hid (HX.out.bol Af fs cf)
    have HBS := Lib.hid (binaryOfLevels Af fs cf)
    generalize bolP fs = bo at *
    generalize bolOk fs = bk at *
    have qbo1 : (bo.toList == bo.toList) = true := by simp
    have qbo2 : (bo.toList != bo.toList) = false := by simp
    have qbk : (bk == bk) = true := by simp
    go_wp2_with fail
    (with_reducible refine (HBI.out _ _ _ HF.out (by omega) (by omega) (by omega)).mono ?_)
    rintro e w17 ⟨rfl, hb⟩
    have z17 := hb.size
    have HF_17 := Lib.hid (HF.out.keep hb (by omega))
    have Hw17 := Lib.hid (Hw16.out.trans (hb.mono Hw16.out.size))
    clear hb
    go_wp2_with fail
    (with_reducible refine (HBS.out _ _ _ HF_17.out (by omega) (by omega)).mono ?_)
    rintro e w18 ⟨rfl, hb⟩
    have z18 := hb.size
    have HF_18 := Lib.hid (HF_17.out.keep hb (by omega))
    have Hw18 := Lib.hid (Hw17.out.trans (hb.mono Hw17.out.size))
    clear hb
    go_wp2_with fail
    (with_reducible refine (drawBinaryOf A n cap _ (HC.out.carry Hw18.out)).mono ?_)
    rintro e w19 ⟨i, hi, rfl, hb⟩
    have z19 := hb.size
    have Hw19 := Lib.hid (Hw18.out.trans (hb.mono Hw18.out.size))
    clear hb
    have hi18 := hi.size
    clear hi
    have HOI := Lib.hid (HX.out.bin i (by omega))
    have HOS := Lib.hid (binaryOf i)
    generalize boP i = ti at *
    generalize dyck i = di at *
    have qti1 : (ti.toList == ti.toList) = true := by simp
    have qti2 : (ti.toList != ti.toList) = false := by simp
    have qdi : (di == di) = true := by simp
    go_wp2_with fail
    (with_reducible refine (HOI.out.now _).mono ?_)
    rintro e w20 ⟨rfl, hb⟩
    have z20 := hb.size
    have Hw20 := Lib.hid (Hw19.out.trans (hb.mono Hw19.out.size))
    clear hb
    go_wp2_with fail
    (with_reducible refine (HOS.out _ (by omega)).mono ?_)
    rintro e w21 ⟨rfl, hb⟩
    have z21 := hb.size
    have Hw21 := Lib.hid (Hw20.out.trans (hb.mono Hw20.out.size))
    clear hb
    go_wp2_with fail
    (with_reducible refine (drawMirrorBinary A n cap _ (HC.out.carry Hw21.out)).mono ?_)
    rintro e w22 ⟨m0, hm0, rfl, hb⟩
    have z22 := hb.size
    have Hw22 := Lib.hid (Hw21.out.trans (hb.mono Hw21.out.size))
    clear hb
    have hm50 : m0.size ≤ 50 := hm0
    clear hm0
    have HMI := Lib.hid (HX.out.mir m0 (by omega))
    have HMS := Lib.hid (mirrorBinary m0)
    generalize mirBP m0 = tm at *
    generalize binB m0 = dm at *
    have qtm1 : (tm.toList == tm.toList) = true := by simp
    have qtm2 : (tm.toList != tm.toList) = false := by simp
    have qdm : (dm == dm) = true := by simp
    go_wp2_with fail
    (with_reducible refine (HMI.out.now _).mono ?_)
    rintro e w23 ⟨rfl, hb⟩
    have z23 := hb.size
    have Hw23 := Lib.hid (Hw22.out.trans (hb.mono Hw22.out.size))
    clear hb
    go_wp2_with fail
    (with_reducible refine (HMS.out _ (by omega)).mono ?_)
    rintro e w24 ⟨rfl, hb⟩
    have z24 := hb.size
    have Hw24 := Lib.hid (Hw23.out.trans (hb.mono Hw23.out.size))
    clear hb
    rcases po with _ | _
    · clear HPP
      go_wp2
      go_ret
      exact ⟨rfl, Hw24.out⟩
    · have hpp := HPP.out rfl
      have hpq : (a.toList == (((⟨#[40]⟩ ++ pa) ++ pb) ++ ⟨#[41]⟩ : ByteArray).toList) = true := by rw [← hpp]; simp
      have y1 : ¬ 9223372036854775807 < (⟨#[40]⟩ : ByteArray).size + pa.size := by rw [one_size]; omega
      have y2 : ¬ 9223372036854775807 < (⟨#[40]⟩ ++ pa : ByteArray).size + pb.size := by rw [ByteArray.size_append, one_size]; omega
      have y3 : ¬ 9223372036854775807 < ((⟨#[40]⟩ ++ pa) ++ pb : ByteArray).size + (⟨#[41]⟩ : ByteArray).size := by simp only [ByteArray.size_append, one_size]; omega
      clear HPP hpp
      go_wp2
      go_ret
      exact ⟨rfl, Hw24.out⟩
  · obtain ⟨p, m, k, f1, f2, f3, f4, f5, f6, f7, f8, f9, f10, hk8, hm25, hp16, hbd, hsum⟩ := pkTree hb
    rw [hb] at HI1 HS1 HI2
    rw [f1] at HI1 HS1
    rw [f10] at HN1 HN2
    have HB1 := Lib.hid (HX.out.bin p (by omega))
    rw [f3, f2] at HB1
    have HM1 := Lib.hid (HX.out.mir t (by omega))
    rw [f6, hb] at HM1
    have HM2 := Lib.hid (HX.out.mir m (by omega))
    rw [f8, f7] at HM2
    have HK1 := Lib.hid fun A c => HX.out.bol A (lvP t) c
    rw [f4, f5] at HK1
    generalize lvP t = xs at *
    have hlk : xs.length = k + 1 := f9
    have HSUM := Lib.hid hsum
    have HBD := Lib.hid hbd
    have hki : (xs.length : Int) = (k : Int) + 1 := by omega
    have qkk : ((k : Int) != (k : Int)) = false := by simp
    have qk1 : ((xs.length : Int) != (k : Int) + 1) = false := by rw [hki]; simp
    have HKI := Lib.hid hki
    have HLK := Lib.hid hlk
    clear f1 f2 f3 f4 f5 f6 f7 f8 f9 f10 hb hbd hsum hki hlk
    have qp1 : (p.toList == p.toList) = true := by simp
    have qp2 : (p.toList != p.toList) = false := by simp
    have qt1 : (t.toList == t.toList) = true := by simp
    have qt2 : (t.toList != t.toList) = false := by simp
    have qm1 : (m.toList == m.toList) = true := by simp
    have qm2 : (m.toList != m.toList) = false := by simp
    go_wp2_with fail
    (with_reducible refine (HI1.out.now _).mono ?_)
    rintro e w2 ⟨rfl, hb⟩
    have z2 := hb.size
    have Hw2 := Lib.hid (Hw1.out.trans (hb.mono Hw1.out.size))
    clear hb
    go_wp2_with fail
    (with_reducible refine (HS1.out _ (by omega)).mono ?_)
    rintro e w3 ⟨rfl, hb⟩
    have z3 := hb.size
    have Hw3 := Lib.hid (Hw2.out.trans (hb.mono Hw2.out.size))
    clear hb
    go_wp2_with fail
    (with_reducible refine (HL1.out _).mono ?_)
    rintro e w4 ⟨vl, rfl, ⟨ho, hr⟩, hb⟩
    obtain ⟨Al, cl, rfl, hcl⟩ := hr
    have LL := Lib.hid ho
    have z4 := hb.size
    have Hw4 := Lib.hid (Hw3.out.trans (hb.mono Hw3.out.size))
    clear hb ho
    go_wp2_with fail
    (with_reducible refine (HI2.out.now _).mono ?_)
    rintro e w5 ⟨rfl, hb⟩
    have z5 := hb.size
    have LL_5 := Lib.hid (LL.out.keep hb (by omega))
    have Hw5 := Lib.hid (Hw4.out.trans (hb.mono Hw4.out.size))
    clear hb
    go_wp2_with fail
    (with_reducible refine (HL2.out _ (by omega)).mono ?_)
    rintro e w6 ⟨v6, rfl, ho, hb⟩
    have z6 := hb.size
    obtain ⟨A6, c6, rfl, -⟩ := id ho
    have L2 := Lib.hid ho
    have LL_6 := Lib.hid (LL_5.out.keep hb (by omega))
    have Hw6 := Lib.hid (Hw5.out.trans (hb.mono Hw5.out.size))
    clear hb ho
    go_wp2_with fail
    (with_reducible refine (sameI _ _ _ _ _ _ xs _ LL_6.out L2.out (by omega)).mono ?_)
    rintro e w7 ⟨rfl, hb⟩
    have z7 := hb.size
    have LL_7 := Lib.hid (LL_6.out.keep hb (by omega))
    have L2_7 := Lib.hid (L2.out.keep hb (by omega))
    have Hw7 := Lib.hid (Hw6.out.trans (hb.mono Hw6.out.size))
    clear hb
    go_wp2_with fail
    (with_reducible refine (HN1.out.now _).mono ?_)
    rintro e w8 ⟨rfl, hb⟩
    have z8 := hb.size
    have LL_8 := Lib.hid (LL_7.out.keep hb (by omega))
    have Hw8 := Lib.hid (Hw7.out.trans (hb.mono Hw7.out.size))
    clear hb
    go_wp2_with fail
    (with_reducible refine (HN2.out _ (by omega)).mono ?_)
    rintro e w10 ⟨rfl, rfl⟩
    go_wp2_with fail
    (with_reducible refine (HH1.out.now _).mono ?_)
    rintro e w11 ⟨rfl, hb⟩
    have z11 := hb.size
    have LL_11 := Lib.hid (LL_8.out.keep hb (by omega))
    have Hw11 := Lib.hid (Hw8.out.trans (hb.mono Hw8.out.size))
    clear hb
    go_wp2_with fail
    (with_reducible refine (HH2.out _ (by omega)).mono ?_)
    rintro e w12 ⟨rfl, hb⟩
    have z12 := hb.size
    have LL_12 := Lib.hid (LL_11.out.keep hb (by omega))
    have Hw12 := Lib.hid (Hw11.out.trans (hb.mono Hw11.out.size))
    clear hb
    go_wp2_with fail
    (with_reducible refine (HB1.out.now _).mono ?_)
    rintro e w13 ⟨rfl, hb⟩
    have z13 := hb.size
    have LL_13 := Lib.hid (LL_12.out.keep hb (by omega))
    have Hw13 := Lib.hid (Hw12.out.trans (hb.mono Hw12.out.size))
    clear hb
    go_wp2_with fail
    (with_reducible refine (HK1.out _ _ _ _ _ LL_13.out (by omega) (by omega) (by omega)).mono ?_)
    rintro e w14 ⟨rfl, hb⟩
    have z14 := hb.size
    have LL_14 := Lib.hid (LL_13.out.keep hb (by omega))
    have Hw14 := Lib.hid (Hw13.out.trans (hb.mono Hw13.out.size))
    clear hb
    go_wp2_with fail
    (with_reducible refine (HM1.out.now _).mono ?_)
    rintro e w15 ⟨rfl, hb⟩
    have z15 := hb.size
    have LL_15 := Lib.hid (LL_14.out.keep hb (by omega))
    have Hw15 := Lib.hid (Hw14.out.trans (hb.mono Hw14.out.size))
    clear hb
    go_wp2_with fail
    (with_reducible refine (HM2.out.now _).mono ?_)
    rintro e w16 ⟨rfl, hb⟩
    have z16 := hb.size
    have LL_16 := Lib.hid (LL_15.out.keep hb (by omega))
    have Hw16 := Lib.hid (Hw15.out.trans (hb.mono Hw15.out.size))
    clear hb
    go_wp2_with fail
    (with_reducible refine (HN1.out.now _).mono ?_)
    rintro e w17 ⟨rfl, hb⟩
    have z17 := hb.size
    have LL_17 := Lib.hid (LL_16.out.keep hb (by omega))
    have Hw17 := Lib.hid (Hw16.out.trans (hb.mono Hw16.out.size))
    clear hb
    go_wp2
    go_loop [17, 18] (fun S I => ∃ (i : Nat) (sum : Int), i ≤ xs.length ∧ I = .int .i64 i ∧ S = .int .i64 sum ∧ 0 ≤ sum ∧ sum ≤ 256 * i ∧ sum + ((xs.drop i).map weight).sum = 256) (fun _ I => xs.length - (intOf I).toNat)
    case atStart => exact ⟨0, 0, Nat.zero_le _, rfl, rfl, by omega, by omega, by rw [List.drop_zero]; have := HSUM.out; omega⟩
    case round =>
      obtain ⟨i, sum, hi, rfl, rfl, s0, s1, hs⟩ := hrel
      have HS9 := Lib.hid hs
      clear hs
      by_cases hlt : i < xs.length
      · have hii : (i : Int) < (xs.length : Int) := by omega
        have HD := Lib.hid (drop_int xs i hlt)
        obtain ⟨g1, p1, e1, -, -, hc1, -⟩ := LL_17.out.cell hlt
        simp only [Value.slice.injEq] at e1
        obtain ⟨rfl, -, rfl⟩ := e1
        have hyb := HBD.out (xs.getD i 0) (by rw [List.getD_eq_getElem?_getD, List.getElem?_eq_getElem hlt]; exact List.getElem_mem hlt)
        generalize xs.getD i 0 = y at hc1 HD hyb
        obtain ⟨y0, y8⟩ := hyb
        obtain ⟨y, rfl⟩ : ∃ q : Nat, y = q := ⟨y.toNat, by omega⟩
        go_wp2
        go_loop [19, 20] (fun O K => ∃ k : Nat, k ≤ y ∧ K = .int .i64 k ∧ O = .int .i64 (256 / 2 ^ k)) (fun _ K => y - (intOf K).toNat)
        case atStart => exact ⟨0, Nat.zero_le _, rfl, by simp⟩
        case round =>
          obtain ⟨k2, hk2, rfl, rfl⟩ := hrel
          have hwt := half_weight k2
          obtain ⟨wb0, wb1⟩ := weight_bd k2
          by_cases hky : k2 < y
          · have hkyi : (k2 : Int) < (y : Int) := by omega
            have HWT := Lib.hid hwt
            clear hwt
            generalize (256 / 2 ^ k2 : Int) = o at *
            go_wp2
            exact ⟨⟨k2 + 1, by omega, by simp, by rw [← HWT.out, Int.tdiv_eq_ediv_of_nonneg wb0]⟩, by simp [intOf]; omega⟩
          · obtain rfl : k2 = y := by omega
            have hkyi : ¬ ((k2 : Int) < (k2 : Int)) := by omega
            have HWE := Lib.hid (show (256 / 2 ^ k2 : Int) = weight (k2 : Int) by unfold weight; rw [Int.toNat_natCast])
            clear hwt
            generalize (256 / 2 ^ k2 : Int) = o at *
            go_wp2
            refine ⟨⟨i + 1, sum + o, by omega, by simp, rfl, by omega, by simp; omega, ?_⟩, by simp [intOf]; omega⟩
            have h9 := HS9.out
            rw [HD.out, List.map_cons, List.sum_cons, ← HWE.out] at h9
            omega
      · have hii : ¬ (i : Int) < (xs.length : Int) := by omega
        have hse : sum = 256 := by
          have h9 := HS9.out
          rw [List.drop_of_length_le (by omega)] at h9
          simpa using h9
        subst hse
        go_wp2_with fail
        (with_reducible refine (drawPartsOfBinary A n cap _ (HC.out.carry Hw17.out)).mono ?_)
        rintro e w18 ⟨a, ha, rfl, hb⟩
        have z18 := hb.size
        have Hw18 := Lib.hid (Hw17.out.trans (hb.mono Hw17.out.size))
        clear hb
        have ha50 : a.size ≤ 50 := ha
        clear ha
        have HPI := Lib.hid (HX.out.par a (by omega))
        have HPS := Lib.hid (partsOfBinary a)
        have HPP := Lib.hid (pkParts (a := a))
        have hzA : (partA a).size ≤ 50 := by unfold partA; split; (rw [ByteArray.size_extract]; omega); (rw [no_size]; omega)
        have hzB : (partB a).size ≤ 50 := by unfold partB; split; (rw [ByteArray.size_extract]; omega); (rw [no_size]; omega)
        generalize partA a = pa at *
        generalize partB a = pb at *
        generalize partOk a = po at *
        have qpa1 : (pa.toList == pa.toList) = true := by simp
        have qpa2 : (pa.toList != pa.toList) = false := by simp
        have qpb1 : (pb.toList == pb.toList) = true := by simp
        have qpb2 : (pb.toList != pb.toList) = false := by simp
        have qpo : (po == po) = true := by simp
        go_wp2_with fail
        (with_reducible refine (HPI.out.now _).mono ?_)
        rintro e w19 ⟨rfl, hb⟩
        have z19 := hb.size
        have Hw19 := Lib.hid (Hw18.out.trans (hb.mono Hw18.out.size))
        clear hb
        go_wp2_with fail
        (with_reducible refine (HPS.out _ (by omega)).mono ?_)
        rintro e w20 hor
        have hbo : e = .returned (.tuple #[.string pa, .string pb, .bool po]) ∧ Below w19.heap.size w19 w20 := by
          rcases hor with ⟨h1, h2⟩ | ⟨k, h1, h2⟩
          · exact ⟨h1, h2 ▸ Below.refl _ _⟩
          · exact ⟨h1, h2 ▸ below_drewN (Below.refl _ _) k⟩
        clear hor
        obtain ⟨rfl, hb⟩ := hbo
        have z20 := hb.size
        have Hw20 := Lib.hid (Hw19.out.trans (hb.mono Hw19.out.size))
        clear hb
        go_wp2_with fail
        (with_reducible refine (drawBinaryOfLevels A n cap _ (HC.out.carry Hw20.out)).mono ?_)
        rintro e w21 ⟨vf, fs, hfs, rfl, ⟨hof, hrf⟩, hb⟩
        obtain ⟨Af, cf, rfl, hcf⟩ := hrf
        have HF := Lib.hid hof
        have z21 := hb.size
        have Hw21 := Lib.hid (Hw20.out.trans (hb.mono Hw20.out.size))
        clear hb hof
        have HBI := Lib.hid (HX.out.bol Af fs cf)
        have HBS := Lib.hid (binaryOfLevels Af fs cf)
        generalize bolP fs = bo at *
        generalize bolOk fs = bk at *
        have qbo1 : (bo.toList == bo.toList) = true := by simp
        have qbo2 : (bo.toList != bo.toList) = false := by simp
        have qbk : (bk == bk) = true := by simp
        go_wp2_with fail
        (with_reducible refine (HBI.out _ _ _ HF.out (by omega) (by omega) (by omega)).mono ?_)
        rintro e w22 ⟨rfl, hb⟩
        have z22 := hb.size
        have HF_22 := Lib.hid (HF.out.keep hb (by omega))
        have Hw22 := Lib.hid (Hw21.out.trans (hb.mono Hw21.out.size))
        clear hb
        go_wp2_with fail
        (with_reducible refine (HBS.out _ _ _ HF_22.out (by omega) (by omega)).mono ?_)
        rintro e w23 ⟨rfl, hb⟩
        have z23 := hb.size
        have HF_23 := Lib.hid (HF_22.out.keep hb (by omega))
        have Hw23 := Lib.hid (Hw22.out.trans (hb.mono Hw22.out.size))
        clear hb
        go_wp2_with fail
        (with_reducible refine (drawBinaryOf A n cap _ (HC.out.carry Hw23.out)).mono ?_)
        rintro e w24 ⟨i, hi, rfl, hb⟩
        have z24 := hb.size
        have Hw24 := Lib.hid (Hw23.out.trans (hb.mono Hw23.out.size))
        clear hb
        have hi18 := hi.size
        clear hi
        have HOI := Lib.hid (HX.out.bin i (by omega))
        have HOS := Lib.hid (binaryOf i)
        generalize boP i = ti at *
        generalize dyck i = di at *
        have qti1 : (ti.toList == ti.toList) = true := by simp
        have qti2 : (ti.toList != ti.toList) = false := by simp
        have qdi : (di == di) = true := by simp
        go_wp2_with fail
        (with_reducible refine (HOI.out.now _).mono ?_)
        rintro e w25 ⟨rfl, hb⟩
        have z25 := hb.size
        have Hw25 := Lib.hid (Hw24.out.trans (hb.mono Hw24.out.size))
        clear hb
        go_wp2_with fail
        (with_reducible refine (HOS.out _ (by omega)).mono ?_)
        rintro e w26 ⟨rfl, hb⟩
        have z26 := hb.size
        have Hw26 := Lib.hid (Hw25.out.trans (hb.mono Hw25.out.size))
        clear hb
        go_wp2_with fail
        (with_reducible refine (drawMirrorBinary A n cap _ (HC.out.carry Hw26.out)).mono ?_)
        rintro e w27 ⟨m0, hm0, rfl, hb⟩
        have z27 := hb.size
        have Hw27 := Lib.hid (Hw26.out.trans (hb.mono Hw26.out.size))
        clear hb
        have hm50 : m0.size ≤ 50 := hm0
        clear hm0
        have HMI := Lib.hid (HX.out.mir m0 (by omega))
        have HMS := Lib.hid (mirrorBinary m0)
        generalize mirBP m0 = tm at *
        generalize binB m0 = dm at *
        have qtm1 : (tm.toList == tm.toList) = true := by simp
        have qtm2 : (tm.toList != tm.toList) = false := by simp
        have qdm : (dm == dm) = true := by simp
        go_wp2_with fail
        (with_reducible refine (HMI.out.now _).mono ?_)
        rintro e w28 ⟨rfl, hb⟩
        have z28 := hb.size
        have Hw28 := Lib.hid (Hw27.out.trans (hb.mono Hw27.out.size))
        clear hb
        go_wp2_with fail
        (with_reducible refine (HMS.out _ (by omega)).mono ?_)
        rintro e w29 ⟨rfl, hb⟩
        have z29 := hb.size
        have Hw29 := Lib.hid (Hw28.out.trans (hb.mono Hw28.out.size))
        clear hb
        rcases po with _ | _
        · clear HPP
          go_wp2
          go_ret
          exact ⟨rfl, Hw29.out⟩
        · have hpp := HPP.out rfl
          have hpq : (a.toList == (((⟨#[40]⟩ ++ pa) ++ pb) ++ ⟨#[41]⟩ : ByteArray).toList) = true := by rw [← hpp]; simp
          have y1 : ¬ 9223372036854775807 < (⟨#[40]⟩ : ByteArray).size + pa.size := by rw [one_size]; omega
          have y2 : ¬ 9223372036854775807 < (⟨#[40]⟩ ++ pa : ByteArray).size + pb.size := by rw [ByteArray.size_append, one_size]; omega
          have y3 : ¬ 9223372036854775807 < ((⟨#[40]⟩ ++ pa) ++ pb : ByteArray).size + (⟨#[41]⟩ : ByteArray).size := by simp only [ByteArray.size_append, one_size]; omega
          clear HPP hpp
          go_wp2
          go_ret
          exact ⟨rfl, Hw29.out⟩

end Go.Proofs.Ytjplehkahbkcoaa
