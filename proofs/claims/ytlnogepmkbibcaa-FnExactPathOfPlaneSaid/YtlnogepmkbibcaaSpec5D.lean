/- The contracts of the model's PathOfPlane and MirrorPlane. -/
import Derived.Test.YtlnogepmkbibcaaSpec5C
namespace Go.Proofs.Ytlnogepmkbibcaa
open Go.ChangeShapes Go.WideShapes Go.ChangeAt Go.RowKit
set_option linter.unusedVariables false

/-- The letters up to the vertex j, out of the levels. -/
def qL (l : List Int) : Nat → List UInt8
  | 0 => []
  | j + 1 => qL l j ++ List.replicate (l.getD j 0 - l.getD (j + 1) 0 + 1).toNat 100 ++ [117]
theorem qL_len {l : List Int} (hb : ∀ q, q < l.length → 0 ≤ l.getD q 0 ∧ l.getD q 0 ≤ 8) : ∀ j, j < l.length → (qL l j).length ≤ 10 * j := by
  intro j
  induction j with
  | zero => intro _; exact Nat.le_refl _
  | succ j ih =>
    intro hj
    have h1 := hb j (by omega)
    have h2 := hb (j + 1) hj
    have := ih (by omega)
    rw [qL, List.length_append, List.length_append, List.length_replicate, List.length_singleton]
    omega
def ppW (xs : List Int) : ByteArray := ⟨(qL (levelsP xs) (xs.length - 1) ++ List.replicate ((levelsP xs).getD (xs.length - 1) 0).toNat 100).toArray⟩
def popP (xs : List Int) : ByteArray := if planeB xs = true then ppW xs else ⟨#[]⟩
theorem popP_size (xs : List Int) : (popP xs).size ≤ 200 := by
  unfold popP
  split
  · rename_i hp
    obtain ⟨⟨l1, l9⟩, hok⟩ := plane_yes hp
    have hlv : levelsP xs = lvL xs xs.length := if_pos hp
    have hll : (levelsP xs).length = xs.length := by rw [hlv, lvL_len]
    have hb : ∀ q, q < (levelsP xs).length → 0 ≤ (levelsP xs).getD q 0 ∧ (levelsP xs).getD q 0 ≤ 8 := fun q hq => by
      rw [hlv]
      have := lvL_bd hok xs.length (Nat.le_refl _) q (by omega)
      omega
    unfold ppW
    rw [str_len, List.length_append, List.length_replicate]
    have := qL_len hb (xs.length - 1) (by omega)
    have := hb (xs.length - 1) (by omega)
    omega
  · exact Nat.zero_le _
theorem rep_snoc (l : List UInt8) (d : Nat) : (⟨(l ++ List.replicate d 100).toArray⟩ : ByteArray) ++ ⟨#[100]⟩ = ⟨(l ++ List.replicate (d + 1) 100).toArray⟩ := by
  rw [str_snoc, List.replicate_succ', List.append_assoc]

set_option maxRecDepth 100000 in
set_option maxHeartbeats 3200000 in
theorem pathOfPlane (v : Value) (xs : List Int) (lo hi : Nat) (w : World) (hv : OwnI w lo hi v xs) (hhi : hi ≤ w.heap.size) (hl : xs.length ≤ 1099511627776) :
    Calls Try.prog 18 #[v] w fun e w' => e = .returned (.tuple #[.string (popP xs), .bool (planeB xs)]) ∧ Below w.heap.size w w' := by
  have HM := Lib.hid (isPlane v xs lo hi w hv hl)
  have HL := Lib.hid (levelsOf v xs lo hi w hv hhi hl)
  obtain ⟨A1, c1, rfl, k1⟩ := id hv
  clear k1 hv
  rcases hp : planeB xs with _ | _
  · have HP := Lib.hid (show popP xs = ⟨#[]⟩ from if_neg (by simp [hp]))
    rw [hp] at HM
    clear hp
    go_enter Try.func18, Try.ntmps18
    go_wp2_with fail
    (with_reducible refine HM.out.mono ?_)
    rintro e w' ⟨rfl, rfl⟩
    go_wp2
    go_ret2
    exact ⟨ret_sb HP.out.symm rfl, Below.refl _ _⟩
  · obtain ⟨⟨l1, l9⟩, hok⟩ := plane_yes hp
    have hlv : levelsP xs = lvL xs xs.length := if_pos hp
    have hll : (levelsP xs).length = xs.length := by rw [hlv, lvL_len]
    have hb : ∀ q, q < (levelsP xs).length → 0 ≤ (levelsP xs).getD q 0 ∧ (levelsP xs).getD q 0 ≤ 8 := fun q hq => by
      rw [hlv]
      have := lvL_bd hok xs.length (Nat.le_refl _) q (by omega)
      omega
    have HQL := Lib.hid (qL_len hb)
    have HBD := Lib.hid hb
    have HLL := Lib.hid hll
    have h0 : popP xs = ppW xs := if_pos hp
    unfold ppW at h0
    have HP := Lib.hid h0
    clear h0
    rw [hp] at HM
    clear hp hlv hll hb hok
    generalize levelsP xs = l at *
    go_enter Try.func18, Try.ntmps18
    go_wp2_with fail
    (with_reducible refine HM.out.mono ?_)
    rintro e w' ⟨rfl, rfl⟩
    go_wp2_with fail
    (with_reducible refine HL.out.mono ?_)
    rintro e w2 ⟨v2, rfl, ho, hb⟩
    obtain ⟨A2, c2, rfl, k2⟩ := id ho
    clear k2
    have HO := Lib.hid ho
    have HB := Lib.hid hb
    clear ho hb HL HM
    go_wp2
    go_loop [5, 6] (fun x y => ∃ j : Nat, j + 1 ≤ xs.length ∧ y = .int .i64 ((j + 1 : Nat) : Int) ∧ x = .string ⟨(qL l j).toArray⟩) (fun _ y => xs.length - (intOf y).toNat)
    case atStart => exact ⟨0, by omega, rfl, rfl⟩
    case round =>
      obtain ⟨j, hj, rfl, rfl⟩ := hrel
      have hqs : (⟨(qL l j).toArray⟩ : ByteArray).size = (qL l j).length := by rw [str_len]
      have hq80 := HQL.out j (by have := HLL.out; omega)
      obtain ⟨i, hi⟩ : ∃ i, i = j + 1 := ⟨_, rfl⟩
      rw [← hi]
      have HI := Lib.hid hi
      have hij : (i : Int) - 1 = (j : Int) := by omega
      have hi9 : i ≤ 9 := by omega
      have hj9 : j ≤ 9 := by omega
      by_cases hlt : i < xs.length
      · have hii : (i : Int) < (xs.length : Int) := by omega
        have hjl : (j : Int) < (l.length : Int) := by have := HLL.out; omega
        have hil : (i : Int) < (l.length : Int) := by have := HLL.out; omega
        obtain ⟨g2, q2, e2, -, -, hc2, -⟩ := HO.out.cell (j := j) (by omega)
        obtain ⟨g3, q3, e3, -, -, hc3, -⟩ := HO.out.cell (j := i) (by omega)
        obtain ⟨rfl, -, rfl⟩ := Value.slice.inj e2
        obtain rfl : g2 = g3 := by simpa using (Value.slice.inj e3).1
        have hb2 := HBD.out j (by omega)
        have hb3 := HBD.out i (by omega)
        have HSU := Lib.hid (show qL l i = qL l j ++ List.replicate (l.getD j 0 - l.getD i 0 + 1).toNat 100 ++ [117] by rw [hi]; rfl)
        clear hi
        generalize l.getD j 0 = a at *
        generalize l.getD i 0 = b at *
        generalize qL l j = base at *
        go_wp2
        go_loop [5, 7] (fun x y => ∃ d : Nat, d ≤ (a - b + 1).toNat ∧ y = .int .i64 (a - d) ∧ x = .string ⟨(base ++ List.replicate d 100).toArray⟩) (fun _ y => (intOf y + 100).toNat)
        case atStart => exact ⟨0, Nat.zero_le _, by simp, by simp⟩
        case round =>
          obtain ⟨d, hd, rfl, rfl⟩ := hrel
          have hds : (⟨(base ++ List.replicate d 100).toArray⟩ : ByteArray).size ≤ 200 := by rw [str_len, List.length_append, List.length_replicate]; omega
          by_cases hk : b ≤ a - d
          · have HR := Lib.hid (rep_snoc base d)
            have e1 : (⟨#[100]⟩ : ByteArray).size = 1 := rfl
            have z1 : ¬ 9223372036854775807 < (⟨(base ++ List.replicate d 100).toArray⟩ : ByteArray).size + (⟨#[100]⟩ : ByteArray).size := by omega
            generalize (⟨(base ++ List.replicate d 100).toArray⟩ : ByteArray) = t at *
            go_wp2
            exact ⟨⟨d + 1, by omega, by congr 1; omega, by rw [HR.out]⟩, by simp [intOf]; omega⟩
          · have HD := Lib.hid (show d = (a - b + 1).toNat by omega)
            have HR := Lib.hid (str_snoc (base ++ List.replicate d 100) 117)
            have e1 : (⟨#[117]⟩ : ByteArray).size = 1 := rfl
            have z1 : ¬ 9223372036854775807 < (⟨(base ++ List.replicate d 100).toArray⟩ : ByteArray).size + (⟨#[117]⟩ : ByteArray).size := by omega
            have hkd : ¬ b ≤ a - (d : Int) := hk
            generalize (⟨(base ++ List.replicate d 100).toArray⟩ : ByteArray) = t at *
            go_wp2
            exact ⟨⟨i, by omega, by simp, by rw [HR.out, HSU.out, HD.out]⟩, by simp [intOf]; omega⟩
      · have hil : ¬ (i : Int) < (xs.length : Int) := by omega
        have HN := Lib.hid (show xs.length - 1 = j by omega)
        have hxj : (xs.length : Int) - 1 = (j : Int) := by omega
        have hjl : (j : Int) < (l.length : Int) := by have := HLL.out; omega
        obtain ⟨g2, q2, e2, -, -, hc2, -⟩ := HO.out.cell (j := j) (by omega)
        obtain ⟨rfl, -, rfl⟩ := Value.slice.inj e2
        have hb2 := HBD.out j (by omega)
        have HPP := Lib.hid (show popP xs = ⟨(qL l j ++ List.replicate (l.getD j 0).toNat 100).toArray⟩ by rw [HP.out, HN.out])
        clear hi
        generalize l.getD j 0 = a at *
        generalize qL l j = base at *
        go_wp2
        go_loop [5, 8] (fun x y => ∃ d : Nat, (d : Int) ≤ a ∧ y = .int .i64 (a - d) ∧ x = .string ⟨(base ++ List.replicate d 100).toArray⟩) (fun _ y => (intOf y).toNat)
        case atStart => exact ⟨0, by omega, by simp, by simp⟩
        case round =>
          obtain ⟨d, hd, rfl, rfl⟩ := hrel
          have hds : (⟨(base ++ List.replicate d 100).toArray⟩ : ByteArray).size ≤ 200 := by rw [str_len, List.length_append, List.length_replicate]; omega
          by_cases hk : (0 : Int) < a - d
          · have HR := Lib.hid (rep_snoc base d)
            have e1 : (⟨#[100]⟩ : ByteArray).size = 1 := rfl
            have z1 : ¬ 9223372036854775807 < (⟨(base ++ List.replicate d 100).toArray⟩ : ByteArray).size + (⟨#[100]⟩ : ByteArray).size := by omega
            generalize (⟨(base ++ List.replicate d 100).toArray⟩ : ByteArray) = t at *
            go_wp2
            exact ⟨⟨d + 1, by omega, by congr 1; omega, by rw [HR.out]⟩, by simp [intOf]; omega⟩
          · have HD := Lib.hid (show a.toNat = d by omega)
            have hkd : ¬ (0 : Int) < a - (d : Int) := hk
            go_wp2
            go_ret2
            exact ⟨ret_sb (by rw [HPP.out, HD.out]) rfl, HB.out⟩

/-- What MirrorPlane answers. -/
def mirOk (xs : List Int) : Bool := planeB xs && dyck (popP xs)
def mirrorP (xs : List Int) : List Int := if mirOk xs = true then planeOfP (reverseP (popP xs)) else []
theorem ret_ip {A A' : Value} {x y : Bool} (h : A = A') (h' : x = y) : Ending.returned (.tuple #[A, .bool x]) = .returned (.tuple #[A', .bool y]) := by rw [h, h']
theorem rev_dyck (s : ByteArray) : (reverseP s).size ≤ s.size := by
  unfold reverseP; split
  · rw [str_len, backL_len]; omega
  · exact Nat.zero_le _

set_option maxRecDepth 100000 in
set_option maxHeartbeats 1600000 in
theorem mirrorPlane (v : Value) (xs : List Int) (lo hi : Nat) (w : World) (hv : OwnI w lo hi v xs) (hhi : hi ≤ w.heap.size) (hl : xs.length ≤ 1099511627776) :
    Calls Try.prog 26 #[v] w (AnsIP (mirrorP xs) (mirOk xs) w) := by
  have HP := Lib.hid (pathOfPlane v xs lo hi w hv hhi hl)
  have hps := popP_size xs
  have hrs := rev_dyck (popP xs)
  obtain ⟨A1, c1, rfl, -⟩ := hv
  have HR := Lib.hid (fun w' => reversePath (popP xs) w' (by omega))
  have HPL := Lib.hid (fun w' => planeOf (reverseP (popP xs)) w' (by omega))
  have HMO := Lib.hid (show mirOk xs = (planeB xs && dyck (popP xs)) from rfl)
  have HMP := Lib.hid (show mirrorP xs = if mirOk xs = true then planeOfP (reverseP (popP xs)) else [] from rfl)
  clear hrs
  generalize popP xs = p at *
  generalize reverseP p = r at *
  generalize planeOfP r = ys at *
  generalize dyck r = dr at *
  rcases h1 : planeB xs with _ | _
  · rw [h1] at HP HMO
    have HM1 := Lib.hid (show mirOk xs = false from HMO.out)
    have HM2 := Lib.hid (show mirrorP xs = [] by rw [HMP.out, HM1.out]; rfl)
    clear h1
    generalize dyck p = dp at *
    go_enter Try.func26, Try.ntmps26
    go_wp2_with fail
    (with_reducible refine HP.out.mono ?_)
    rintro e w1 ⟨rfl, hb⟩
    have z1 := hb.size
    have HB := Lib.hid (hb.alloc z1 (.cells #[] 3))
    clear hb
    go_wp2_with fail
    (with_reducible refine (HR.out _).mono ?_)
    rintro e w' ⟨rfl, rfl⟩
    go_wp2
    go_ret2
    exact ⟨_, ret_ip rfl HM1.out.symm, by rw [HM2.out]; exact ⟨_, _, rfl, .inl rfl⟩, HB.out⟩
  · rw [h1] at HP HMO
    clear h1
    rcases h2 : dyck p with _ | _
    · rw [h2] at HR HMO
      have HM1 := Lib.hid (show mirOk xs = false from HMO.out)
      have HM2 := Lib.hid (show mirrorP xs = [] by rw [HMP.out, HM1.out]; rfl)
      clear h2
      go_enter Try.func26, Try.ntmps26
      go_wp2_with fail
      (with_reducible refine HP.out.mono ?_)
      rintro e w1 ⟨rfl, hb⟩
      have z1 := hb.size
      have HB := Lib.hid (hb.alloc z1 (.cells #[] 3))
      clear hb
      go_wp2_with fail
      (with_reducible refine (HR.out _).mono ?_)
      rintro e w' ⟨rfl, rfl⟩
      go_wp2
      go_ret2
      exact ⟨_, ret_ip rfl HM1.out.symm, by rw [HM2.out]; exact ⟨_, _, rfl, .inl rfl⟩, HB.out⟩
    · rw [h2] at HR HMO
      have HM1 := Lib.hid (show mirOk xs = true from HMO.out)
      have HM2 := Lib.hid (show mirrorP xs = ys by rw [HMP.out, HM1.out]; rfl)
      clear h2
      go_enter Try.func26, Try.ntmps26
      go_wp2_with fail
      (with_reducible refine HP.out.mono ?_)
      rintro e w1 ⟨rfl, hb⟩
      have z1 := hb.size
      have HB := Lib.hid hb
      clear hb
      go_wp2_with fail
      (with_reducible refine (HR.out _).mono ?_)
      rintro e w' ⟨rfl, rfl⟩
      go_wp2_with fail
      (with_reducible refine (HPL.out _).mono ?_)
      rintro e w2 ⟨v2, rfl, ho, hb⟩
      obtain ⟨A2, c2, rfl, k2⟩ := id ho
      clear k2
      have HO := Lib.hid (ho.wide z1 (Nat.le_refl _))
      have HB2 := Lib.hid (HB.out.trans (hb.mono z1))
      clear ho hb
      go_wp2
      go_ret2
      exact ⟨_, ret_ip rfl HM1.out.symm, by rw [HM2.out]; exact HO.out, HB2.out⟩

end Go.Proofs.Ytlnogepmkbibcaa
