/- The contracts of the model's ReturnsOf, AreaOf, PeaksOf. -/
import Derived.Test.YtpggglcjocnjlaaGreatSpec2B
namespace Go.Proofs.YtpggglcjocnjlaaGreat
open Go.ChangeShapes Go.WideShapes Go.ChangeAt Go.RowKit
open Go.PlainAid (bt bt_nonneg bt_le get_bt)
set_option linter.unusedVariables false

/-- How many zeros. -/
def zeros : List Int → Nat
  | [] => 0
  | x :: l => (if x = 0 then 1 else 0) + zeros l
theorem zeros_snoc (l : List Int) (x : Int) : zeros (l ++ [x]) = zeros l + if x = 0 then 1 else 0 := by
  induction l with
  | nil => simp [zeros]
  | cons y l ih => simp only [List.cons_append, zeros, ih]; omega
theorem zeros_le (l : List Int) : zeros l ≤ l.length := by
  induction l with
  | nil => simp [zeros]
  | cons y l ih => simp only [zeros, List.length_cons]; split <;> omega
theorem take_int (xs : List Int) (i : Nat) (h : i < xs.length) : xs.take (i + 1) = xs.take i ++ [xs.getD i 0] := by
  rw [List.take_succ_eq_append_getElem h, List.getD_eq_getElem?_getD, List.getElem?_eq_getElem h]; rfl
def returnsP (s : ByteArray) : Int := (zeros (heightsP s) : Int) - 1

set_option maxRecDepth 100000 in
set_option maxHeartbeats 800000 in
theorem returnsOf (s : ByteArray) (w : World) (hs : s.size ≤ 1099511627776) : Calls Tryz.prog 43 #[.string s] w fun e w' => e = .returned (.int .i64 (returnsP s)) ∧ Below w.heap.size w w' := by
  have hl := heightsP_len s
  go_enter Tryz.func43, Tryz.ntmps43
  go_wp2_with fail
  (with_reducible refine (heightsOf s _ hs).mono ?_)
  rintro e w1 ⟨v, rfl, ho, hb⟩
  obtain ⟨A1, c1, rfl, k1⟩ := id ho
  clear k1
  have HO := Lib.hid ho
  have HB := Lib.hid hb
  have HR := Lib.hid (show returnsP s = (zeros (heightsP s) : Int) - 1 from rfl)
  clear ho hb
  generalize heightsP s = xs at *
  go_wp2
  go_loop [4, 5] (fun x y => ∃ i : Nat, i ≤ xs.length ∧ y = .int .i64 i ∧ x = .int .i64 ((zeros (xs.take i) : Int) - 1)) (fun _ y => xs.length - (intOf y).toNat)
  case atStart => exact ⟨0, Nat.zero_le _, rfl, by simp [zeros]⟩
  case round =>
    obtain ⟨i, hi, rfl, rfl⟩ := hrel
    have hz := zeros_le (xs.take i)
    have hz2 := List.length_take_le i xs
    obtain ⟨z, hzz, HZ⟩ : ∃ z : Nat, zeros (xs.take i) = z ∧ Hid (zeros (xs.take i) = z) := ⟨_, rfl, rfl⟩
    rw [hzz] at hz ⊢
    have hz3 : z ≤ 17 := by omega
    clear hz hz2 hzz
    by_cases hlt : i < xs.length
    · obtain ⟨g1, p1, e1, -, -, hc1, -⟩ := HO.out.cell hlt
      simp only [Value.slice.injEq] at e1
      obtain ⟨rfl, -, rfl⟩ := e1
      have hii : (i : Int) < (xs.length : Int) := by omega
      have HS := Lib.hid (show zeros (xs.take (i + 1)) = z + if xs.getD i 0 = 0 then 1 else 0 by rw [take_int xs i hlt, zeros_snoc, HZ.out])
      generalize xs.getD i 0 = y at hc1 HS
      by_cases hy : y = 0
      · have b1 : (y == 0) = true := by simp [hy]
        have HY := Lib.hid hy
        clear hy
        go_wp2
        refine ⟨⟨i + 1, by omega, by simp, ?_⟩, by simp [intOf]; omega⟩
        rw [HS.out, if_pos HY.out]; congr 1; omega
      · have b1 : (y == 0) = false := by simp [hy]
        have HY := Lib.hid hy
        clear hy
        go_wp2
        refine ⟨⟨i + 1, by omega, by simp, ?_⟩, by simp [intOf]; omega⟩
        rw [HS.out, if_neg HY.out]; congr 1
    · obtain rfl : i = xs.length := by omega
      go_wp2
      go_ret
      refine ⟨ret_int ?_, HB.out⟩
      rw [HR.out, ← HZ.out, List.take_length]

/-- The sum of the heights before the letters u. -/
def aL : List UInt8 → List Int → Int
  | c :: l, x :: xs => (if c.toNat = 117 then x else 0) + aL l xs
  | _, _ => 0
theorem aL_up (c : UInt8) (l : List UInt8) (x : Int) (xs : List Int) (e : c.toNat = 117) : aL (c :: l) (x :: xs) = x + aL l xs := by rw [aL, if_pos e]
theorem aL_down (c : UInt8) (l : List UInt8) (x : Int) (xs : List Int) (e : c.toNat ≠ 117) : aL (c :: l) (x :: xs) = aL l xs := by rw [aL, if_neg e]; omega
theorem aL_nil (xs : List Int) : aL [] xs = 0 := by cases xs <;> rfl
theorem drop_int (xs : List Int) (i : Nat) (h : i < xs.length) : xs.drop i = xs.getD i 0 :: xs.drop (i + 1) := by
  rw [List.drop_eq_getElem_cons h, List.getD_eq_getElem?_getD, List.getElem?_eq_getElem h]; rfl
theorem hsL_bd (h : Int) (l : List UInt8) : ∀ x ∈ hsL h l, h - l.length ≤ x ∧ x ≤ h + l.length := by
  induction l generalizing h with
  | nil => intro x hx; simp [hsL] at hx; subst hx; simp
  | cons c l ih =>
    intro x hx
    rw [hsL] at hx
    simp only [List.length_cons]
    rcases List.mem_cons.1 hx with rfl | hx
    · omega
    · have := ih _ x hx
      split at this <;> omega
theorem heightsP_bd (s : ByteArray) (i : Nat) (h : i < (heightsP s).length) : -16 ≤ (heightsP s).getD i 0 ∧ (heightsP s).getD i 0 ≤ 16 := by
  have hm : (heightsP s).getD i 0 ∈ heightsP s := by
    rw [List.getD_eq_getElem?_getD, List.getElem?_eq_getElem h]; exact List.getElem_mem _
  unfold heightsP at hm ⊢
  split at hm
  · rename_i hd
    rw [if_pos hd]
    have h1 := hsL_bd 0 s.data.toList _ hm
    have h2 := dyck_size hd
    have h3 : s.data.toList.length = s.size := by simp
    omega
  · simp at hm
def areaP (s : ByteArray) : Int := if dyck s = true then aL s.data.toList (hsL 0 s.data.toList) else -1

set_option maxRecDepth 100000 in
set_option maxHeartbeats 1600000 in
theorem areaOf (s : ByteArray) (w : World) (hs : s.size ≤ 1099511627776) : Calls Tryz.prog 45 #[.string s] w fun e w' => e = .returned (.int .i64 (areaP s)) ∧ Below w.heap.size w w' := by
  rcases hd : dyck s with _ | _
  · have HP := Lib.hid (show areaP s = -1 from if_neg (by simp [hd]))
    have he := heightsP_no hd
    clear hd
    go_enter Tryz.func45, Tryz.ntmps45
    go_wp2_with fail
    (with_reducible refine (heightsOf s _ hs).mono ?_)
    rintro e w1 ⟨v, rfl, ho, hb⟩
    rw [he] at ho
    obtain ⟨A1, c1, rfl, k1⟩ := id ho
    have HB := Lib.hid hb
    clear ho hb k1 he
    go_wp2
    go_loop [5] (fun y => y = .int .i64 0) (fun _ => 0)
    case atStart => rfl
    case round =>
      subst hrel
      by_cases h0 : 0 < s.size
      · have h0' : (0 : Int) < (s.size : Int) := by omega
        go_wp2
        go_ret
        exact ⟨ret_int HP.out.symm, HB.out⟩
      · have h0' : ¬ (0 : Int) < (s.size : Int) := by omega
        go_wp2
        go_ret
        exact ⟨ret_int HP.out.symm, HB.out⟩
  · have HP := Lib.hid (show areaP s = aL s.data.toList (heightsP s) by unfold areaP; rw [if_pos hd, heightsP_yes hd])
    have h16 := dyck_size hd
    have hlen : (heightsP s).length = s.size + 1 := by rw [heightsP_yes hd, hsL_len]; simp
    have HBD := Lib.hid (heightsP_bd s)
    clear hd
    go_enter Tryz.func45, Tryz.ntmps45
    go_wp2_with fail
    (with_reducible refine (heightsOf s _ hs).mono ?_)
    rintro e w1 ⟨v, rfl, ho, hb⟩
    obtain ⟨A1, c1, rfl, k1⟩ := id ho
    clear k1
    have HO := Lib.hid ho
    have HB := Lib.hid hb
    clear ho hb
    generalize heightsP s = xs at *
    have hpos : (0 : Int) < (xs.length : Int) := by omega
    have hlen2 : (s.size : Int) < (xs.length : Int) := by omega
    have hne : ((xs.length : Int) == 0) = false := beq_eq_false_iff_ne.2 (by omega)
    have HLEN := Lib.hid hlen
    clear hlen
    go_wp2
    go_loop [4, 5] (fun x y => ∃ (i : Nat) (n : Int), i ≤ s.size ∧ y = .int .i64 i ∧ x = .int .i64 n ∧ -(16 * i : Int) ≤ n ∧ n ≤ 16 * i ∧ n + aL (rest s i) (xs.drop i) = aL s.data.toList xs) (fun _ y => s.size - (intOf y).toNat)
    case atStart => exact ⟨0, 0, Nat.zero_le _, rfl, rfl, by omega, by omega, by rw [rest_zero]; simp⟩
    case round =>
      obtain ⟨i, n, hi, rfl, rfl, n1, n2, ha⟩ := hrel
      have HA := Lib.hid ha
      clear ha
      by_cases hlt : i < s.size
      · have hbt := get_bt s
        have hix : i < xs.length := by omega
        have HR := Lib.hid (rest_cons s i hlt)
        have HD := Lib.hid (drop_int xs i hix)
        have HBB := Lib.hid (bt_at s i hlt)
        obtain ⟨g1, p1, e1, -, -, hc1, -⟩ := HO.out.cell hix
        simp only [Value.slice.injEq] at e1
        obtain ⟨rfl, -, rfl⟩ := e1
        have hbd := HBD.out i hix
        have hii : (i : Int) < (xs.length : Int) := by omega
        generalize xs.getD i 0 = y at hc1 HD hbd
        obtain ⟨y1, y2⟩ := hbd
        by_cases e1 : bt s i = 117
        · have b1 : (bt s i == 117) = true := by simp [e1]
          have HE := Lib.hid (show s[i].toNat = 117 by have := HBB.out; omega)
          clear e1
          go_wp2
          refine ⟨⟨i + 1, n + y, by omega, by simp, rfl, by omega, by omega, ?_⟩, by simp [intOf]; omega⟩
          rw [← HA.out, HR.out, HD.out, aL_up _ _ _ _ HE.out]; omega
        · have b1 : (bt s i == 117) = false := by simp [e1]
          have HE := Lib.hid (show s[i].toNat ≠ 117 by have := HBB.out; omega)
          clear e1
          go_wp2
          refine ⟨⟨i + 1, n, by omega, by simp, rfl, by omega, by omega, ?_⟩, by simp [intOf]; omega⟩
          rw [← HA.out, HR.out, HD.out, aL_down _ _ _ _ HE.out]
      · have HE := Lib.hid (rest_end s i (by omega))
        go_wp2
        go_ret
        refine ⟨ret_int ?_, HB.out⟩
        have h := HA.out
        rw [HE.out, aL_nil] at h
        rw [HP.out]; omega

end Go.Proofs.YtpggglcjocnjlaaGreat
