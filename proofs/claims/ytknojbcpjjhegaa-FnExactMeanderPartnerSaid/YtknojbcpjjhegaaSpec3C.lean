/- The contracts of the model's CatalanNumber, BallotNumber and RankPath. -/
import Derived.Test.YtknojbcpjjhegaaSpec3B
import Derived.Test.YtknojbcpjjhegaaSpec2E
namespace Go.Proofs.Ytknojbcpjjhegaa
open Go.ChangeShapes Go.WideShapes Go.ChangeAt Go.RowKit
open Go.PlainAid (bt bt_nonneg bt_le get_bt)
set_option linter.unusedVariables false

def catP (n : Int) : Int := if 0 ≤ n ∧ n ≤ 15 then wy n.toNat n.toNat else -1
def ballP (u d : Int) : Int := if 0 ≤ u ∧ u ≤ d ∧ d ≤ 15 then wy u.toNat d.toNat else 0

set_option maxRecDepth 100000 in
set_option maxHeartbeats 800000 in
theorem catalanNumber (n : Int) (w : World) : Calls Try.prog 14 #[.int .i64 n] w fun e w' => e = .returned (.int .i64 (catP n)) ∧ Below w.heap.size w w' := by
  by_cases h0 : n < 0
  · have HP := Lib.hid (show catP n = -1 from if_neg (by omega))
    go_enter Try.func14, Try.ntmps14
    go_wp2_with fail
    (with_reducible refine (l1In_no1 n 0 15 _ h0).mono ?_)
    rintro e w' ⟨rfl, rfl⟩
    go_wp2
    go_ret
    exact ⟨ret_int HP.out.symm, Below.refl _ _⟩
  · by_cases h1 : 15 < n
    · have HP := Lib.hid (show catP n = -1 from if_neg (by omega))
      have h0' : 0 ≤ n := by omega
      go_enter Try.func14, Try.ntmps14
      go_wp2_with fail
      (with_reducible refine (l1In_no2 n 0 15 _ h0' h1).mono ?_)
      rintro e w' ⟨rfl, rfl⟩
      go_wp2
      go_ret
      exact ⟨ret_int HP.out.symm, Below.refl _ _⟩
    · obtain ⟨k, rfl⟩ : ∃ k : Nat, n = k := ⟨n.toNat, by omega⟩
      have HP := Lib.hid (show catP k = wy k k from if_pos (by omega))
      have h0' : (0 : Int) ≤ (k : Int) := by omega
      have h1' : (k : Int) ≤ 15 := by omega
      go_enter Try.func14, Try.ntmps14
      go_wp2_with fail
      (with_reducible refine (l1In_yes _ 0 15 _ h0' h1').mono ?_)
      rintro e w' ⟨rfl, rfl⟩
      go_wp2_with fail
      (with_reducible refine (l3Ways k k _ (Nat.le_refl _) (by omega)).mono ?_)
      rintro e w' ⟨rfl, hb⟩
      go_wp2
      go_ret
      exact ⟨ret_int HP.out.symm, hb⟩

/-- The rank that the letters add when up letters u and down letters d are to come. -/
def rkL : List UInt8 → Nat → Nat → Int
  | [], _, _ => 0
  | c :: l, up, down => if c.toNat = 117 then rkL l (up - 1) down else (if 0 < up then wy (up - 1) down else 0) + rkL l up (down - 1)
theorem rkL_nil (u d : Nat) : rkL [] u d = 0 := rfl
theorem rkL_up (c : UInt8) (l : List UInt8) (u d : Nat) (e : c.toNat = 117) : rkL (c :: l) u d = rkL l (u - 1) d := by rw [rkL, if_pos e]
theorem rkL_down (c : UInt8) (l : List UInt8) (u d : Nat) (e : c.toNat ≠ 117) : rkL (c :: l) u d = (if 0 < u then wy (u - 1) d else 0) + rkL l u (d - 1) := by rw [rkL, if_neg e]
def rankP (s : ByteArray) : Int := if dyck s = true then rkL s.data.toList (s.size / 2) (s.size / 2) else -1
/-- The letters to come: up letters u and down letters d when the height is h. -/
def ends (h u d : Nat) (l : List UInt8) : Prop := dyckFrom h l = true ∧ h + u = d ∧ l.length = u + d
theorem ends_count : ∀ (l : List UInt8) (h : Nat), dyckFrom h l = true → ∃ u d, h + u = d ∧ l.length = u + d := by
  intro l
  induction l with
  | nil => intro h hd; rw [df_nil] at hd; simp at hd; exact ⟨0, 0, by omega, rfl⟩
  | cons c l ih =>
    intro h hd
    rcases df_letter hd with ⟨e, hd'⟩ | ⟨e, h1, hd'⟩
    · obtain ⟨u, d, e1, e2⟩ := ih _ hd'
      exact ⟨u + 1, d, by omega, by rw [List.length_cons]; omega⟩
    · obtain ⟨u, d, e1, e2⟩ := ih _ hd'
      exact ⟨u, d + 1, by omega, by rw [List.length_cons]; omega⟩
theorem ends_up {h u d : Nat} {c : UInt8} {l : List UInt8} (he : ends h u d (c :: l)) (e : c.toNat = 117) : 1 ≤ u ∧ ends (h + 1) (u - 1) d l := by
  obtain ⟨h1, h2, h3⟩ := he
  rcases df_letter h1 with ⟨-, hd'⟩ | ⟨e', -, -⟩
  · obtain ⟨a, b, e1, e2⟩ := ends_count _ _ hd'
    rw [List.length_cons] at h3
    exact ⟨by omega, hd', by omega, by omega⟩
  · omega
theorem ends_down {h u d : Nat} {c : UInt8} {l : List UInt8} (he : ends h u d (c :: l)) (e : c.toNat ≠ 117) : 1 ≤ h ∧ 1 ≤ d ∧ ends (h - 1) u (d - 1) l := by
  obtain ⟨h1, h2, h3⟩ := he
  rcases df_letter h1 with ⟨e', -⟩ | ⟨-, hh, hd'⟩
  · omega
  · rw [List.length_cons] at h3
    exact ⟨hh, by omega, hd', by omega, by omega⟩
theorem ends_start {s : ByteArray} (h : dyck s = true) : ends 0 (s.size / 2) (s.size / 2) (rest s 0) := by
  have h16 := dyck_size h
  rw [dyck_short h16] at h
  obtain ⟨u, d, e1, e2⟩ := ends_count _ _ h
  have e3 : s.data.toList.length = s.size := by simp
  have e4 : (rest s 0).length = s.size := by rw [rest_zero]; exact e3
  exact ⟨h, by omega, by omega⟩

set_option maxRecDepth 100000 in
set_option maxHeartbeats 1600000 in
theorem rankPath (s : ByteArray) (w : World) (hs : s.size ≤ 1099511627776) : Calls Try.prog 66 #[.string s] w fun e w' => e = .returned (.int .i64 (rankP s)) ∧ Below w.heap.size w w' := by
  rcases hd : dyck s with _ | _
  · have HP := Lib.hid (show rankP s = -1 from if_neg (by simp [hd]))
    have HD := Lib.hid hd
    clear hd
    go_enter Try.func66, Try.ntmps66
    go_wp2_with fail
    (with_reducible refine (isDyck_no s _ hs HD.out).mono ?_)
    rintro e w' ⟨rfl, rfl⟩
    go_wp2
    go_ret
    exact ⟨ret_int HP.out.symm, Below.refl _ _⟩
  · have HP := Lib.hid (show rankP s = rkL (rest s 0) (s.size / 2) (s.size / 2) from if_pos hd)
    have HS := Lib.hid (ends_start hd)
    have HD := Lib.hid hd
    have h16 := dyck_size hd
    have hdiv : (s.size : Int) / 2 = ((s.size / 2 : Nat) : Int) := by omega
    have hm8 : s.size / 2 ≤ 8 := by omega
    clear hd
    generalize s.size / 2 = m at *
    go_enter Try.func66, Try.ntmps66
    go_wp2_with fail
    (with_reducible refine (isDyck_yes s _ hs HD.out).mono ?_)
    rintro e w' ⟨rfl, rfl⟩
    go_wp2
    go_loopw [3, 4, 5, 6] (fun x y z t wr => ∃ (i h u d : Nat) (n : Int), i ≤ s.size ∧ t = .int .i64 i ∧ x = .int .i64 u ∧ y = .int .i64 d ∧ z = .int .i64 n ∧ u ≤ 8 ∧ d ≤ 8 ∧ d ≤ m ∧ 0 ≤ n ∧ n ≤ (m - d) * 4294967296 ∧ ends h u d (rest s i) ∧ n + rkL (rest s i) u d = rankP s ∧ Below w.heap.size w wr) (fun _ _ _ t _ => s.size - (intOf t).toNat)
    case atStart => exact ⟨0, 0, m, m, 0, Nat.zero_le _, rfl, rfl, rfl, rfl, hm8, hm8, Nat.le_refl _, by omega, by omega, HS.out, by rw [HP.out]; omega, Below.refl _ _⟩
    case round =>
      obtain ⟨i, h, u, d, n, hi, rfl, rfl, rfl, rfl, hu8, hd8, hdm, n0, n1, he, hr, hb⟩ := hrel
      have HE := Lib.hid he
      have HR := Lib.hid hr
      have HB := Lib.hid hb
      have hB := hb.size
      clear he hr hb
      by_cases hlt : i < s.size
      · have hbt := get_bt s
        have hii : (i : Int) < (s.size : Int) := by omega
        have HC := Lib.hid (rest_cons s i hlt)
        have HBB := Lib.hid (bt_at s i hlt)
        by_cases e1 : bt s i = 117
        · have b1 : (bt s i == 117) = true := by simp [e1]
          have HE1 := Lib.hid (show s[i].toNat = 117 by have := HBB.out; omega)
          have HN := Lib.hid (ends_up (by rw [← HC.out]; exact HE.out) HE1.out)
          have hu1 := HN.out.1
          clear e1
          go_wp2
          refine ⟨⟨i + 1, h + 1, u - 1, d, n, by omega, by simp, by congr 1; omega, rfl, rfl, by omega, by omega, by omega, n0, n1, HN.out.2, ?_, HB.out⟩, by simp [intOf]; omega⟩
          rw [← HR.out, HC.out, rkL_up _ _ _ _ HE1.out]
        · have b1 : (bt s i == 117) = false := by simp [e1]
          have HE1 := Lib.hid (show s[i].toNat ≠ 117 by have := HBB.out; omega)
          have HN := Lib.hid (ends_down (by rw [← HC.out]; exact HE.out) HE1.out)
          have hh1 := HN.out.1
          have hd1 := HN.out.2.1
          have hhu := HE.out.2.1
          clear e1
          by_cases hu0 : 0 < u
          · obtain ⟨q, HQ, hq⟩ : ∃ q, Hid (u = q + 1) ∧ (u : Int) - 1 = (q : Int) := ⟨u - 1, Lib.hid (by omega), by omega⟩
            have hui : (0 : Int) < (u : Int) := by omega
            have hqd : q ≤ d := by have := HQ.out; omega
            have hbd := wy_bd q d (by omega)
            have hbd2 : wy q d ≤ 4294967296 := by
              refine Int.le_trans hbd.2 ?_
              have h1 : (16 : Nat) ^ q ≤ 16 ^ 8 := Nat.pow_le_pow_right (by decide) (by omega)
              have h2 : (16 : Int) ^ q ≤ 16 ^ 8 := by exact_mod_cast h1
              exact Int.le_trans h2 (by decide)
            have hbd0 := hbd.1
            have HW := Lib.hid (show rkL (rest s i) u d = wy q d + rkL (rest s (i + 1)) u (d - 1) by rw [HC.out, rkL_down _ _ _ _ HE1.out, if_pos hu0, HQ.out]; rfl)
            clear hbd
            go_wp2_with fail
            (with_reducible refine (l3Ways q d _ hqd (by omega)).mono ?_)
            rintro e w' ⟨rfl, hb⟩
            generalize wy q d = y at *
            have hny : 0 ≤ n + y ∧ n + y ≤ 9223372036854775807 := by omega
            go_wp2
            refine ⟨⟨i + 1, h - 1, u, d - 1, n + y, by omega, by simp, rfl, by congr 1; omega, rfl, by omega, by omega, by omega, by omega, by omega, HN.out.2.2, ?_, HB.out.trans (hb.mono hB)⟩, by simp [intOf]; omega⟩
            rw [← HR.out, HW.out]; omega
          · have hui : ¬ (0 : Int) < (u : Int) := by omega
            have HW := Lib.hid (show rkL (rest s i) u d = rkL (rest s (i + 1)) u (d - 1) by rw [HC.out, rkL_down _ _ _ _ HE1.out, if_neg hu0]; omega)
            go_wp2
            refine ⟨⟨i + 1, h - 1, u, d - 1, n, by omega, by simp, rfl, by congr 1; omega, rfl, by omega, by omega, by omega, by omega, by omega, HN.out.2.2, ?_, HB.out⟩, by simp [intOf]; omega⟩
            rw [← HR.out, HW.out]
      · have hii : ¬ (i : Int) < (s.size : Int) := by omega
        have HX := Lib.hid (rest_end s i (by omega))
        go_wp2
        go_ret
        refine ⟨ret_int ?_, HB.out⟩
        have h := HR.out
        rw [HX.out, rkL_nil] at h
        omega

end Go.Proofs.Ytknojbcpjjhegaa
