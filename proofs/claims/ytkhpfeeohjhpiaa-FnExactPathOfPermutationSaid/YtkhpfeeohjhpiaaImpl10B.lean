/- The program's Contains231, Contains321, PermutationOf. -/
import Derived.Test.YtkhpfeeohjhpiaaImpl10A
import Derived.Test.YtkhpfeeohjhpiaaImpl2C
namespace Go.Proofs.Ytkhpfeeohjhpiaa
open Go.ChangeShapes Go.WideShapes Go.ChangeAt Go.RowKit
open Go.PlainAid (bt bt_nonneg bt_le get_bt)
set_option linter.unusedVariables false

/-- Three places whose numbers are so related. -/
def t3 (R : Int → Int → Int → Bool) (xs : List Int) (a b c : Nat) : Bool := R (xs.getD a 0) (xs.getD b 0) (xs.getD c 0)

theorem rel231 (a b c : Int) (w : World) : Calls Try.prog 54 #[.int .i64 a, .int .i64 b, .int .i64 c] w fun e w' => e = .returned (.bool (r231 a b c)) ∧ w = w' := by
  by_cases h1 : c < a
  · have d1 : decide (c < a) = true := decide_eq_true h1
    by_cases h2 : a < b
    · have d2 : decide (a < b) = true := decide_eq_true h2
      have HR := Lib.hid (show r231 a b c = true from decide_eq_true (by omega))
      go_enter Try.func54, Try.ntmps54
      go_wp2
      go_ret
      exact ⟨ret_bool HR.out.symm, rfl⟩
    · have d2 : decide (a < b) = false := decide_eq_false h2
      have HR := Lib.hid (show r231 a b c = false from decide_eq_false (by omega))
      go_enter Try.func54, Try.ntmps54
      go_wp2
      go_ret
      exact ⟨ret_bool HR.out.symm, rfl⟩
  · have d1 : decide (c < a) = false := decide_eq_false h1
    have HR := Lib.hid (show r231 a b c = false from decide_eq_false (by omega))
    go_enter Try.func54, Try.ntmps54
    go_wp2
    go_ret
    exact ⟨ret_bool HR.out.symm, rfl⟩

set_option maxRecDepth 100000 in
set_option maxHeartbeats 3200000 in
theorem hasTriple231I (A1 : Option Addr) (xs : List Int) (lo hi : Nat) (w : World) (hv : OwnI w lo hi (.slice A1 xs.length xs.length) xs) (hl : xs.length ≤ 1099511627776) :
    Calls Try.prog 53 #[.slice A1 xs.length xs.length, .func (.func 54) #[] #[]] w fun e w' => e = .returned (.bool (hasT r231 xs)) ∧ w = w' := by
  have HV := Lib.hid hv
  clear hv
  go_enter Try.func53, Try.ntmps53
  go_wp2
  go_loop [13] (fun y => ∃ c : Nat, c ≤ xs.length ∧ y = .int .i64 c ∧ ∀ a b c', a < b → b < c' → c' < c → t3 r231 xs a b c' = false) (fun y => xs.length - (intOf y).toNat)
  case atStart => exact ⟨0, Nat.zero_le _, rfl, fun a b c _ _ h => absurd h (Nat.not_lt_zero _)⟩
  case round =>
    obtain ⟨c, hc, rfl, hno⟩ := hrel
    have HNO := Lib.hid hno
    clear hno
    by_cases hlt : c < xs.length
    · obtain ⟨g1, p1, e1, -, -, hc3, -⟩ := HV.out.cell hlt
      simp only [Value.slice.injEq] at e1
      obtain ⟨rfl, -, rfl⟩ := e1
      have hci : (c : Int) < (xs.length : Int) := by omega
      have hcl : (c : Int) ≤ (xs.length : Int) := by omega
      have HX3 := Lib.hid (fun a b => show t3 r231 xs a b c = r231 (xs.getD a 0) (xs.getD b 0) (xs.getD c 0) from rfl)
      generalize xs.getD c 0 = z at hc3 HX3
      go_wp2
      go_loop [22] (fun y => ∃ b : Nat, b ≤ c ∧ y = .int .i64 b ∧ ∀ a b', a < b' → b' < b → t3 r231 xs a b' c = false) (fun y => c - (intOf y).toNat)
      case atStart => exact ⟨0, Nat.zero_le _, rfl, fun a b _ h => absurd h (Nat.not_lt_zero _)⟩
      case round =>
        obtain ⟨b, hb, rfl, hno2⟩ := hrel
        have HN2 := Lib.hid hno2
        clear hno2
        by_cases hbl : b < c
        · obtain ⟨g2, p2, e2, -, -, hc2, -⟩ := HV.out.cell (show b < xs.length by omega)
          obtain rfl : g1 = g2 := by simpa using (Value.slice.inj e2).1
          have hbi : (b : Int) < (c : Int) := by omega
          have hbx : (b : Int) ≤ (xs.length : Int) := by omega
          have HX2 := Lib.hid (fun a => HX3.out a b)
          generalize xs.getD b 0 = y at hc2 HX2
          go_wp2
          go_loop [31] (fun y => ∃ a : Nat, a ≤ b ∧ y = .int .i64 a ∧ ∀ a', a' < a → t3 r231 xs a' b c = false) (fun y => b - (intOf y).toNat)
          case atStart => exact ⟨0, Nat.zero_le _, rfl, fun a h => absurd h (Nat.not_lt_zero _)⟩
          case round =>
            obtain ⟨a, ha, rfl, hno3⟩ := hrel
            have HN3 := Lib.hid hno3
            clear hno3
            by_cases hal : a < b
            · obtain ⟨g3, p3, e3, -, -, hc1, -⟩ := HV.out.cell (show a < xs.length by omega)
              obtain rfl : g1 = g3 := by simpa using (Value.slice.inj e3).1
              have hai : (a : Int) < (b : Int) := by omega
              have HX1 := Lib.hid (HX2.out a)
              generalize xs.getD a 0 = x at hc1 HX1
              rcases hx : t3 r231 xs a b c with _ | _
              · have HXE := Lib.hid (HX1.out.symm.trans hx)
                have HNN := Lib.hid (show ∀ a', a' < a + 1 → t3 r231 xs a' b c = false from fun a' h => by
                  by_cases e : a' < a
                  · exact HN3.out a' e
                  · obtain rfl : a' = a := by omega
                    exact hx)
                clear HX1 hx
                go_wp2_with (go_at_call 54; go_must ((with_reducible refine (rel231 x y z _).mono ?_); intro e3 w3 h3; obtain ⟨rfl, rfl⟩ := h3; rw [HXE.out]))
                exact ⟨⟨a + 1, by omega, by simp, HNN.out⟩, by simp [intOf]; omega⟩
              · have HXE := Lib.hid (HX1.out.symm.trans hx)
                have HYY := Lib.hid (hasT_yes (R := r231) (xs := xs) hal hbl hlt hx)
                clear HX1 hx
                go_wp2_with (go_at_call 54; go_must ((with_reducible refine (rel231 x y z _).mono ?_); intro e3 w3 h3; obtain ⟨rfl, rfl⟩ := h3; rw [HXE.out]))
                go_ret
                exact ⟨ret_bool HYY.out.symm, rfl⟩
            · obtain rfl : a = b := by omega
              have HNN := Lib.hid (show ∀ a' b', a' < b' → b' < a + 1 → t3 r231 xs a' b' c = false from fun a' b' h1 h2 => by
                by_cases e : b' < a
                · exact HN2.out a' b' h1 e
                · obtain rfl : b' = a := by omega
                  exact HN3.out a' h1)
              go_wp2
              exact ⟨⟨a + 1, by omega, by simp, HNN.out⟩, by simp [intOf]; omega⟩
        · obtain rfl : b = c := by omega
          have HNN := Lib.hid (show ∀ a' b' c', a' < b' → b' < c' → c' < b + 1 → t3 r231 xs a' b' c' = false from fun a' b' c' h1 h2 h3 => by
            by_cases e : c' < b
            · exact HNO.out a' b' c' h1 h2 e
            · obtain rfl : c' = b := by omega
              exact HN2.out a' b' h1 h2)
          go_wp2
          exact ⟨⟨b + 1, by omega, by simp, HNN.out⟩, by simp [intOf]; omega⟩
    · obtain rfl : c = xs.length := by omega
      have HR := Lib.hid (hasT_no (R := r231) (xs := xs) HNO.out)
      go_wp2
      go_ret
      exact ⟨ret_bool HR.out.symm, rfl⟩

set_option maxRecDepth 100000 in
set_option maxHeartbeats 1600000 in
theorem contains231I (A1 : Option Addr) (xs : List Int) (lo hi : Nat) (w : World) (hv : OwnI w lo hi (.slice A1 xs.length xs.length) xs) (hhi : hi ≤ w.heap.size) :
    Calls Try.prog 19 #[.slice A1 xs.length xs.length] w fun e w' => e = .returned (.bool (conB r231 xs)) ∧ Below w.heap.size w w' := by
  have HV := Lib.hid hv
  have HM := Lib.hid (isPermutationI _ xs _ lo hi w hv hhi)
  clear hv
  rcases hm : permB xs with _ | _
  · have HP := Lib.hid (show conB r231 xs = false by unfold conB; rw [hm]; rfl)
    rw [hm] at HM
    clear hm
    go_enter Try.func19, Try.ntmps19
    go_wp2_with fail
    (with_reducible refine HM.out.mono ?_)
    rintro e w' ⟨rfl, hb⟩
    go_wp2
    go_ret
    exact ⟨ret_bool HP.out.symm, hb⟩
  · have HP := Lib.hid (show conB r231 xs = hasT r231 xs by unfold conB; rw [hm]; rfl)
    have h16 := (perm_yes hm).1
    rw [hm] at HM
    clear hm
    go_enter Try.func19, Try.ntmps19
    go_wp2_with fail
    (with_reducible refine HM.out.mono ?_)
    rintro e w1 ⟨rfl, hb⟩
    have HB1 := Lib.hid hb
    have HV1 := Lib.hid (HV.out.keep hb hhi)
    clear hb
    go_wp2_with fail
    (with_reducible refine (hasTriple231I _ xs lo hi _ HV1.out (by omega)).mono ?_)
    rintro e w2 ⟨rfl, rfl⟩
    go_wp2
    go_ret
    exact ⟨ret_bool HP.out.symm, HB1.out⟩

theorem rel321 (a b c : Int) (w : World) : Calls Try.prog 56 #[.int .i64 a, .int .i64 b, .int .i64 c] w fun e w' => e = .returned (.bool (r321 a b c)) ∧ w = w' := by
  by_cases h1 : b < a
  · have d1 : decide (b < a) = true := decide_eq_true h1
    by_cases h2 : c < b
    · have d2 : decide (c < b) = true := decide_eq_true h2
      have HR := Lib.hid (show r321 a b c = true from decide_eq_true (by omega))
      go_enter Try.func56, Try.ntmps56
      go_wp2
      go_ret
      exact ⟨ret_bool HR.out.symm, rfl⟩
    · have d2 : decide (c < b) = false := decide_eq_false h2
      have HR := Lib.hid (show r321 a b c = false from decide_eq_false (by omega))
      go_enter Try.func56, Try.ntmps56
      go_wp2
      go_ret
      exact ⟨ret_bool HR.out.symm, rfl⟩
  · have d1 : decide (b < a) = false := decide_eq_false h1
    have HR := Lib.hid (show r321 a b c = false from decide_eq_false (by omega))
    go_enter Try.func56, Try.ntmps56
    go_wp2
    go_ret
    exact ⟨ret_bool HR.out.symm, rfl⟩

set_option maxRecDepth 100000 in
set_option maxHeartbeats 3200000 in
theorem hasTriple321I (A1 : Option Addr) (xs : List Int) (lo hi : Nat) (w : World) (hv : OwnI w lo hi (.slice A1 xs.length xs.length) xs) (hl : xs.length ≤ 1099511627776) :
    Calls Try.prog 53 #[.slice A1 xs.length xs.length, .func (.func 56) #[] #[]] w fun e w' => e = .returned (.bool (hasT r321 xs)) ∧ w = w' := by
  have HV := Lib.hid hv
  clear hv
  go_enter Try.func53, Try.ntmps53
  go_wp2
  go_loop [13] (fun y => ∃ c : Nat, c ≤ xs.length ∧ y = .int .i64 c ∧ ∀ a b c', a < b → b < c' → c' < c → t3 r321 xs a b c' = false) (fun y => xs.length - (intOf y).toNat)
  case atStart => exact ⟨0, Nat.zero_le _, rfl, fun a b c _ _ h => absurd h (Nat.not_lt_zero _)⟩
  case round =>
    obtain ⟨c, hc, rfl, hno⟩ := hrel
    have HNO := Lib.hid hno
    clear hno
    by_cases hlt : c < xs.length
    · obtain ⟨g1, p1, e1, -, -, hc3, -⟩ := HV.out.cell hlt
      simp only [Value.slice.injEq] at e1
      obtain ⟨rfl, -, rfl⟩ := e1
      have hci : (c : Int) < (xs.length : Int) := by omega
      have hcl : (c : Int) ≤ (xs.length : Int) := by omega
      have HX3 := Lib.hid (fun a b => show t3 r321 xs a b c = r321 (xs.getD a 0) (xs.getD b 0) (xs.getD c 0) from rfl)
      generalize xs.getD c 0 = z at hc3 HX3
      go_wp2
      go_loop [22] (fun y => ∃ b : Nat, b ≤ c ∧ y = .int .i64 b ∧ ∀ a b', a < b' → b' < b → t3 r321 xs a b' c = false) (fun y => c - (intOf y).toNat)
      case atStart => exact ⟨0, Nat.zero_le _, rfl, fun a b _ h => absurd h (Nat.not_lt_zero _)⟩
      case round =>
        obtain ⟨b, hb, rfl, hno2⟩ := hrel
        have HN2 := Lib.hid hno2
        clear hno2
        by_cases hbl : b < c
        · obtain ⟨g2, p2, e2, -, -, hc2, -⟩ := HV.out.cell (show b < xs.length by omega)
          obtain rfl : g1 = g2 := by simpa using (Value.slice.inj e2).1
          have hbi : (b : Int) < (c : Int) := by omega
          have hbx : (b : Int) ≤ (xs.length : Int) := by omega
          have HX2 := Lib.hid (fun a => HX3.out a b)
          generalize xs.getD b 0 = y at hc2 HX2
          go_wp2
          go_loop [31] (fun y => ∃ a : Nat, a ≤ b ∧ y = .int .i64 a ∧ ∀ a', a' < a → t3 r321 xs a' b c = false) (fun y => b - (intOf y).toNat)
          case atStart => exact ⟨0, Nat.zero_le _, rfl, fun a h => absurd h (Nat.not_lt_zero _)⟩
          case round =>
            obtain ⟨a, ha, rfl, hno3⟩ := hrel
            have HN3 := Lib.hid hno3
            clear hno3
            by_cases hal : a < b
            · obtain ⟨g3, p3, e3, -, -, hc1, -⟩ := HV.out.cell (show a < xs.length by omega)
              obtain rfl : g1 = g3 := by simpa using (Value.slice.inj e3).1
              have hai : (a : Int) < (b : Int) := by omega
              have HX1 := Lib.hid (HX2.out a)
              generalize xs.getD a 0 = x at hc1 HX1
              rcases hx : t3 r321 xs a b c with _ | _
              · have HXE := Lib.hid (HX1.out.symm.trans hx)
                have HNN := Lib.hid (show ∀ a', a' < a + 1 → t3 r321 xs a' b c = false from fun a' h => by
                  by_cases e : a' < a
                  · exact HN3.out a' e
                  · obtain rfl : a' = a := by omega
                    exact hx)
                clear HX1 hx
                go_wp2_with (go_at_call 56; go_must ((with_reducible refine (rel321 x y z _).mono ?_); intro e3 w3 h3; obtain ⟨rfl, rfl⟩ := h3; rw [HXE.out]))
                exact ⟨⟨a + 1, by omega, by simp, HNN.out⟩, by simp [intOf]; omega⟩
              · have HXE := Lib.hid (HX1.out.symm.trans hx)
                have HYY := Lib.hid (hasT_yes (R := r321) (xs := xs) hal hbl hlt hx)
                clear HX1 hx
                go_wp2_with (go_at_call 56; go_must ((with_reducible refine (rel321 x y z _).mono ?_); intro e3 w3 h3; obtain ⟨rfl, rfl⟩ := h3; rw [HXE.out]))
                go_ret
                exact ⟨ret_bool HYY.out.symm, rfl⟩
            · obtain rfl : a = b := by omega
              have HNN := Lib.hid (show ∀ a' b', a' < b' → b' < a + 1 → t3 r321 xs a' b' c = false from fun a' b' h1 h2 => by
                by_cases e : b' < a
                · exact HN2.out a' b' h1 e
                · obtain rfl : b' = a := by omega
                  exact HN3.out a' h1)
              go_wp2
              exact ⟨⟨a + 1, by omega, by simp, HNN.out⟩, by simp [intOf]; omega⟩
        · obtain rfl : b = c := by omega
          have HNN := Lib.hid (show ∀ a' b' c', a' < b' → b' < c' → c' < b + 1 → t3 r321 xs a' b' c' = false from fun a' b' c' h1 h2 h3 => by
            by_cases e : c' < b
            · exact HNO.out a' b' c' h1 h2 e
            · obtain rfl : c' = b := by omega
              exact HN2.out a' b' h1 h2)
          go_wp2
          exact ⟨⟨b + 1, by omega, by simp, HNN.out⟩, by simp [intOf]; omega⟩
    · obtain rfl : c = xs.length := by omega
      have HR := Lib.hid (hasT_no (R := r321) (xs := xs) HNO.out)
      go_wp2
      go_ret
      exact ⟨ret_bool HR.out.symm, rfl⟩

set_option maxRecDepth 100000 in
set_option maxHeartbeats 1600000 in
theorem contains321I (A1 : Option Addr) (xs : List Int) (lo hi : Nat) (w : World) (hv : OwnI w lo hi (.slice A1 xs.length xs.length) xs) (hhi : hi ≤ w.heap.size) :
    Calls Try.prog 24 #[.slice A1 xs.length xs.length] w fun e w' => e = .returned (.bool (conB r321 xs)) ∧ Below w.heap.size w w' := by
  have HV := Lib.hid hv
  have HM := Lib.hid (isPermutationI _ xs _ lo hi w hv hhi)
  clear hv
  rcases hm : permB xs with _ | _
  · have HP := Lib.hid (show conB r321 xs = false by unfold conB; rw [hm]; rfl)
    rw [hm] at HM
    clear hm
    go_enter Try.func24, Try.ntmps24
    go_wp2_with fail
    (with_reducible refine HM.out.mono ?_)
    rintro e w' ⟨rfl, hb⟩
    go_wp2
    go_ret
    exact ⟨ret_bool HP.out.symm, hb⟩
  · have HP := Lib.hid (show conB r321 xs = hasT r321 xs by unfold conB; rw [hm]; rfl)
    have h16 := (perm_yes hm).1
    rw [hm] at HM
    clear hm
    go_enter Try.func24, Try.ntmps24
    go_wp2_with fail
    (with_reducible refine HM.out.mono ?_)
    rintro e w1 ⟨rfl, hb⟩
    have HB1 := Lib.hid hb
    have HV1 := Lib.hid (HV.out.keep hb hhi)
    clear hb
    go_wp2_with fail
    (with_reducible refine (hasTriple321I _ xs lo hi _ HV1.out (by omega)).mono ?_)
    rintro e w2 ⟨rfl, rfl⟩
    go_wp2
    go_ret
    exact ⟨ret_bool HP.out.symm, HB1.out⟩

set_option maxRecDepth 100000 in
set_option maxHeartbeats 3200000 in
theorem permutationOfI (s : ByteArray) (w : World) (hs : s.size ≤ 1099511627776) : Calls Try.prog 15 #[.string s] w (AnsIB (permOfP s) (dyck s) w) := by
  rcases hd : dyck s with _ | _
  · have HP := Lib.hid (show permOfP s = [] from if_neg (by simp [hd]))
    have HD := Lib.hid hd
    clear hd
    go_enter Try.func15, Try.ntmps15
    go_wp2_with fail
    (with_reducible refine (isDyckI_no s _ HD.out).mono ?_)
    rintro e w' ⟨rfl, hb⟩
    go_wp2
    go_ret2
    exact ⟨_, rfl, by rw [HP.out]; exact ⟨none, 0, rfl, .inl rfl⟩, hb⟩
  · have HP := Lib.hid (show permOfP s = psO s s.size from if_pos hd)
    have HD := Lib.hid hd
    have h16 := dyck_size hd
    clear hd
    obtain ⟨m, hm⟩ : ∃ m, m = s.size / 2 := ⟨_, rfl⟩
    have hmi : (s.size : Int).tdiv 2 = (m : Int) := by rw [Int.tdiv_eq_ediv_of_nonneg (by omega)]; omega
    have hm8 : m ≤ 8 := by omega
    obtain ⟨i0, hi0, hz0, hz1, hz2⟩ := info_parts info3
    have HSM := Lib.hid hm
    clear hm
    go_enter Try.func15, Try.ntmps15
    go_wp2_with fail
    (with_reducible refine (isDyckI_yes s _ HD.out).mono ?_)
    rintro e w1 ⟨rfl, hb⟩
    have HB1 := Lib.hid hb
    have z1 := hb.size
    clear hb
    go_wp2_with (at_make; go_must (refine wpList_make_full _ rfl _ _ 25 rfl w1.heap.size 3 i0 (.int .i64 0) 1 Try.underlying25 hi0 hz0 hz1 .i64 .i64 (m : Int) (m : Int) m rfl rfl rfl rfl (by rw [hz2]; omega) (by unfold maxLen; omega) (Nat.le_refl _) ?_); intro w2 hown1 hgrow1)
    have HTB := Lib.hid (TbR.made hown1)
    have hlt1 : w1.heap.size < w2.heap.size := (hown1.lt _ rfl).2
    have HB2 := Lib.hid (HB1.out.grown hgrow1 z1 (fun k hk => by cases hk))
    clear hown1 hgrow1
    obtain ⟨g, hg⟩ : ∃ g, g = w1.heap.size := ⟨_, rfl⟩
    rw [← hg] at HTB hlt1 z1
    rw [← hg]
    have HG := Lib.hid hg
    clear hg
    go_loopw [5, 6] (fun st x6 wr => ∃ i : Nat, i ≤ s.size ∧ x6 = .int .i64 (psN s i : Nat) ∧ AtS wr w2.heap.size s i ∧ RowN wr (w2.heap.size + 1) st (psS s i) ∧ TbR wr g (psO s i) ∧ w2.heap.size + 1 ≤ wr.heap.size ∧ Below w.heap.size w wr) (fun _ _ wr => s.size - wr.iterPos w2.heap.size)
    case atStart => exact ⟨0, Nat.zero_le _, rfl, World.iter_heap w2 s 0, World.ownsRow_nil _ _ _ _, by have h := HTB.out; rw [HSM.out] at h; exact h.alloc _, by simp [World.iter], HB2.out.alloc (by omega) _⟩
    case round =>
      obtain ⟨i, hi1, rfl, hit, hst, htb, hsz, hb⟩ := hrel
      have HIT := Lib.hid hit
      have HST := Lib.hid hst
      have HT := Lib.hid htb
      have HB := Lib.hid hb
      clear hit hst htb hb HTB HB2
      by_cases hlt : i < s.size
      · obtain ⟨W, hW⟩ : ∃ W, W = wr.iterAt w2.heap.size s (i + 1) := ⟨_, rfl⟩
        have HIT1 := Lib.hid (show AtS W w2.heap.size s (i + 1) by rw [hW]; exact HIT.out.move)
        have HST1 := Lib.hid (show RowN W (w2.heap.size + 1) u5 (psS s i) by rw [hW]; exact HST.out.iterAt HIT.out)
        have HT1 := Lib.hid (show TbR W g (psO s i) by rw [hW]; exact HT.out.iterAt HIT.out)
        have HB4 := Lib.hid (show Below w.heap.size w W by rw [hW]; exact Lib.below_iterAt HB.out (by omega) _ _)
        have hzW : w2.heap.size + 1 ≤ W.heap.size := by rw [hW, Lib.iterAt_size]; exact hsz
        have hl := dyck_letter HD.out i hlt
        have hb := get_bt s i hlt
        obtain ⟨r1, r2⟩ := ps_room HD.out (i := i) hi1
        rcases hl with e1 | e1
        · have e2 : bt s i = 117 := by omega
          have hnx := next_letter (P := Try.prog) wr _ s i 117 HIT.out hlt e1 (by omega)
          rw [← hW] at hnx
          have HSS := Lib.hid (show psS s (i + 1) = psS s i ++ [(psN s i : Int)] from if_pos e2)
          have HSN := Lib.hid (show psN s (i + 1) = psN s i + 1 from if_pos e2)
          have HSO := Lib.hid (show psO s (i + 1) = psO s i from if_pos e2)
          have hrw := fun k (e : some k = u5.ownBlock) => (World.ownsRow.lt HST1.out k e.symm).1
          have HRW := Lib.hid hrw
          clear e1 e2 hrw hb hW
          generalize psN s i = n0 at *
          generalize psS s i = S at *
          generalize psO s i = O at *
          go_wp2_with (at_builtin; go_must (refine wpAppInt rfl _ _ rfl (w2.heap.size + 1) u5 _ S rfl (World.ownsRow.alloc HST1.out _) W.heap.size _ _ rfl (cell_one _ _ _) (by omega) (by simp; omega) ?_); intro v' w' hown' hg')
          have hz3 := hg'.size
          have HA3 := Lib.hid (show AtS w' w2.heap.size s (i + 1) from (HIT1.out.alloc _).grown hg' (fun e => by have := HRW.out _ e.symm; omega))
          go_roundw
          case rel => exact ⟨i + 1, by omega, by rw [HSN.out]; simp, HA3.out, by unfold RowN; rw [HSS.out]; simpa using hown', by rw [HSO.out]; exact (HT1.out.alloc _).keep (hg'.block _ (by have := HT1.out.lt; simp; omega) (fun e => by have := HRW.out _ e; omega)), by simp at hz3; omega, (HB4.out.alloc (by omega) _).grown hg' (by simp; omega) (fun k hk => by have := HRW.out k hk.symm; omega)⟩
          case measure =>
            rw [HIT.out.pos, HA3.out.pos]; omega
        · have e2 : bt s i ≠ 117 := by omega
          have hnx := next_letter (P := Try.prog) wr _ s i 100 HIT.out hlt e1 (by omega)
          rw [← hW] at hnx
          obtain ⟨t1, t2, t3, t4, t5, t6⟩ := ps_top HD.out hlt e2
          have HSS := Lib.hid (show psS s (i + 1) = (psS s i).dropLast from if_neg e2)
          have HSN := Lib.hid (show psN s (i + 1) = psN s i from if_neg e2)
          have HSO := Lib.hid (show psO s (i + 1) = (psO s i).set (psT s i) ((psN s i : Int) - ((psS s i).length : Int)) from if_neg e2)
          have hol := psO_len s i
          obtain ⟨A2, cap, e3, hA⟩ := HST1.out.form
          subst e3
          obtain ⟨g2, rfl, hg2, hg3, hcp⟩ := hA (by omega)
          obtain ⟨hc, hf⟩ := HST1.out.cell (j := (psS s i).length - 1) (by omega)
          rw [t3] at hc
          obtain ⟨hc2, hf2⟩ := HT1.out.cell (j := psT s i) (by rw [hol]; exact t4)
          have HCUT := Lib.hid HST1.out.cut
          generalize psT s i = q at *
          generalize (psO s i).getD q 0 = z0 at hc2
          generalize psO s i = O at *
          generalize (psS s i).dropLast = Sd at *
          clear HST HST1 e1 e2 hol t3 hA hb hW HT
          generalize (psS s i).length = L at *
          generalize psN s i = n0 at *
          obtain ⟨l, hl⟩ : ∃ l, l = L - 1 := ⟨_, rfl⟩
          rw [← hl] at hc hf HCUT
          have hqm : (q : Int) < (m : Int) := by have := HSM.out; omega
          have hli : (L : Int) - 1 = (l : Int) := by omega
          have hlL : (l : Int) < (L : Int) := by omega
          have hlc : (l : Int) ≤ (cap : Int) := by omega
          have HL := Lib.hid hl
          clear hl
          go_wp2
          have HA3 := Lib.hid (show AtS (W.setCell ⟨g, q, none⟩ (.int .i64 ((n0 : Int) - (L : Int)))) w2.heap.size s (i + 1) from iter_setCell HIT1.out (by omega))
          go_roundw
          case rel => exact ⟨i + 1, by omega, by rw [HSN.out], HA3.out, by rw [HSS.out]; exact HCUT.out.other (by simp [Value.ownBlock]; omega) _, by rw [HSO.out]; exact HT1.out.set _ _, by simp [World.setCell]; omega, HB4.out.setCell (p := ⟨g, q, none⟩) z1 _⟩
          case measure =>
            rw [HIT.out.pos, HA3.out.pos]; omega
      · have hnx := fun ty => Lib.run_next_end_at (P := Try.prog) wr _ s i ty HIT.out hlt
        obtain rfl : i = s.size := by omega
        have HR := Lib.hid (HT.out.own z1 m)
        rw [psO_len, ← HSM.out] at HR
        go_wp2
        go_ret2
        exact ⟨_, rfl, by rw [HP.out]; exact HR.out, HB.out⟩

end Go.Proofs.Ytkhpfeeohjhpiaa
