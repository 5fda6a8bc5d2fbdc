/- The program's is231, is321, firstTriple, contains, Contains231, Contains321, PatternOf231, BubbleOnce. -/
import Derived.Test.YtgeppabpkbepdaaImpl10A
import Derived.Test.YtgeppabpkbepdaaCopy31
import Derived.Test.YtgeppabpkbepdaaFact31B
import Derived.BigQuiet
import Derived.BigRegion
namespace Go.Proofs.Ytgeppabpkbepdaa
open Go.ChangeShapes Go.WideShapes Go.ChangeAt Go.RowKit
set_option linter.unusedVariables false

/-- A call that leaves the world as it is, within a region that only draws. -/
theorem still_on31 {P : Program} {f : Nat} {args : Array Value} {w : World} {n : Nat} {v : Value} (h : Calls P f args (w.drewN n) fun e w' => e = .returned v ∧ w.drewN n = w') : Calls P f args (w.drewN n) fun e w' => e = .returned v ∧ ∃ m, w' = w.drewN m :=
  h.mono fun e w' h => ⟨h.1, n, h.2.symm⟩
theorem still_add31 {P : Program} {f : Nat} {args : Array Value} {w : World} {q n : Nat} {v : Value} (h : Calls P f args (w.drewN (q + n)) fun e w' => e = .returned v ∧ w.drewN (q + n) = w') : Calls P f args (w.drewN (q + n)) fun e w' => e = .returned v ∧ ∃ m, w' = w.drewN (q + m) :=
  h.mono fun e w' h => ⟨h.1, n, h.2.symm⟩
theorem own_threeI (w : World) (lo b : Nat) (x y z : Int) (hb : b = w.heap.size) (hlo : lo ≤ b) : OwnI (w.alloc (.cells #[.int .i64 x, .int .i64 y, .int .i64 z] 3)) lo (w.alloc (.cells #[.int .i64 x, .int .i64 y, .int .i64 z] 3)).heap.size (.slice (some ⟨b, 0, none⟩) 3 3) [x, y, z] := by
  subst hb
  refine ⟨_, 3, rfl, .inr ⟨w.heap.size, #[.int .i64 x, .int .i64 y, .int .i64 z], hlo, by simp, rfl, by rw [show ∀ o, (w.alloc o).heap = w.heap.push o from fun _ => rfl]; simp, fun j hj => ?_⟩⟩
  match j, hj with
  | 0, _ => rfl
  | 1, _ => rfl
  | 2, _ => rfl

theorem rel231 (a b c : Int) (w : World) : Calls Try.prog 48 #[.int .i64 a, .int .i64 b, .int .i64 c] w fun e w' => e = .returned (.bool (r231 a b c)) ∧ w = w' := by
  by_cases h1 : c < a
  · have d1 : decide (c < a) = true := decide_eq_true h1
    by_cases h2 : a < b
    · have d2 : decide (a < b) = true := decide_eq_true h2
      have HR := Lib.hid (show r231 a b c = true from decide_eq_true (by omega))
      go_enter Try.func48, Try.ntmps48
      go_wp2
      go_ret
      exact ⟨ret_bool HR.out.symm, rfl⟩
    · have d2 : decide (a < b) = false := decide_eq_false h2
      have HR := Lib.hid (show r231 a b c = false from decide_eq_false (by omega))
      go_enter Try.func48, Try.ntmps48
      go_wp2
      go_ret
      exact ⟨ret_bool HR.out.symm, rfl⟩
  · have d1 : decide (c < a) = false := decide_eq_false h1
    have HR := Lib.hid (show r231 a b c = false from decide_eq_false (by omega))
    go_enter Try.func48, Try.ntmps48
    go_wp2
    go_ret
    exact ⟨ret_bool HR.out.symm, rfl⟩

set_option maxRecDepth 100000 in
set_option maxHeartbeats 3200000 in
theorem firstTriple231I (A1 : Option Addr) (xs : List Int) (c1 lo hi : Nat) (w : World) (hv : OwnI w lo hi (.slice A1 xs.length c1) xs) (hl : xs.length ≤ 1048576) :
    Calls Try.prog 47 #[.slice A1 xs.length c1, .func (.func 48) #[] #[]] w (AnsIB (ftP r231 xs) (hasT r231 xs) w) := by
  have HV := Lib.hid hv
  clear hv
  go_enter Try.func47, Try.ntmps47
  go_wp2
  go_loopw [12] (fun y wr => ∃ (a q : Nat), a ≤ xs.length ∧ y = .int .i64 a ∧ wr = w.drewN q ∧ ∀ a' b c, a' < a → a' < b → b < c → c < xs.length → r3 r231 xs a' b c = false) (fun y _ => xs.length - (intOf y).toNat)
  case atStart => exact ⟨0, 0, Nat.zero_le _, rfl, rfl, fun a b c h => absurd h (Nat.not_lt_zero _)⟩
  case round =>
    obtain ⟨a, q, ha, rfl, rfl, hno⟩ := hrel
    have HNO := Lib.hid hno
    clear hno
    by_cases hlt : a < xs.length
    · obtain ⟨g1, p1, e1, -, -, hc1, -⟩ := HV.out.cell hlt
      simp only [Value.slice.injEq] at e1
      obtain ⟨rfl, -, rfl⟩ := e1
      have hai : (a : Int) < (xs.length : Int) := by omega
      have HXA := Lib.hid (fun b c => show r3 r231 xs a b c = r231 (xs.getD a 0) (xs.getD b 0) (xs.getD c 0) from rfl)
      generalize xs.getD a 0 = x at hc1 HXA
      go_wp2
      go_loopw [8] (fun y wr => ∃ (k q : Nat), a + 1 + k ≤ xs.length ∧ y = .int .i64 ((a + 1 + k : Nat) : Int) ∧ wr = w.drewN q ∧ ∀ b c, a < b → b < a + 1 + k → b < c → c < xs.length → r3 r231 xs a b c = false) (fun y _ => xs.length - (intOf y).toNat)
      case atStart => exact ⟨0, q, by omega, by simp, rfl, fun b c h1 h2 => by omega⟩
      case round =>
        obtain ⟨k, q, hk, rfl, rfl, hno2⟩ := hrel
        have HN2 := Lib.hid hno2
        clear hno2
        have HK := Lib.hid hk
        have hk16 : k ≤ 1048576 := by omega
        obtain ⟨b, hb⟩ : ∃ b, b = a + 1 + k := ⟨_, rfl⟩
        have hbx : b ≤ xs.length := by omega
        rw [← hb]
        have HBB := Lib.hid hb
        rw [← hb] at HN2
        clear hb hk HK
        by_cases hbl : b < xs.length
        · obtain ⟨g2, p2, e2, -, -, hc2, -⟩ := HV.out.cell hbl
          obtain rfl : g1 = g2 := by simpa using (Value.slice.inj e2).1
          have hbi : (b : Int) < (xs.length : Int) := by omega
          have HXB := Lib.hid (fun c => HXA.out b c)
          generalize xs.getD b 0 = y at hc2 HXB
          go_wp2
          go_loopw [9] (fun y wr => ∃ (m q : Nat), b + 1 + m ≤ xs.length ∧ y = .int .i64 ((b + 1 + m : Nat) : Int) ∧ wr = w.drewN q ∧ ∀ c, b < c → c < b + 1 + m → r3 r231 xs a b c = false) (fun y _ => xs.length - (intOf y).toNat)
          case atStart => exact ⟨0, q, by omega, by simp, rfl, fun c h1 h2 => by omega⟩
          case round =>
            obtain ⟨m, q, hm1, rfl, rfl, hno3⟩ := hrel
            have HN3 := Lib.hid hno3
            clear hno3
            obtain ⟨c, hc⟩ : ∃ c, c = b + 1 + m := ⟨_, rfl⟩
            have hcx : c ≤ xs.length := by omega
            rw [← hc]
            have HCC := Lib.hid hc
            rw [← hc] at HN3
            clear hc hm1
            by_cases hcl : c < xs.length
            · obtain ⟨g3, p3, e3, -, -, hc3, -⟩ := HV.out.cell hcl
              obtain rfl : g1 = g3 := by simpa using (Value.slice.inj e3).1
              have hci : (c : Int) < (xs.length : Int) := by omega
              have HXC := Lib.hid (HXB.out c)
              generalize xs.getD c 0 = z at hc3 HXC
              have HCALL := Lib.hid (fun W => rel231 x y z W)
              have hab : a < b := by have := HBB.out; omega
              have hbc : b < c := by have := HCC.out; omega
              rcases hr : r231 x y z with _ | _
              · have HE := Lib.hid (HXC.out.trans hr)
                rw [hr] at HCALL
                clear hr
                go_wp2
                go_quiet ((with_reducible exact still_add31 (HCALL.out _)))
                go_wp2
                refine ⟨⟨m + 1, q + nq, by have := HCC.out; omega, by have := HCC.out; congr 1; omega, rfl, fun c' h1 h2 => ?_⟩, by have := HCC.out; simp [intOf]; omega⟩
                by_cases e : c' < c
                · exact HN3.out c' h1 e
                · obtain rfl : c' = c := by have := HCC.out; omega
                  exact HE.out
              · have HE0 := HXC.out.trans hr
                have HE := Lib.hid (hasT_yes (R := r231) (xs := xs) hab hbc hcl HE0)
                have HF := Lib.hid (ft_yes (R := r231) (xs := xs) hab hbc hcl HE0 (fun a' h1 b' c' h2 h3 h4 => HNO.out a' b' c' h1 h2 h3 h4) (fun b' h1 h2 c' h3 h4 => HN2.out b' c' h1 (by have := HBB.out; omega) h3 h4) (fun c' h1 h2 => HN3.out c' h1 h2))
                rw [hr] at HCALL
                clear hr HE0
                go_wp2
                go_quiet ((with_reducible exact still_add31 (HCALL.out _)))
                go_wp2
                go_ret2
                exact ⟨_, ret_ib rfl HE.out.symm, by rw [HF.out]; exact own_threeI (w.drewN _) _ _ _ _ _ rfl (Nat.le_refl _), (below_drewN (Below.refl w.heap.size w) _).alloc (Nat.le_refl _) _⟩
            · have hcn : ¬ (c : Int) < (xs.length : Int) := by omega
              go_wp2
              refine ⟨⟨k + 1, q, by have := HBB.out; omega, by have := HBB.out; congr 1; omega, rfl, fun b' c' h1 h2 h3 h4 => ?_⟩, by have := HBB.out; simp [intOf]; omega⟩
              by_cases e : b' < b
              · exact HN2.out b' c' h1 e h3 h4
              · obtain rfl : b' = b := by have := HBB.out; omega
                exact HN3.out c' h3 (by have := HCC.out; omega)
        · have hbn : ¬ (b : Int) < (xs.length : Int) := by omega
          go_wp2
          refine ⟨⟨a + 1, q, by omega, by simp, rfl, fun a' b' c' h1 h2 h3 h4 => ?_⟩, by simp [intOf]; omega⟩
          by_cases e : a' < a
          · exact HNO.out a' b' c' e h2 h3 h4
          · obtain rfl : a' = a := by omega
            exact HN2.out b' c' h2 (by have := HBB.out; omega) h3 h4
    · obtain rfl : a = xs.length := by omega
      have HR := Lib.hid (hasT_no (R := r231) fun a b c h1 h2 h3 => HNO.out a b c (by omega) h1 h2 h3)
      have HF := Lib.hid (ft_no (R := r231) fun a b c h1 h2 h3 => HNO.out a b c (by omega) h1 h2 h3)
      go_wp2
      go_ret2
      exact ⟨_, ret_ib rfl HR.out.symm, by rw [HF.out]; exact ⟨_, _, rfl, .inl rfl⟩, below_drewN (Below.refl w.heap.size w) _⟩

set_option maxRecDepth 100000 in
set_option maxHeartbeats 1600000 in
theorem holds231I (A1 : Option Addr) (xs : List Int) (c1 lo hi : Nat) (w : World) (hv : OwnI w lo hi (.slice A1 xs.length c1) xs) (hhi : hi ≤ w.heap.size) :
    Calls Try.prog 54 #[.slice A1 xs.length c1, .func (.func 48) #[] #[]] w fun e w' => e = .returned (.bool (conB r231 xs)) ∧ Below w.heap.size w w' := by
  have HV := Lib.hid hv
  have HM := Lib.hid (isPermutationI _ xs _ lo hi w hv hhi)
  clear hv
  rcases hm : permB xs with _ | _
  · have HP := Lib.hid (show conB r231 xs = false by unfold conB; rw [hm]; rfl)
    rw [hm] at HM
    clear hm
    go_enter Try.func54, Try.ntmps54
    go_wp2_with fail
    (with_reducible refine HM.out.mono ?_)
    rintro e w' ⟨rfl, hb⟩
    go_wp2
    go_ret
    exact ⟨ret_bool HP.out.symm, hb⟩
  · have HP := Lib.hid (show conB r231 xs = hasT r231 xs by unfold conB; rw [hm]; rfl)
    have h16 := (perm_yes hm).1
    rw [hm] at HM
    clear hm
    go_enter Try.func54, Try.ntmps54
    go_wp2_with fail
    (with_reducible refine HM.out.mono ?_)
    rintro e w1 ⟨rfl, hb⟩
    have HB1 := Lib.hid hb
    have HV1 := Lib.hid (HV.out.keep hb hhi)
    clear hb
    go_wp2_with fail
    (with_reducible refine (firstTriple231I _ xs _ lo hi _ HV1.out (by omega)).mono ?_)
    rintro e w2 ⟨v2, rfl, ho2, hb2⟩
    have HB2 := Lib.hid (HB1.out.trans (hb2.mono HB1.out.size))
    clear ho2 hb2
    go_wp2
    go_ret
    exact ⟨ret_bool HP.out.symm, HB2.out⟩

set_option maxRecDepth 100000 in
theorem contains231I (A1 : Option Addr) (xs : List Int) (c1 lo hi : Nat) (w : World) (hv : OwnI w lo hi (.slice A1 xs.length c1) xs) (hhi : hi ≤ w.heap.size) :
    Calls Try.prog 49 #[.slice A1 xs.length c1] w fun e w' => e = .returned (.bool (conB r231 xs)) ∧ Below w.heap.size w w' := by
  have HM := Lib.hid (holds231I _ xs _ lo hi w hv hhi)
  clear hv
  go_enter Try.func49, Try.ntmps49
  go_wp2_with fail
  (with_reducible refine HM.out.mono ?_)
  rintro e w' ⟨rfl, hb⟩
  go_wp2
  go_ret
  exact ⟨rfl, hb⟩

set_option maxRecDepth 100000 in
set_option maxHeartbeats 1600000 in
theorem patternOf231I (A1 : Option Addr) (xs : List Int) (c1 lo hi : Nat) (w : World) (hv : OwnI w lo hi (.slice A1 xs.length c1) xs) (hhi : hi ≤ w.heap.size) :
    Calls Try.prog 38 #[.slice A1 xs.length c1] w (AnsIB (patP xs) (conB r231 xs) w) := by
  have HV := Lib.hid hv
  have HM := Lib.hid (isPermutationI _ xs _ lo hi w hv hhi)
  clear hv
  rcases hm : permB xs with _ | _
  · have HP := Lib.hid (show conB r231 xs = false by unfold conB; rw [hm]; rfl)
    have HQ := Lib.hid (show patP xs = [] by unfold patP; rw [if_neg (by simp [hm])])
    rw [hm] at HM
    clear hm
    go_enter Try.func38, Try.ntmps38
    go_wp2_with fail
    (with_reducible refine HM.out.mono ?_)
    rintro e w' ⟨rfl, hb⟩
    go_wp2
    go_ret2
    exact ⟨_, ret_ib rfl HP.out.symm, by rw [HQ.out]; exact ⟨_, _, rfl, .inl rfl⟩, hb⟩
  · have HP := Lib.hid (show conB r231 xs = hasT r231 xs by unfold conB; rw [hm]; rfl)
    have HQ := Lib.hid (show patP xs = ftP r231 xs by unfold patP; rw [if_pos hm])
    have h16 := (perm_yes hm).1
    rw [hm] at HM
    clear hm
    go_enter Try.func38, Try.ntmps38
    go_wp2_with fail
    (with_reducible refine HM.out.mono ?_)
    rintro e w1 ⟨rfl, hb⟩
    have HB1 := Lib.hid hb
    have HV1 := Lib.hid (HV.out.keep hb hhi)
    clear hb
    go_wp2_with fail
    (with_reducible refine (firstTriple231I _ xs _ lo hi _ HV1.out (by omega)).mono ?_)
    rintro e w2 ⟨v2, rfl, ho2, hb2⟩
    have HO2 := Lib.hid (ho2.wide HB1.out.size (Nat.le_refl _))
    have HB2 := Lib.hid (HB1.out.trans (hb2.mono HB1.out.size))
    clear ho2 hb2
    go_wp2
    go_ret2
    exact ⟨_, ret_ib rfl HP.out.symm, by rw [HQ.out]; exact HO2.out, HB2.out⟩

end Go.Proofs.Ytgeppabpkbepdaa
