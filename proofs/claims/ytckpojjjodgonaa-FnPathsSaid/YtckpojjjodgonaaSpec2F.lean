/- The contract of the model's PrimesOf. -/
import Derived.Test.YtckpojjjodgonaaSpec2E
import Derived.Test.YtckpojjjodgonaaLawLists
namespace Go.Proofs.Ytckpojjjodgonaa
open Go.ChangeShapes Go.WideShapes Go.ChangeAt Go.RowKit
open Go.PlainAid (bt bt_nonneg bt_le get_bt)
set_option linter.unusedVariables false

/-- The parts of a path between its returns. -/
def primesF : Nat → ByteArray → List ByteArray
  | 0, _ => []
  | n + 1, s => if dyck s = true ∧ 0 < s.size then s.extract 0 ((cutP s).toNat + 1) :: primesF n (s.extract ((cutP s).toNat + 1) s.size) else []
theorem primesF_yes (n : Nat) (s : ByteArray) (h : dyck s = true ∧ 0 < s.size) : primesF (n + 1) s = s.extract 0 ((cutP s).toNat + 1) :: primesF n (s.extract ((cutP s).toNat + 1) s.size) := if_pos h
theorem primesF_no (n : Nat) (s : ByteArray) (h : ¬ (dyck s = true ∧ 0 < s.size)) : primesF n s = [] := by
  cases n with
  | zero => rfl
  | succ n => exact if_neg h
theorem primesF_len : ∀ (n : Nat) (s : ByteArray), (primesF n s).length ≤ s.size := by
  intro n
  induction n with
  | zero => intro s; exact Nat.zero_le _
  | succ n ih =>
    intro s
    by_cases h : dyck s = true ∧ 0 < s.size
    · rw [primesF_yes n s h, List.length_cons]
      have := ih (s.extract ((cutP s).toNat + 1) s.size)
      rw [ByteArray.size_extract] at this
      obtain ⟨h1, h2⟩ := h
      omega
    · rw [primesF_no _ s h]; exact Nat.zero_le _
def primesP (s : ByteArray) : List ByteArray := primesF (s.size + 1) s
theorem primesP_len (s : ByteArray) : (primesP s).length ≤ s.size := primesF_len _ s

set_option maxRecDepth 100000 in
set_option maxHeartbeats 1600000 in
theorem primesOf (s : ByteArray) (w : World) (hs : s.size ≤ 1099511627775) : Calls Try.prog 32 #[.string s] w (AnsS (primesP s) w) := by
  go_enter Try.func32, Try.ntmps32
  go_wp2
  go_loopw [0, 3] (fun x v wr => ∃ (f : Nat) (c : ByteArray) (acc : List ByteArray), x = .string c ∧ c.size < f ∧ acc.length + c.size ≤ s.size ∧ acc ++ primesF f c = primesP s ∧ wr.ownsRow w.heap.size 9 1 v acc.length (acc.map Value.string) ∧ Below w.heap.size w wr)
    (fun x _ _ => match x with | .string c => c.size | _ => 0)
  case atStart => exact ⟨s.size + 1, s, [], rfl, by omega, by simp, rfl, World.ownsRow_made w #[] 0 (Nat.le_refl _) (Nat.zero_le _) (by simp), (Below.refl _ _).alloc (Nat.le_refl _) _⟩
  case round =>
    obtain ⟨f, c, acc, rfl, hf, hl, ha, hown, hb⟩ := hrel
    have HA := Lib.hid ha
    have HL := Lib.hid hl
    have hl2 : acc.length ≤ 1099511627776 := by omega
    have hcs : c.size ≤ 1099511627776 := by omega
    have hB := hb.size
    clear ha hl
    rcases hd : dyck c with _ | _
    · have HD := Lib.hid hd
      have HP := Lib.hid (primesF_no f c (by rw [hd]; simp))
      clear hd
      go_wp2_with fail
      (with_reducible refine (isDyck_no c _ hcs HD.out).mono ?_)
      rintro e w' ⟨rfl, rfl⟩
      go_wp2
      go_ret
      refine ⟨_, rfl, ?_, hb⟩
      have h := HA.out
      rw [HP.out, List.append_nil] at h
      rw [← h]
      exact OwnS.of_row hown
    · have HD := Lib.hid hd
      by_cases h0 : 0 < c.size
      · have hne := str_full c h0
        obtain ⟨f, rfl⟩ : ∃ k, f = k + 1 := ⟨f - 1, by omega⟩
        have HP := Lib.hid (primesF_yes f c ⟨hd, h0⟩)
        obtain ⟨k, hk, k1, k2, -⟩ := cutP_in hd h0
        have HK := Lib.hid hk
        clear hd hk
        have hks : (k : Int) + 1 ≤ (c.size : Int) := by omega
        have hk0 : (0 : Int) ≤ (k : Int) + 1 := by omega
        have hkw : IntKind.i64.wrap ((k : Int) + 1) = (k : Int) + 1 := IntWalk.i64_in _ (by omega)
        have hkt : ((k : Int) + 1).toNat = k + 1 := by omega
        go_wp2_with fail
        (with_reducible refine (isDyck_yes c _ hcs HD.out).mono ?_)
        rintro e w' ⟨rfl, rfl⟩
        go_wp2_with fail
        refine (l2Cut c _ hcs).mono ?_
        rw [HK.out]
        rintro e w' ⟨rfl, rfl⟩
        go_wp2_with (at_builtin; go_must (refine wpAppStr rfl _ _ rfl w.heap.size _ _ _ rfl (hown.alloc _) wr.heap.size _ _ rfl (cell_one _ _ _) hl2 (base_up hB) ?_); intro v' w' hown' hg')
        go_roundw
        case rel =>
          refine ⟨f, c.extract (k + 1) c.size, acc ++ [c.extract 0 (k + 1)], rfl, ?_, ?_, ?_, by simpa using hown', (hb.alloc hB _).grown hg' (base_up hB) (fun k hk => (hown.lt k hk).1)⟩
          · rw [ByteArray.size_extract]; omega
          · rw [ByteArray.size_extract, List.length_append]; have := HL.out; simp only [List.length_cons, List.length_nil]; omega
          · rw [← HA.out, HP.out, HK.out]; simp
        case measure => show (c.extract (k + 1) c.size).size < c.size; rw [ByteArray.size_extract]; omega
      · have hne := str_none c (by omega)
        have HP := Lib.hid (primesF_no f c (by omega))
        clear hd
        go_wp2_with fail
        (with_reducible refine (isDyck_yes c _ hcs HD.out).mono ?_)
        rintro e w' ⟨rfl, rfl⟩
        go_wp2
        go_ret
        refine ⟨_, rfl, ?_, hb⟩
        have h := HA.out
        rw [HP.out, List.append_nil] at h
        rw [← h]
        exact OwnS.of_row hown

theorem markS1 (v : Value) (lo hi : Nat) (xs : List ByteArray) (w : World) (hv : OwnS w lo hi v xs) (hhi : hi ≤ w.heap.size) (hlo : lo ≤ w.heap.size) (hl : xs.length ≤ 1099511627776) :
    Calls Try.prog 48 #[v, .int .i64 1] w fun e w' => e = .returned (.int .i64 (1 + xs.length)) ∧ OwnS w' lo hi v (marksS 1 xs.length) ∧ Below lo w w' := markS v lo hi xs 1 w hv hhi hlo hl (by omega) (by omega)
theorem heldS1 (v : Value) (lo hi : Nat) (n : Nat) (w : World) (hv : OwnS w lo hi v (marksS 1 n)) (hhi : hi ≤ w.heap.size) (hl : n ≤ 1099511627776) :
    Calls Try.prog 49 #[v, .int .i64 1] w fun e w' => e = .returned (.int .i64 (1 + n)) ∧ Below w.heap.size w w' := heldS v lo hi n 1 w hv hhi hl (by omega) (by omega)

set_option maxRecDepth 100000 in
set_option maxHeartbeats 1600000 in
theorem lawPrimes (s : ByteArray) (xs : List ByteArray) (hl : xs.length ≤ 1048576) (hS : ∀ w, Calls Try.prog 32 #[.string s] w (AnsS xs w)) (hI : ∀ w, Calls Try.prog 30 #[.string s] w (AnsS xs w))
    (w : World) (hs : s.size ≤ 1048576) : Calls Try.prog 14 #[.string s] w fun e w' => e = .returned (.bool true) ∧ Below w.heap.size w w' := by
  have HS := Lib.hid hS
  have HI := Lib.hid hI
  clear hS hI
  go_enter Try.func14, Try.ntmps14
  go_wp2_with fail
  refine (HS.out _).mono ?_
  rintro e w1 ⟨v0, rfl, ho, hb⟩
  have HO0 := Lib.hid ho
  have HB1 := Lib.hid hb
  have z1 := hb.size
  clear ho hb
  go_wp2_with fail
  refine (HI.out _).mono ?_
  rintro e w2 ⟨v1, rfl, ho, hb⟩
  have HO1 := Lib.hid ho
  have HO0 := Lib.hid (HO0.out.keep hb (Nat.le_refl _))
  have HB2 := Lib.hid (HB1.out.trans (hb.mono z1))
  have z2 := hb.size
  clear ho hb
  go_wp2_with fail
  refine (eqS_same _ _ _ _ _ _ xs _ HO1.out HO0.out (by omega)).mono ?_
  rintro e w3 ⟨rfl, hb⟩
  have HO1 := Lib.hid (HO1.out.keep hb (Nat.le_refl _))
  have HO0 := Lib.hid (HO0.out.keep hb z2)
  have HB3 := Lib.hid (HB2.out.trans (hb.mono (by omega)))
  have z3 := hb.size
  clear hb
  go_wp2_with fail
  refine (markS1 _ _ _ xs _ HO1.out (by omega) (by omega) (by omega)).mono ?_
  rintro e w4 ⟨rfl, ho, hb⟩
  have HO1 := Lib.hid ho
  have HO0 := Lib.hid (HO0.out.keep hb (Nat.le_refl _))
  have HB4 := Lib.hid (HB3.out.trans (hb.mono z1))
  have z4 := hb.size
  clear ho hb
  have e1 : (1 : Int) + (xs.length : Int) = (1 : Int) + (xs.length : Int) := rfl
  go_wp2_with fail
  refine (heldS1 _ _ _ xs.length _ HO1.out (by omega) (by omega)).mono ?_
  rintro e w5 ⟨rfl, hb⟩
  have HO1 := Lib.hid (HO1.out.keep hb (by omega))
  have HO0 := Lib.hid (HO0.out.keep hb (by omega))
  have HB4 := Lib.hid (HB4.out.trans (hb.mono (by omega)))
  have z5 := hb.size
  clear hb
  go_wp2_with fail
  refine (HI.out _).mono ?_
  rintro e w6 ⟨v2, rfl, ho, hb⟩
  have HO2 := Lib.hid ho
  have HO1 := Lib.hid (HO1.out.keep hb (by omega))
  have HO0 := Lib.hid (HO0.out.keep hb (by omega))
  have HB6 := Lib.hid (HB4.out.trans (hb.mono (by omega)))
  have z6 := hb.size
  clear ho hb
  go_wp2_with fail
  refine (eqS_same _ _ _ _ _ _ xs _ HO2.out HO0.out (by omega)).mono ?_
  rintro e w7 ⟨rfl, hb⟩
  have HO1 := Lib.hid (HO1.out.keep hb (by omega))
  have HB7 := Lib.hid (HB6.out.trans (hb.mono (by omega)))
  have z7 := hb.size
  clear hb
  go_wp2_with fail
  refine (heldS1 _ _ _ xs.length _ HO1.out (by omega) (by omega)).mono ?_
  rintro e w8 ⟨rfl, hb8⟩
  have HB7 := Lib.hid (HB7.out.trans (hb8.mono (by omega)))
  go_wp2
  go_ret
  exact ⟨rfl, HB7.out⟩

end Go.Proofs.Ytckpojjjodgonaa
