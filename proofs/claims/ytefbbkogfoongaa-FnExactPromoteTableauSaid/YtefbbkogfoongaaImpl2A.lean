/- The contracts of the program's stepOf and IsDyck; what the next letter of a range over a path is. -/
import Derived.Test.YtefbbkogfoongaaSpec2A
import Derived.Lib.OthersKept
namespace Go.Proofs.Ytefbbkogfoongaa
open Go.ChangeShapes Go.WideShapes Go.ChangeAt Go.RowKit
set_option linter.unusedVariables false

theorem stepOf_up (w : World) : Calls Try.prog 46 #[.int .i32 117] w fun e w' => e = .returned (.int .i64 1) ∧ w = w' := by
  go_enter Try.func46, Try.ntmps46
  go_wp2
  go_ret
  exact ⟨rfl, rfl⟩
theorem stepOf_down (w : World) : Calls Try.prog 46 #[.int .i32 100] w fun e w' => e = .returned (.int .i64 (-1)) ∧ w = w' := by
  go_enter Try.func46, Try.ntmps46
  go_wp2
  go_ret
  exact ⟨rfl, rfl⟩
theorem stepOf_other (c : Int) (h1 : (c == 117) = false) (h2 : (c == 100) = false) (w : World) : Calls Try.prog 46 #[.int .i32 c] w fun e w' => e = .returned (.int .i64 0) ∧ w = w' := by
  go_enter Try.func46, Try.ntmps46
  go_wp2
  go_ret
  exact ⟨rfl, rfl⟩

/-- The next letter of a range over a string, where it is an ASCII letter. -/
theorem next_letter {P : Program} (wr : World) (k : Nat) (s : ByteArray) (i : Nat) (c : Nat) (hk : wr.heap[k]? = some (.stringIter s i)) (h : i < s.size) (hc : s[i].toNat = c) (h7 : c < 128) (ty : TypeId) :
    (Instr.next (.pointer (some ⟨k, 0, none⟩)) true ty).run P wr = .ok (.tuple #[.bool true, .int .i64 i, .int .i32 c]) (wr.iterAt k s (i + 1)) := by
  rw [Lib.run_next_ascii_at wr k s i ty hk h (by omega), hc]
/-- A rune that is no letter of a path, at a byte that is none. -/
theorem next_other {P : Program} (wr : World) (k : Nat) (s : ByteArray) (i : Nat) (hk : wr.heap[k]? = some (.stringIter s i)) (h : i < s.size) (h1 : s[i].toNat ≠ 117) (h2 : s[i].toNat ≠ 100) :
    ∃ (c : Int) (j : Nat), (c == 117) = false ∧ (c == 100) = false ∧ ∀ ty, (Instr.next (.pointer (some ⟨k, 0, none⟩)) true ty).run P wr = .ok (.tuple #[.bool true, .int .i64 i, .int .i32 c]) (wr.iterAt k s j) := by
  by_cases ha : s[i].toNat < 128
  · exact ⟨(s[i].toNat : Int), i + 1, by simp; omega, by simp; omega, fun ty => Lib.run_next_ascii_at wr k s i ty hk h ha⟩
  · have hd := (decode_high s i h (by omega)).1
    exact ⟨((Utf8.decode s i).1 : Int), i + (Utf8.decode s i).2, by simp; omega, by simp; omega, fun ty => Lib.run_next_any_at wr k s i ty hk h⟩

set_option maxRecDepth 100000 in
set_option maxHeartbeats 1600000 in
theorem isDyckI (s : ByteArray) (w : World) : Calls Try.prog 41 #[.string s] w fun e w' => e = .returned (.bool (dyck s)) ∧ Below w.heap.size w w' := by
  by_cases h16 : 16 < s.size
  · have HL := Lib.hid (dyck_long h16)
    have h16' : (16 : Int) < (s.size : Int) := by omega
    go_enter Try.func41, Try.ntmps41
    go_wp2
    go_ret
    exact ⟨ret_bool HL.out.symm, Below.refl _ _⟩
  · have h16' : s.size ≤ 16 := by omega
    have HL := Lib.hid (dyck_short h16')
    go_enter Try.func41, Try.ntmps41
    go_wp2
    go_loopw [3] (fun x wr => ∃ (i h : Nat), i ≤ s.size ∧ h ≤ i ∧ x = .int .i64 h ∧ wr.heap[w.heap.size]? = some (.stringIter s i) ∧ Below w.heap.size w wr ∧ dyckFrom 0 s.data.toList = dyckFrom h (rest s i)) (fun _ wr => s.size - wr.iterPos w.heap.size)
    case atStart => exact ⟨0, 0, Nat.zero_le _, Nat.le_refl _, rfl, World.iter_heap w s 0, (Below.refl _ _).alloc (Nat.le_refl _) _, rfl⟩
    case round =>
      obtain ⟨i, h, hi, hh, rfl, hit, hb, hd⟩ := hrel
      have HD := Lib.hid hd
      have HIT := Lib.hid hit
      have HB := Lib.hid hb
      clear hd hb
      by_cases hlt : i < s.size
      · have HR := Lib.hid (rest_cons s i hlt)
        by_cases e1 : s[i].toNat = 117
        · have hnx := next_letter (P := Try.prog) wr _ s i 117 hit hlt e1 (by omega)
          have HE := Lib.hid e1
          clear hit e1
          go_wp2_with (go_at_call 46; refine (stepOf_up _).mono ?_; rintro e w' ⟨rfl, rfl⟩)
          go_roundw
          case rel => exact ⟨i + 1, h + 1, by omega, by omega, by simp, Lib.iterAt_heap _ _ _ _ _ HIT.out, Lib.below_iterAt HB.out (Nat.le_refl _) _ _, by rw [HD.out, HR.out, df_up _ _ _ HE.out]⟩
          case measure => simp only [World.iterPos, Lib.iterAt_heap _ _ _ _ _ HIT.out, HIT.out]; omega
        · by_cases e2 : s[i].toNat = 100
          · have hnx := next_letter (P := Try.prog) wr _ s i 100 hit hlt e2 (by omega)
            have HE := Lib.hid e2
            clear hit e1 e2
            rcases h with _ | h
            · go_wp2_with (go_at_call 46; refine (stepOf_down _).mono ?_; rintro e w' ⟨rfl, rfl⟩)
              go_ret
              refine ⟨ret_bool ?_, Lib.below_iterAt HB.out (Nat.le_refl _) _ _⟩
              rw [HL.out, HD.out, HR.out, df_below _ _ HE.out]
            · go_wp2_with (go_at_call 46; refine (stepOf_down _).mono ?_; rintro e w' ⟨rfl, rfl⟩)
              go_roundw
              case rel => exact ⟨i + 1, h, by omega, by omega, by simp; omega, Lib.iterAt_heap _ _ _ _ _ HIT.out, Lib.below_iterAt HB.out (Nat.le_refl _) _ _, by rw [HD.out, HR.out, df_down _ _ _ HE.out]⟩
              case measure => simp only [World.iterPos, Lib.iterAt_heap _ _ _ _ _ HIT.out, HIT.out]; omega
          · obtain ⟨c, j, c1, c2, hnx⟩ := next_other (P := Try.prog) wr _ s i hit hlt e1 e2
            have HE := Lib.hid (And.intro e1 e2)
            clear hit e1 e2
            go_wp2_with (go_at_call 46; refine (stepOf_other _ c1 c2 _).mono ?_; rintro e w' ⟨rfl, rfl⟩)
            go_ret
            refine ⟨ret_bool ?_, Lib.below_iterAt HB.out (Nat.le_refl _) _ _⟩
            rw [HL.out, HD.out, HR.out, df_other _ _ _ HE.out.1 HE.out.2]
      · have hnx := fun ty => Lib.run_next_end_at (P := Try.prog) wr _ s i ty hit hlt
        have HE := Lib.hid (rest_end s i (by omega))
        clear hit
        go_wp2
        go_ret
        refine ⟨ret_bool ?_, HB.out⟩
        rw [HL.out, HD.out, HE.out, df_nil]
        rw [Bool.eq_iff_iff, beq_iff_eq, beq_iff_eq]
        omega

theorem isDyckI_yes (s : ByteArray) (w : World) (h : dyck s = true) : Calls Try.prog 41 #[.string s] w fun e w' => e = .returned (.bool true) ∧ Below w.heap.size w w' := by
  have := isDyckI s w; rwa [h] at this
theorem isDyckI_no (s : ByteArray) (w : World) (h : dyck s = false) : Calls Try.prog 41 #[.string s] w fun e w' => e = .returned (.bool false) ∧ Below w.heap.size w w' := by
  have := isDyckI s w; rwa [h] at this

end Go.Proofs.Ytefbbkogfoongaa
