/- The contracts of the model's HeightsOf, ReturnsOf and AreaOf. -/
import Derived.Test.YtpggglcjocnjlaaGreatSpec2A
import Derived.Test.YtpggglcjocnjlaaGreatInts
namespace Go.Proofs.YtpggglcjocnjlaaGreat
open Go.ChangeShapes Go.WideShapes Go.ChangeAt Go.RowKit
open Go.PlainAid (bt bt_nonneg bt_le get_bt)
set_option linter.unusedVariables false

/-- The heights before each letter and at the end, from height h on. -/
def hsL : Int → List UInt8 → List Int
  | h, [] => [h]
  | h, c :: l => h :: hsL (if c.toNat = 117 then h + 1 else h - 1) l
theorem hsL_nil (h : Int) : hsL h [] = [h] := rfl
theorem hsL_up (h : Int) (c : UInt8) (l : List UInt8) (e : c.toNat = 117) : hsL h (c :: l) = h :: hsL (h + 1) l := by rw [hsL, if_pos e]
theorem hsL_down (h : Int) (c : UInt8) (l : List UInt8) (e : c.toNat ≠ 117) : hsL h (c :: l) = h :: hsL (h - 1) l := by rw [hsL, if_neg e]
theorem hsL_len (h : Int) (l : List UInt8) : (hsL h l).length = l.length + 1 := by
  induction l generalizing h with
  | nil => rfl
  | cons c l ih => rw [hsL, List.length_cons, ih, List.length_cons]
def heightsP (s : ByteArray) : List Int := if dyck s = true then hsL 0 s.data.toList else []
theorem heightsP_yes {s : ByteArray} (h : dyck s = true) : heightsP s = hsL 0 s.data.toList := if_pos h
theorem heightsP_no {s : ByteArray} (h : dyck s = false) : heightsP s = [] := if_neg (by simp [h])
theorem heightsP_len (s : ByteArray) : (heightsP s).length ≤ 17 := by
  unfold heightsP
  split
  · rename_i h
    have := dyck_size h
    rw [hsL_len]; simp; omega
  · simp

/-- A function that answers the ints xs in memory of its own. -/
def AnsI (xs : List Int) (w : World) (e : Ending) (w' : World) : Prop := ∃ v, e = .returned v ∧ OwnI w' w.heap.size w'.heap.size v xs ∧ Below w.heap.size w w'

set_option maxRecDepth 100000 in
set_option maxHeartbeats 1600000 in
theorem heightsOf (s : ByteArray) (w : World) (hs : s.size ≤ 1099511627776) : Calls Tryz.prog 61 #[.string s] w (AnsI (heightsP s) w) := by
  rcases hd : dyck s with _ | _
  · have HP := Lib.hid (heightsP_no hd)
    have HD := Lib.hid hd
    clear hd
    go_enter Tryz.func61, Tryz.ntmps61
    go_wp2_with fail
    (with_reducible refine (isDyck_no s _ hs HD.out).mono ?_)
    rintro e w' ⟨rfl, rfl⟩
    go_wp2
    go_ret
    exact ⟨_, rfl, by rw [HP.out]; exact ⟨_, _, rfl, .inl rfl⟩, (Below.refl _ _).alloc (Nat.le_refl _) _⟩
  · have HP := Lib.hid (heightsP_yes hd)
    have HD := Lib.hid hd
    have h16 := dyck_size hd
    clear hd
    go_enter Tryz.func61, Tryz.ntmps61
    go_wp2_with fail
    (with_reducible refine (isDyck_yes s _ hs HD.out).mono ?_)
    rintro e w' ⟨rfl, rfl⟩
    go_wp2
    go_loopw [3, 4, 5] (fun v x y wr => ∃ (i : Nat) (h : Int) (acc : List Int), i ≤ s.size ∧ -(i : Int) ≤ h ∧ h ≤ i ∧ y = .int .i64 i ∧ x = .int .i64 h ∧ acc.length = i ∧ acc ++ hsL h (rest s i) = hsL 0 s.data.toList ∧ wr.ownsRow w.heap.size 3 1 v acc.length (acc.map (Value.int .i64)) ∧ Below w.heap.size w wr)
      (fun _ _ y _ => s.size - (intOf y).toNat)
    case atStart => exact ⟨0, 0, [], Nat.zero_le _, by omega, by omega, rfl, rfl, rfl, rfl, World.ownsRow_made w #[] 0 (Nat.le_refl _) (Nat.zero_le _) (by simp), (Below.refl _ _).alloc (Nat.le_refl _) _⟩
    case round =>
      obtain ⟨i, h, acc, hi, h1, h2, rfl, rfl, hl, ha, hown, hb⟩ := hrel
      have HA := Lib.hid ha
      have HL := Lib.hid hl
      have hl2 : acc.length ≤ 1000 := by omega
      have hB := hb.size
      clear ha hl
      by_cases hlt : i < s.size
      · have hbt := get_bt s
        have HR := Lib.hid (rest_cons s i hlt)
        have HBB := Lib.hid (bt_at s i hlt)
        by_cases e1 : bt s i = 117
        · have b1 : (bt s i == 117) = true := by simp [e1]
          have HE := Lib.hid (show s[i].toNat = 117 by have := HBB.out; omega)
          clear e1
          go_wp2_with (at_builtin; go_must (refine wpAppInt rfl _ _ rfl w.heap.size u3 _ _ rfl (hown.alloc _) wr.heap.size _ _ rfl (cell_one _ _ _) (by omega) (base_up hB) ?_); intro v' w' hown' hg')
          go_roundw
          case rel => exact ⟨i + 1, h + 1, acc ++ [h], by omega, by omega, by omega, by simp, rfl, by rw [List.length_append, HL.out]; rfl, by rw [← HA.out, HR.out, hsL_up _ _ _ HE.out]; simp, by simpa using hown', (hb.alloc hB _).grown hg' (base_up hB) (fun k hk => (hown.lt k hk).1)⟩
          case measure => simp [intOf]; omega
        · have b1 : (bt s i == 117) = false := by simp [e1]
          have HE := Lib.hid (show s[i].toNat ≠ 117 by have := HBB.out; omega)
          clear e1
          go_wp2_with (at_builtin; go_must (refine wpAppInt rfl _ _ rfl w.heap.size u3 _ _ rfl (hown.alloc _) wr.heap.size _ _ rfl (cell_one _ _ _) (by omega) (base_up hB) ?_); intro v' w' hown' hg')
          go_roundw
          case rel => exact ⟨i + 1, h - 1, acc ++ [h], by omega, by omega, by omega, by simp, rfl, by rw [List.length_append, HL.out]; rfl, by rw [← HA.out, HR.out, hsL_down _ _ _ HE.out]; simp, by simpa using hown', (hb.alloc hB _).grown hg' (base_up hB) (fun k hk => (hown.lt k hk).1)⟩
          case measure => simp [intOf]; omega
      · have HE := Lib.hid (rest_end s i (by omega))
        go_wp2_with (at_builtin; go_must (refine wpAppInt rfl _ _ rfl w.heap.size u3 _ _ rfl (hown.alloc _) wr.heap.size _ _ rfl (cell_one _ _ _) (by omega) (base_up hB) ?_); intro v' w' hown' hg')
        go_ret
        refine ⟨v', rfl, ?_, (hb.alloc hB _).grown hg' (base_up hB) (fun k hk => (hown.lt k hk).1)⟩
        have h := HA.out
        rw [HE.out, hsL_nil] at h
        rw [HP.out, ← h]
        exact OwnI.of_row hown'

end Go.Proofs.YtpggglcjocnjlaaGreat
