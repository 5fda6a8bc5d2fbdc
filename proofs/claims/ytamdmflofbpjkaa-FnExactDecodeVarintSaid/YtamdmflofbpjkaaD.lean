/- The contracts of both DecodeHex: on an even number of hexadecimal digits both give the bytes that the digits spell, and true; else the empty string and false. -/
import Derived.Test.YtamdmflofbpjkaaC
import Derived.PlainAid
import Derived.Laws.RangeAny
namespace Go.Proofs.Ytamdmflofbpjkaa
open Go.ChangeShapes Go.WideShapes Go.ChangeAt Go.RowKit
set_option linter.unusedVariables false

/-- The value of a hexadecimal digit, -1 of any other byte. -/
def hv (c : Int) : Int := if 48 ≤ c ∧ c ≤ 57 then c - 48 else if 97 ≤ c ∧ c ≤ 102 then c - 87 else -1
theorem hv_le (c : Int) : -1 ≤ hv c ∧ hv c ≤ 15 := by unfold hv; split <;> (try split) <;> omega
theorem hv_hd (k : Nat) (h : k < 16) : hv (hd k) = k := by
  unfold hv hd; split <;> split <;> (try split) <;> omega
theorem hd_hv (c : Int) (h : 0 ≤ hv c) : ∃ k : Nat, k < 16 ∧ hd k = c ∧ hv c = k := by
  unfold hv at h ⊢
  split at h
  · exact ⟨(c - 48).toNat, by omega, by unfold hd; rw [if_pos (by omega)]; omega, by rw [if_pos ‹_›]; omega⟩
  · split at h
    · exact ⟨(c - 87).toNat, by omega, by unfold hd; rw [if_neg (by omega)]; omega, by rw [if_neg ‹_›, if_pos ‹_›]; omega⟩
    · omega
theorem hv_none (c : Int) (h : ∀ j, j < 16 → hd j ≠ c) : hv c = -1 := by
  by_cases hp : 0 ≤ hv c
  · obtain ⟨k, hk, he, _⟩ := hd_hv c hp
    exact absurd he (h k hk)
  · have := hv_le c; omega

theorem ret_int {k : IntKind} {a b : Int} (h : a = b) : Ending.returned (.int k a) = .returned (.int k b) := by rw [h]

set_option maxRecDepth 100000 in
theorem fromHex (c : Int) (w : World) (h0 : 0 ≤ c) (h1 : c ≤ 255) : Calls Try.prog 24 #[.int .u8 c] w fun e w' => e = .returned (.int .i64 (hv c)) ∧ w = w' := by
  go_enter Try.func24, Try.ntmps24
  go_wp2
  go_loop [3] (fun x => ∃ k : Nat, k ≤ 16 ∧ x = .int .i64 k ∧ ∀ j, j < k → hd j ≠ c) (fun x => 16 - (intOf x).toNat)
  case atStart => exact ⟨0, by omega, rfl, fun j hj => by omega⟩
  case round =>
    obtain ⟨k, hk, rfl, hn⟩ := hrel
    have HN := Lib.hid hn
    clear hn
    by_cases hlt : k < 16
    · by_cases he : hd k = c
      · have he' : (hd k == c) = true := by simpa using he
        have HE := Lib.hid he
        clear he
        go_wp2_with (go_at_call 23; (with_reducible refine (digit_any k _ hlt).mono ?_); rintro e w' ⟨rfl, rfl⟩)
        go_ret
        exact ⟨ret_int (by rw [← HE.out, hv_hd k hlt]), rfl⟩
      · have he' : (hd k == c) = false := by simpa using he
        have HE := Lib.hid he
        clear he
        go_wp2_with (go_at_call 23; (with_reducible refine (digit_any k _ hlt).mono ?_); rintro e w' ⟨rfl, rfl⟩)
        go_round
        case rel => exact ⟨k + 1, by omega, by go_num, fun j hj => by
          rcases Nat.lt_or_ge j k with h | h
          · exact HN.out j h
          · obtain rfl : j = k := by omega
            exact HE.out⟩
        case measure => simp [intOf]; omega
    · go_wp2
      go_ret
      obtain rfl : k = 16 := by omega
      exact ⟨ret_int (hv_none c HN.out).symm, rfl⟩

open Go.PlainAid (bt bt_nonneg bt_le get_bt)
/-- The bytes that the first 2 m digits spell. -/
def bytesOf (s : ByteArray) (m : Nat) : List Int := (List.range m).map fun j => 16 * hv (bt s (2 * j)) + hv (bt s (2 * j + 1))
theorem bytesOf_succ (s : ByteArray) (m : Nat) : bytesOf s (m + 1) = bytesOf s m ++ [16 * hv (bt s (2 * m)) + hv (bt s (2 * m + 1))] := by
  simp [bytesOf, List.range_succ]
def dhB (s : ByteArray) : Bool := s.size % 2 == 0 && (List.range s.size).all fun i => decide (0 ≤ hv (bt s i))
def dhS (s : ByteArray) : ByteArray := if dhB s then strOfNums (bytesOf s (s.size / 2)) else ⟨#[]⟩
theorem dh_ok {s : ByteArray} (h : s.size % 2 = 0) (hg : ∀ i, i < s.size → 0 ≤ hv (bt s i)) : dhB s = true ∧ dhS s = strOfNums (bytesOf s (s.size / 2)) := by
  have hb : dhB s = true := by simp [dhB, h]; exact hg
  exact ⟨hb, by simp [dhS, hb]⟩
theorem dh_odd {s : ByteArray} (h : s.size % 2 = 1) : dhB s = false ∧ dhS s = ⟨#[]⟩ := by
  have hb : dhB s = false := by simp [dhB, h]
  exact ⟨hb, by simp [dhS, hb]⟩
theorem dh_bad {s : ByteArray} {i : Nat} (h : i < s.size) (hg : hv (bt s i) < 0) : dhB s = false ∧ dhS s = ⟨#[]⟩ := by
  have hb : dhB s = false := by
    simp only [dhB, Bool.and_eq_false_iff, List.all_eq_false]
    exact .inr ⟨i, by simpa using h, by simpa using hg⟩
  exact ⟨hb, by simp [dhS, hb]⟩
theorem ret_dh {s : ByteArray} {a : ByteArray} {b : Bool} (h : dhB s = b ∧ dhS s = a) : Ending.returned (.tuple #[.string a, .bool b]) = .returned (.tuple #[.string (dhS s), .bool (dhB s)]) := by
  rw [h.1, h.2]

set_option maxRecDepth 100000 in
set_option maxHeartbeats 1600000 in
theorem specDH (s : ByteArray) (w : World) (hs : s.size ≤ 1048576) :
    Calls Try.prog 19 #[.string s] w fun e w' => e = .returned (.tuple #[.string (dhS s), .bool (dhB s)]) ∧ Below w.heap.size w w' := by
  by_cases hodd : s.size % 2 = 1
  · have H := Lib.hid hodd
    have h1 : ((s.size : Int) % 2 == 1) = true := by simp; omega
    clear hodd
    go_enter Try.func19, Try.ntmps19
    go_wp2
    go_ret2
    exact ⟨ret_dh (dh_odd H.out), (Below.refl _ _).alloc (Nat.le_refl _) _⟩
  · have h1 : ((s.size : Int) % 2 == 1) = false := by simp; omega
    have H := Lib.hid hodd
    clear hodd
    go_enter Try.func19, Try.ntmps19
    go_wp2
    go_loopw [4, 5] (fun v i wr => ∃ n j : Nat, n = 2 * j ∧ n ≤ s.size ∧ i = .int .i64 n ∧ (∀ i, i < n → 0 ≤ hv (bt s i)) ∧ wr.ownsRow w.heap.size 5 1 v j ((bytesOf s j).map (Value.int .u8)) ∧ Below w.heap.size w wr)
      (fun _ i _ => s.size - (intOf i).toNat)
    case atStart => exact ⟨0, 0, rfl, Nat.zero_le _, rfl, fun i hi => by omega, World.ownsRow_made w #[] 0 (Nat.le_refl _) (Nat.zero_le _) (by simp), (Below.refl _ _).alloc (Nat.le_refl _) _⟩
    case round =>
      obtain ⟨n, j, hn, hk, rfl, hg, hown, hb⟩ := hrel
      by_cases hlt : n < s.size
      · have hlt1 : n + 1 < s.size := by have := H.out; omega
        have hjs : j ≤ 1048576 := by omega
        have HN := Lib.hid hn
        have HG := Lib.hid hg
        clear hn hg
        have hbt := get_bt s
        obtain ⟨a, ha, HA⟩ : ∃ a, hv (bt s n) = a ∧ Hid (hv (bt s n) = a) := ⟨_, rfl, rfl⟩
        obtain ⟨b, hb', HB⟩ : ∃ b, hv (bt s (n + 1)) = b ∧ Hid (hv (bt s (n + 1)) = b) := ⟨_, rfl, rfl⟩
        have la : -1 ≤ a ∧ a ≤ 15 := by rw [← ha]; exact hv_le _
        have lb : -1 ≤ b ∧ b ≤ 15 := by rw [← hb']; exact hv_le _
        by_cases na : a < 0
        · go_wp2_with fail
          (with_reducible refine (fromHex _ _ (bt_nonneg _ _) (bt_le _ _)).mono ?_)
          rintro e w' ⟨rfl, rfl⟩
          go_wp2_with fail
          (with_reducible refine (fromHex _ _ (bt_nonneg _ _) (bt_le _ _)).mono ?_)
          rintro e w' ⟨rfl, rfl⟩
          go_wp2
          go_ret2
          exact ⟨ret_dh (dh_bad hlt (by rw [HA.out]; exact na)), hb⟩
        · by_cases nb : b < 0
          · have na' : 0 ≤ a := by omega
            have na2 : decide (a < 0) = false := by simpa using na'
            go_wp2_with fail
            (with_reducible refine (fromHex _ _ (bt_nonneg _ _) (bt_le _ _)).mono ?_)
            rintro e w' ⟨rfl, rfl⟩
            go_wp2_with fail
            (with_reducible refine (fromHex _ _ (bt_nonneg _ _) (bt_le _ _)).mono ?_)
            rintro e w' ⟨rfl, rfl⟩
            go_wp2
            go_ret2
            exact ⟨ret_dh (dh_bad hlt1 (by rw [HB.out]; exact nb)), hb⟩
          · have na' : 0 ≤ a := by omega
            have nb' : 0 ≤ b := by omega
            go_wp2_with fail
            (with_reducible refine (fromHex _ _ (bt_nonneg _ _) (bt_le _ _)).mono ?_)
            rintro e w' ⟨rfl, rfl⟩
            go_wp2_with fail
            (with_reducible refine (fromHex _ _ (bt_nonneg _ _) (bt_le _ _)).mono ?_)
            rintro e w' ⟨rfl, rfl⟩
            go_wp2_with (at_builtin; go_must (refine wpApp1 rfl _ _ rfl w.heap.size u4 _ _ rfl (hown.alloc _) wr.heap.size _ _ rfl (cell_new1 _ _ _) (by omega) (base_ok hb) ?_); intro v' w' hown' hg')
            go_roundw
            case rel =>
              refine ⟨n + 2, j + 1, by have := HN.out; omega, by omega, by go_num, ?_, ?_, (hb.alloc hb.size _).grown hg' (base_ok hb) (fun j hj => (hown.lt j hj).1)⟩
              · intro i hi
                rcases Nat.lt_or_ge i n with h | h
                · exact HG.out i h
                · rcases (show i = n ∨ i = n + 1 by omega) with rfl | rfl
                  · rw [HA.out]; exact na'
                  · rw [HB.out]; exact nb'
              · rw [bytesOf_succ, ← HN.out, HA.out, HB.out]; exact hown'
            case measure => simp [intOf]; omega
      · go_wp2
        have hconv := conv_own hown
        simp only [hconv]
        go_wp2
        go_ret2
        obtain rfl : n = s.size := by omega
        refine ⟨ret_dh ?_, hb⟩
        have h := dh_ok (by omega) hg
        rw [hn, Nat.mul_div_cancel_left _ (by omega)] at h
        exact h

end Go.Proofs.Ytamdmflofbpjkaa
