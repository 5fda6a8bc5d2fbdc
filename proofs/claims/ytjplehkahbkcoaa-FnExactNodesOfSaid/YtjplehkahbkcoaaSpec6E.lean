/- The levels of a tree's leaves: the contracts of the model's LeafLevels and HeightOf. -/
import Derived.Test.YtjplehkahbkcoaaSpec6D
namespace Go.Proofs.Ytjplehkahbkcoaa
open Go.ChangeShapes Go.WideShapes Go.ChangeAt Go.RowKit
open Go.PlainAid (bt bt_nonneg bt_le get_bt bt_end)
set_option linter.unusedVariables false

/-- The levels of the leaves of a text that is read at level h. -/
def llL : Int → List UInt8 → List Int
  | _, [] => []
  | h, c :: l => if c.toNat = 40 then llL (h + 1) l else if c.toNat = 41 then llL (h - 1) l else h :: llL h l
theorem llL_nil (h : Int) : llL h [] = [] := rfl
theorem llL_open (h : Int) (c : UInt8) (l : List UInt8) (e : c.toNat = 40) : llL h (c :: l) = llL (h + 1) l := by rw [llL, if_pos e]
theorem llL_close (h : Int) (c : UInt8) (l : List UInt8) (e : c.toNat = 41) : llL h (c :: l) = llL (h - 1) l := by rw [llL, if_neg (by omega), if_pos e]
theorem llL_leaf (h : Int) (c : UInt8) (l : List UInt8) (e : c.toNat ≠ 40) (e' : c.toNat ≠ 41) : llL h (c :: l) = h :: llL h l := by rw [llL, if_neg e, if_neg e']
def lvP (s : ByteArray) : List Int := if binB s = true then llL 0 s.data.toList else []

/-- A slice of n elements has room for them. -/
def Room (v : Value) (n : Nat) : Prop := ∃ A cap, v = .slice A n cap ∧ n ≤ cap
theorem Room.of_row {w : World} {base : Nat} {v : Value} {n : Nat} {xs : List Value} (h : w.ownsRow base 3 1 v n xs) : Room v n := by
  obtain ⟨-, ⟨e, rfl⟩ | ⟨g, cap, cur, e, -, -, hc, -⟩⟩ := h
  · exact ⟨none, 0, e, Nat.le_refl _⟩
  · exact ⟨_, cap, e, hc⟩
set_option maxRecDepth 100000 in
set_option maxHeartbeats 1600000 in
theorem leafLevelsR (s : ByteArray) (w : World) (hs : s.size ≤ 1099511627776) : Calls Try.prog 20 #[.string s] w fun e w' => ∃ v, e = .returned v ∧ (OwnI w' w.heap.size w'.heap.size v (lvP s) ∧ Room v (lvP s).length) ∧ Below w.heap.size w w' := by
  have HI := Lib.hid fun W => isBinary s W hs
  rcases hd : binB s with _ | _
  · have HP := Lib.hid (show lvP s = [] from if_neg (by rw [hd]; simp))
    rw [hd] at HI
    clear hd
    go_enter Try.func20, Try.ntmps20
    go_wp2
    go_loopw [3, 4, 5] (fun v x y wr => y = .int .i64 0 ∧ wr.ownsRow w.heap.size 3 1 v 0 [] ∧ Below w.heap.size w wr) (fun _ _ y _ => 0)
    case atStart => exact ⟨rfl, World.ownsRow_made w #[] 0 (Nat.le_refl _) (Nat.zero_le _) (by simp), (Below.refl _ _).alloc (Nat.le_refl _) _⟩
    case round =>
      obtain ⟨rfl, hown, hb⟩ := hrel
      by_cases hlt : (0 : Int) < (s.size : Int)
      · go_wp2_with fail
        (with_reducible refine (HI.out _).mono ?_)
        rintro e w' ⟨rfl, rfl⟩
        go_wp2
        go_ret
        exact ⟨_, rfl, by rw [HP.out]; exact ⟨OwnI.of_row hown, Room.of_row hown⟩, hb⟩
      · go_wp2
        go_ret
        exact ⟨_, rfl, by rw [HP.out]; exact ⟨OwnI.of_row hown, Room.of_row hown⟩, hb⟩
  · have HP := Lib.hid (show lvP s = llL 0 s.data.toList from if_pos hd)
    have h25 := (bin_full hd).1
    rw [hd] at HI
    clear hd
    go_enter Try.func20, Try.ntmps20
    go_wp2
    go_loopw [3, 4, 5] (fun v x y wr => ∃ (i : Nat) (h : Int) (acc : List Int), i ≤ s.size ∧ -(i : Int) ≤ h ∧ h ≤ i ∧ y = .int .i64 i ∧ x = .int .i64 h ∧ acc.length ≤ i ∧ acc ++ llL h (rest s i) = llL 0 s.data.toList ∧ wr.ownsRow w.heap.size 3 1 v acc.length (acc.map (Value.int .i64)) ∧ Below w.heap.size w wr)
      (fun _ _ y _ => s.size - (intOf y).toNat)
    case atStart => exact ⟨0, 0, [], Nat.zero_le _, by omega, by omega, rfl, rfl, Nat.zero_le _, rfl, World.ownsRow_made w #[] 0 (Nat.le_refl _) (Nat.zero_le _) (by simp), (Below.refl _ _).alloc (Nat.le_refl _) _⟩
    case round =>
      obtain ⟨i, h, acc, hi, h1, h2, rfl, rfl, hl, ha, hown, hb⟩ := hrel
      have HA := Lib.hid ha
      have HL := Lib.hid hl
      have hl2 : acc.length ≤ 1000 := by omega
      have hB := hb.size
      clear ha hl
      by_cases hlt : i < s.size
      · have hbt := get_bt s
        have HR := Lib.hid (rest_cons s i hlt)
        have HBB := Lib.hid (bt_at s i hlt)
        by_cases e1 : bt s i = 40
        · have b1 : (bt s i == 40) = true := by simp [e1]
          have HE := Lib.hid (show s[i].toNat = 40 by have := HBB.out; omega)
          clear e1
          go_wp2_with fail
          (with_reducible refine (HI.out _).mono ?_)
          rintro e w' ⟨rfl, rfl⟩
          go_wp2
          go_roundw
          case rel => exact ⟨i + 1, h + 1, acc, by omega, by omega, by omega, by simp, rfl, by have := HL.out; omega, by rw [← HA.out, HR.out, llL_open _ _ _ HE.out], hown, hb⟩
          case measure => simp [intOf]; omega
        · have b1 : (bt s i == 40) = false := by simp [e1]
          have HE := Lib.hid (show s[i].toNat ≠ 40 by have := HBB.out; omega)
          clear e1
          by_cases e2 : bt s i = 41
          · have b2 : (bt s i == 41) = true := by simp [e2]
            have HE2 := Lib.hid (show s[i].toNat = 41 by have := HBB.out; omega)
            clear e2
            go_wp2_with fail
            (with_reducible refine (HI.out _).mono ?_)
            rintro e w' ⟨rfl, rfl⟩
            go_wp2
            go_roundw
            case rel => exact ⟨i + 1, h - 1, acc, by omega, by omega, by omega, by simp, rfl, by have := HL.out; omega, by rw [← HA.out, HR.out, llL_close _ _ _ HE2.out], hown, hb⟩
            case measure => simp [intOf]; omega
          · have b2 : (bt s i == 41) = false := by simp [e2]
            have HE2 := Lib.hid (show s[i].toNat ≠ 41 by have := HBB.out; omega)
            clear e2
            go_wp2_with fail
            (with_reducible refine (HI.out _).mono ?_)
            rintro e w' ⟨rfl, rfl⟩
            go_wp2_with (at_builtin; go_must (refine wpAppInt rfl _ _ rfl w.heap.size u3 _ _ rfl (hown.alloc _) wr.heap.size _ _ rfl (cell_one _ _ _) (by omega) (base_up hB) ?_); intro v' w' hown' hg')
            go_roundw
            case rel => exact ⟨i + 1, h, acc ++ [h], by omega, by omega, by omega, by simp, rfl, by rw [List.length_append]; have := HL.out; simp; omega, by rw [← HA.out, HR.out, llL_leaf _ _ _ HE.out HE2.out]; simp, by simpa using hown', (hb.alloc hB _).grown hg' (base_up hB) (fun k hk => (hown.lt k hk).1)⟩
            case measure => simp [intOf]; omega
      · have HE := Lib.hid (rest_end s i (by omega))
        go_wp2
        go_ret
        refine ⟨_, rfl, ?_, hb⟩
        have h := HA.out
        rw [HE.out, llL_nil, List.append_nil] at h
        rw [HP.out, ← h]
        exact ⟨OwnI.of_row hown, Room.of_row hown⟩
theorem leafLevels (s : ByteArray) (w : World) (hs : s.size ≤ 1099511627776) : Calls Try.prog 20 #[.string s] w (AnsI (lvP s) w) :=
  (leafLevelsR s w hs).mono fun _ _ ⟨v, h1, h2, h3⟩ => ⟨v, h1, h2.1, h3⟩

theorem llL_len : ∀ (l : List UInt8) (h : Int), (llL h l).length ≤ l.length := by
  intro l
  induction l with
  | nil => intro h; exact Nat.zero_le _
  | cons c l ih =>
    intro h
    rw [llL, List.length_cons]
    have i1 := ih (h + 1)
    have i2 := ih (h - 1)
    have i3 := ih h
    split
    · omega
    · split
      · omega
      · rw [List.length_cons]; omega
theorem lvP_len (s : ByteArray) : (lvP s).length ≤ 25 := by
  unfold lvP
  split
  · rename_i h
    have h1 := (bin_full h).1
    have h2 := llL_len s.data.toList 0
    have h3 : s.data.toList.length = s.size := by simp
    omega
  · exact Nat.zero_le _
def maxL : Int → List Int → Int
  | n, [] => n
  | n, y :: l => maxL (max n y) l
def heightP (s : ByteArray) : Int := maxL (-1) (lvP s)
set_option maxRecDepth 100000 in
set_option maxHeartbeats 1600000 in
theorem heightOf (s : ByteArray) (w : World) (hs : s.size ≤ 1099511627776) : Calls Try.prog 24 #[.string s] w fun e w' => e = .returned (.int .i64 (heightP s)) ∧ Below w.heap.size w w' := by
  have HP := Lib.hid (show heightP s = maxL (-1) (lvP s) from rfl)
  go_enter Try.func24, Try.ntmps24
  go_wp2_with fail
  (with_reducible refine (leafLevels s _ hs).mono ?_)
  rintro e w1 ⟨v, rfl, ho, hb⟩
  have hlen := lvP_len s
  obtain ⟨A1, c1, rfl, k1⟩ := id ho
  clear k1
  have HO := Lib.hid ho
  have HB := Lib.hid hb
  clear ho hb
  generalize lvP s = xs at *
  go_wp2
  go_loop [4, 5] (fun x y => ∃ (i : Nat) (n : Int), i ≤ xs.length ∧ y = .int .i64 i ∧ x = .int .i64 n ∧ maxL n (xs.drop i) = maxL (-1) xs) (fun _ y => xs.length - (intOf y).toNat)
  case atStart => exact ⟨0, -1, Nat.zero_le _, rfl, rfl, by simp⟩
  case round =>
    obtain ⟨i, n, hi, rfl, rfl, ha⟩ := hrel
    have HA := Lib.hid ha
    clear ha
    by_cases hlt : i < xs.length
    · have HD := Lib.hid (drop_int xs i hlt)
      obtain ⟨g1, p1, e1, -, -, hc1, -⟩ := HO.out.cell hlt
      simp only [Value.slice.injEq] at e1
      obtain ⟨rfl, -, rfl⟩ := e1
      have hii : (i : Int) < (xs.length : Int) := by omega
      generalize xs.getD i 0 = y at hc1 HD
      go_wp2
      refine ⟨⟨i + 1, max n y, by omega, by simp, ?_, ?_⟩, by simp [intOf]; omega⟩
      · congr 1; split <;> omega
      · rw [← HA.out, HD.out]; rfl
    · have HE := Lib.hid (show xs.drop i = [] from List.drop_of_length_le (by omega))
      have hii : ¬ (i : Int) < (xs.length : Int) := by omega
      go_wp2
      go_ret
      refine ⟨ret_int ?_, HB.out⟩
      have h := HA.out
      rw [HE.out] at h
      rw [HP.out, ← h]; rfl

end Go.Proofs.Ytjplehkahbkcoaa
