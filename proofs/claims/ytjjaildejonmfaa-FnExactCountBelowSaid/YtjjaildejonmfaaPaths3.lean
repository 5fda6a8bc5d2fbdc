/- The program's listPaths and PathsOf (since stage 14). -/
import Derived.Test.YtjjaildejonmfaaImpl3R0
namespace Go.Proofs.Ytjjaildejonmfaa
open Go.ChangeShapes Go.WideShapes Go.ChangeAt Go.RowKit
set_option linter.unusedVariables false

set_option maxRecDepth 100000 in
set_option maxHeartbeats 1600000 in
theorem listPathsI (m : Nat) (hm : m ≤ 6) (w : World) : Calls Try.prog 71 #[.int .i64 m] w (AnsS (pathsP m) w) := by
  have HP := Lib.hid (paths_list m hm)
  have HR := Lib.hid (list_runs (m + m) m m rfl (Nat.le_refl _))
  have HE := Lib.hid (frL_ends m m 0 (by omega))
  have HLEN := Lib.hid (show (pathsP m).length ≤ 4096 by
    unfold pathsP
    rw [if_pos (by omega)]
    simp only [Int.toNat_natCast]
    exact allF_small _ _ _ _ (by omega))
  go_enter Try.func71, Try.ntmps71
  go_wp2_with fail
  refine (firstPath m _ hm).mono ?_
  rintro e w1 ⟨rfl, hb⟩
  have HB1 := Lib.hid hb
  clear hb
  go_wp2
  go_loopg [3, 4, 5] ((listF (m + m) m m).length) (fun g v x y wr => ∃ (acc : List ByteArray), wr.ownsRow w.heap.size 9 1 v acc.length (acc.map Value.string) ∧ Below w.heap.size w wr ∧ ((∃ (l : List UInt8) (r : List (List UInt8)), x = .string (strL l) ∧ y = .bool true ∧ ends 0 m m l ∧ Runs m m l r ∧ r.length = g ∧ acc ++ r.map strL = pathsP m) ∨ (∃ s, x = .string s ∧ y = .bool false ∧ acc = pathsP m)))
  case atStart => exact ⟨[], ⟨rfl, .inl ⟨rfl, rfl⟩⟩, HB1.out, .inl ⟨_, _, rfl, rfl, HE.out, HR.out, rfl, by rw [HP.out]; rfl⟩⟩
  case round =>
    obtain ⟨acc, hown, hb, hcase⟩ := hrel
    have HB := Lib.hid hb
    have hB := hb.size
    clear hb
    rcases hcase with ⟨l, r, rfl, rfl, hends, hruns, hlen, hacc⟩ | ⟨s, rfl, rfl, hacc⟩
    · have HA := Lib.hid hacc
      have HEN := Lib.hid hends
      have HRU := Lib.hid hruns
      have HL := Lib.hid hlen
      have hal : acc.length ≤ 4096 := by
        have h := HLEN.out
        rw [← hacc, List.length_append] at h
        omega
      clear hacc hends hruns hlen
      go_wp2_with (at_builtin; go_must (refine wpAppStr rfl _ _ rfl w.heap.size _ _ _ rfl (hown.alloc _) wr.heap.size _ _ rfl (cell_one _ _ _) (by omega) (base_up hB) ?_); intro v' w' hown' hg')
      have HB2 := Lib.hid ((HB.out.alloc hB _).grown hg' (base_up hB) (fun k hk => (hown.lt k hk).1))
      refine (nextPathI (strL l) _).mono ?_
      rintro e w3 ⟨rfl, hb3⟩
      have HO3 := Lib.hid (ownsRow_keepB hown' hb3 (Nat.le_refl _))
      have HB3 := Lib.hid (HB2.out.trans (hb3.mono HB2.out.size))
      have HNX := Lib.hid (next_letters HEN.out hm)
      obtain ⟨t, ht⟩ := HRU.out.pos
      clear hown hg' hown' hb3
      rcases hnx : nxL l m m with _ | x
      · have hok := HNX.out.1 hnx
        rw [hok]
        have HT := Lib.hid (show r = [l] by
          have := HRU.out
          cases this with
          | last _ _ => rfl
          | more _ x r h _ => rw [hnx] at h; cases h)
        clear hnx hok ht
        go_wp2
        go_roundg 0
        case measure => have := HL.out; rw [HT.out] at this; simp at this; omega
        case rel => exact ⟨acc ++ [strL l], by simpa using HO3.out, HB3.out, .inr ⟨_, rfl, rfl, by rw [← HA.out, HT.out]; rfl⟩⟩
      · obtain ⟨hok, hp⟩ := HNX.out.2 x hnx
        rw [hok, hp]
        have HT := Lib.hid (show ∃ r', r = l :: r' ∧ Runs m m x r' by
          have := HRU.out
          cases this with
          | last _ h => rw [hnx] at h; cases h
          | more _ y r' h h' =>
            rw [hnx] at h
            obtain rfl : x = y := Option.some.inj h
            exact ⟨r', rfl, h'⟩)
        have HE2 := Lib.hid (nx_ends _ _ _ _ _ HEN.out hnx)
        clear hnx hok hp ht
        obtain ⟨r', hr, hr'⟩ := HT.out
        have HR1 := Lib.hid hr
        have HR2 := Lib.hid hr'
        clear hr hr'
        go_wp2
        go_roundg r'.length
        case measure => have := HL.out; rw [HR1.out] at this; simp at this; omega
        case rel => exact ⟨acc ++ [strL l], by simpa using HO3.out, HB3.out, .inl ⟨_, _, rfl, rfl, HE2.out, HR2.out, rfl, by rw [← HA.out, HR1.out]; simp⟩⟩
    · go_wp2
      go_ret
      refine ⟨_, rfl, ?_, HB.out⟩
      rw [← hacc]
      exact OwnS.of_row hown


set_option maxRecDepth 100000 in
set_option maxHeartbeats 800000 in
theorem pathsOfI2 (n : Int) (w : World) : Calls Try.prog 50 #[.int .i64 n] w (AnsS (pathsP n) w) := by
  by_cases h0 : n < 0
  · have HP := Lib.hid (show pathsP n = [] from if_neg (by omega))
    go_enter Try.func50, Try.ntmps50
    go_wp2
    go_ret
    exact ⟨_, rfl, by rw [HP.out]; exact ⟨_, _, rfl, .inl rfl⟩, Below.refl _ _⟩
  have h0b : decide (n < 0) = false := by simpa using h0
  by_cases h1 : 6 < n
  · have HP := Lib.hid (show pathsP n = [] from if_neg (by omega))
    go_enter Try.func50, Try.ntmps50
    go_wp2
    go_ret
    exact ⟨_, rfl, by rw [HP.out]; exact ⟨_, _, rfl, .inl rfl⟩, Below.refl _ _⟩
  have h1b : decide (6 < n) = false := by simpa using h1
  obtain ⟨m, rfl⟩ : ∃ m : Nat, n = m := ⟨n.toNat, by omega⟩
  have hm : m ≤ 6 := by omega
  have hmb : decide (6 < m) = false := by simp; omega
  have HL := Lib.hid (listPathsI m hm w)
  clear h0 h1
  go_enter Try.func50, Try.ntmps50
  go_wp2_with fail
  (with_reducible refine HL.out.mono ?_)
  rintro e w1 ⟨v, rfl, ho, hb⟩
  obtain ⟨A, c, rfl, -⟩ := id ho
  go_wp2
  go_ret
  exact ⟨_, rfl, ho, hb⟩

end Go.Proofs.Ytjjaildejonmfaa
