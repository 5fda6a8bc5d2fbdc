/- The walk of the program's DecodeHex. -/
import Derived.Test.YtamdmflofbpjkaaE
namespace Go.Proofs.Ytamdmflofbpjkaa
open Go.ChangeShapes Go.WideShapes Go.ChangeAt Go.RowKit
open Go.PlainAid (bt bt_nonneg bt_le get_bt)
set_option linter.unusedVariables false

/-- Block g of the world is a row of m bytes, byte j being f j. -/
def RowOf (w : World) (g m : Nat) (f : Nat → Int) : Prop := ∃ C : Array Value, w.heap[g]? = some (.cells C 5 (0, 0)) ∧ C.size = m ∧ ∀ j, j < m → C[j]? = some (.int .u8 (f j))
theorem RowOf.cell {w : World} {g m : Nat} {f : Nat → Int} (h : RowOf w g m f) {j : Nat} (hj : j < m) : w.cell? ⟨g, j, none⟩ = some (.int .u8 (f j)) := by
  obtain ⟨C, h1, h2, h3⟩ := h
  rw [cell_of_row w g j C 5 (0, 0) h1]
  exact h3 j hj
theorem RowOf.free {w : World} {g m : Nat} {f : Nat → Int} (h : RowOf w g m f) (j : Nat) : w.frozen? ⟨g, j, none⟩ = false := by
  obtain ⟨C, h1, h2, h3⟩ := h
  simp [World.frozen?, h1]
theorem RowOf.iter {w : World} {g m : Nat} {f : Nat → Int} (h : RowOf w g m f) (s : ByteArray) (p : Nat) : RowOf (w.iter s p) g m f := by
  obtain ⟨C, h1, h2, h3⟩ := h
  have hlt : g < w.heap.size := by
    rcases Nat.lt_or_ge g w.heap.size with h | h
    · exact h
    · rw [Array.getElem?_eq_none h] at h1; cases h1
  exact ⟨C, (Below.heap_alloc w _ g hlt).trans h1, h2, h3⟩
theorem RowOf.lt {w : World} {g m : Nat} {f : Nat → Int} (h : RowOf w g m f) : g < w.heap.size := by
  obtain ⟨C, h1, h2, h3⟩ := h
  rcases Nat.lt_or_ge g w.heap.size with h | h
  · exact h
  · rw [Array.getElem?_eq_none h] at h1; cases h1
theorem RowOf.set {w : World} {g m : Nat} {f : Nat → Int} (h : RowOf w g m f) (q : Nat) (y : Int) (f' : Nat → Int) (hq : f' q = y) (ho : ∀ j, j ≠ q → f' j = f j) :
    RowOf (w.setCell ⟨g, q, none⟩ (.int .u8 y)) g m f' := by
  obtain ⟨C, h1, h2, h3⟩ := h
  refine ⟨C.setIfInBounds q (.int .u8 y), by simp [World.setCell, Array.getElem?_modify, h1], by simpa using h2, fun j hj => ?_⟩
  by_cases e : j = q
  · subst e
    rw [Array.getElem?_setIfInBounds_self_of_lt (by omega), hq]
  · rw [Array.getElem?_setIfInBounds_ne (by omega), h3 j hj, ho j e]
theorem RowOf.made {w : World} {base m : Nat} (h : w.ownsRow base 5 1 (.slice (some ⟨base, 0, none⟩) m m) m (madeCells (Value.int .u8 0).cells (m * 1)).toList) : RowOf w base m fun _ => 0 := by
  rcases h.2 with ⟨h1, _⟩ | ⟨g, cap, cur, hv, hb, hh, hnc, hcm, hcur, htake⟩
  · cases h1
  · simp only [Value.slice.injEq, Option.some.injEq, Addr.mk.injEq] at hv
    obtain ⟨⟨rfl, _, _⟩, _, rfl⟩ := hv
    refine ⟨cur, hh, by simpa using hcur, fun j hj => ?_⟩
    have e : cur.toList[j]? = (cur.toList.take (m * 1))[j]? := by rw [List.getElem?_take, if_pos (by omega)]
    rw [← Array.getElem?_toList, e, htake, show (Value.int IntKind.u8 0).cells = #[Value.int .u8 0] from rfl, toList_madeCells_one]
    simp [hj]
theorem RowOf.conv {w : World} {g m : Nat} {f : Nat → Int} (h : RowOf w g m f) : (convert 36 9 (.slice (some ⟨g, 0, none⟩) m m)).run Try.prog w = .ok (.string (strOfNums ((List.range m).map f))) w := by
  refine run_convert_bytes_arg w 36 5 Try.underlying36 Try.underlying5 g 0 m m _ (by simp) (fun i hi => ?_) 9 Try.underlying9
  rw [Nat.zero_add, h.cell hi]
  simp [List.getD, hi]

set_option maxRecDepth 100000 in
set_option maxHeartbeats 1600000 in
theorem implDH (s : ByteArray) (w : World) (hs : s.size ≤ 1048576) :
    Calls Try.prog 20 #[.string s] w fun e w' => e = .returned (.tuple #[.string (dhS s), .bool (dhB s)]) ∧ Below w.heap.size w w' := by
  by_cases hodd : s.size % 2 = 1
  · have H := Lib.hid hodd
    have h1 : ((s.size : Int) % 2 != 0) = true := by simp; omega
    clear hodd
    go_enter Try.func20, Try.ntmps20
    go_wp2
    go_ret2
    exact ⟨ret_dh (dh_odd H.out), Below.refl _ _⟩
  · obtain ⟨i0, hi, hz0, hz1, hz2⟩ := info_parts info5
    have h1 : ((s.size : Int) % 2 != 0) = false := by simp; omega
    obtain ⟨m, hm⟩ : ∃ m, s.size = 2 * m := ⟨s.size / 2, by omega⟩
    have hm2 : (s.size : Int) / 2 = (m : Int) := by omega
    have hm3 : m ≤ 1048576 := by omega
    have HM := Lib.hid hm
    clear hodd hm
    go_enter Try.func20, Try.ntmps20
    go_wp2_with (at_make; go_must (refine wpList_make_full _ rfl _ _ 36 rfl w.heap.size 5 i0 (.int .u8 0) 1 Try.underlying36 hi hz0 hz1 .i64 .i64 (m : Int) (m : Int) m rfl rfl rfl rfl (by rw [hz2]; omega) (by unfold maxLen; omega) (Nat.le_refl _) ?_); intro w1 hown hgrow)
    have hb1 : Below w.heap.size w w1 := (Below.refl _ _).grown hgrow (Nat.le_refl _) (fun j hj => by cases hj)
    have hrow := RowOf.made hown
    clear hown hgrow
    go_loopw [19] (fun _ wr => ∃ (k : Nat) (w2 : World), wr = w2.iter s k ∧ k ≤ s.size ∧ w2.heap.size = w1.heap.size ∧ (∀ i, i < k → 0 ≤ hv (bt s i)) ∧ RowOf w2 w.heap.size m (part s k) ∧ Below w.heap.size w w2)
      (fun _ wr => s.size - wr.iterPos w1.heap.size)
    case atStart => 
      refine ⟨0, w1, rfl, Nat.zero_le _, rfl, fun i hi => by omega, ?_, hb1⟩
      obtain ⟨C, c1, c2, c3⟩ := hrow
      exact ⟨C, c1, c2, fun j hj => by rw [c3 j hj, part_zero]⟩
    case round =>
      obtain ⟨k, w2, rfl, hk, hsz, hg, hr, hb⟩ := hrel
      have hbt := get_bt s
      have HG := Lib.hid hg
      clear hg
      have hglt : w.heap.size < w2.heap.size := hr.lt
      by_cases hlt : k < s.size
      · by_cases hv0 : hv (bt s k) < 0
        · have hnx := fun ty => run_next_any (P := Try.prog) w2 s k ty hlt
          rw [hsz] at hnx
          obtain ⟨r, hr1, hr2⟩ : ∃ r : Int, ((Utf8.decode s k).1 : Int) = r ∧ hv r < 0 := by
            refine ⟨_, rfl, ?_⟩
            by_cases ha : s[k].toNat < 128
            · rw [decode_ascii s k hlt ha, get_bt s k hlt]; exact hv0
            · have := (decode_high s k hlt (by omega)).1
              unfold hv; rw [if_neg (by omega), if_neg (by omega)]; omega
          rw [hr1] at hnx
          have HV := Lib.hid hv0
          clear hv0 hr1
          go_wp2_with fail
          (with_reducible refine (hexV_no _ _ hr2).mono ?_)
          rintro e w' ⟨rfl, rfl⟩
          go_wp2
          go_ret2
          exact ⟨ret_dh (dh_bad hlt HV.out), hb.alloc hb.size _⟩
        · have hp : 0 ≤ hv (bt s k) := by omega
          have ha : s[k].toNat < 128 := by
            have h1 := get_bt s k hlt
            by_cases hc : s[k].toNat < 128
            · exact hc
            · exfalso
              have : hv (bt s k) = -1 := by rw [← h1]; unfold hv; rw [if_neg (by omega), if_neg (by omega)]
              omega
          have hnx := fun ty => run_next_ascii (P := Try.prog) w2 s k ty hlt ha
          rw [hsz, get_bt s k hlt] at hnx
          clear ha hv0
          obtain ⟨q, HQ, hqm⟩ : ∃ q, Hid (q = k / 2) ∧ q < m := ⟨k / 2, rfl, by have := HM.out; omega⟩
          have hq : (k : Int) / 2 = (q : Int) := by rw [HQ.out]; omega
          have hqi : (q : Int) < (m : Int) := by omega
          obtain ⟨e1, f0, f15⟩ := part_at s k HG.out
          obtain ⟨f, hf, HF⟩ : ∃ f, part s k q = f ∧ Hid (part s k q = f) := ⟨_, rfl, rfl⟩
          have hcell := (hr.iter s (k + 1)).cell hqm
          have hfree := (hr.iter s (k + 1)).free q
          rw [hf] at hcell
          rw [← HQ.out, HF.out] at f0 f15
          have E1 := Lib.hid e1
          clear e1 hf
          obtain ⟨d, hd0, HD, d0, d15⟩ : ∃ d, hv (bt s k) = d ∧ Hid (hv (bt s k) = d) ∧ 0 ≤ d ∧ d ≤ 15 := ⟨_, rfl, rfl, hp, (hv_le _).2⟩
          go_wp2_with fail
          (with_reducible refine (hexV_yes _ _ hp).mono ?_)
          rintro e w' ⟨rfl, rfl⟩
          go_wp2
          rw [iter_setCell w2 s (k + 1) ⟨w.heap.size, q, none⟩ _ hglt]
          have hsz' : (w2.setCell ⟨w.heap.size, q, none⟩ (.int .u8 (f * 16 + d))).heap.size = w1.heap.size := by simpa [World.setCell] using hsz
          refine ⟨⟨k + 1, _, rfl, by omega, hsz', ?_, ?_, hb.setCell (Nat.le_refl _) _⟩, ?_⟩
          · intro i hi
            rcases Nat.lt_or_ge i k with h | h
            · exact HG.out i h
            · obtain rfl : i = k := by omega
              rw [HD.out]; exact d0
          · refine hr.set q _ _ ?_ ?_
            · have h := E1.out
              rw [← HQ.out, HF.out, HD.out] at h
              exact h
            · intro j hj
              exact part_far s k j (by rw [← HQ.out]; exact hj)
          · rw [← hsz', World.iterPos_iter, hsz', ← hsz, World.iterPos_iter]
            omega
      · have hnx := fun ty => run_next_end (P := Try.prog) w2 s k ty hlt
        rw [hsz] at hnx
        have hconv := (hr.iter s k).conv
        go_wp2
        go_ret2
        obtain rfl : k = s.size := by omega
        refine ⟨ret_dh ?_, hb.alloc hb.size _⟩
        have hm := HM.out
        have h := dh_ok (by omega) HG.out
        have e : bytesOf s (s.size / 2) = (List.range m).map (part s s.size) := by
          rw [show s.size / 2 = m by omega]
          unfold bytesOf
          refine List.map_congr_left fun j hj => ?_
          have : j < m := by simpa using hj
          unfold part
          rw [if_pos (by omega)]
        rw [e] at h
        exact h

end Go.Proofs.Ytamdmflofbpjkaa
