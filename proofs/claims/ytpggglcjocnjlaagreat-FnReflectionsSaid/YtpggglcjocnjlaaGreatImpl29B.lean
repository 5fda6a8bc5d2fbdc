/- The program's reflections. -/
import Derived.Test.YtpggglcjocnjlaaGreatImpl29
import Derived.Test.YtpggglcjocnjlaaGreatSpec4A
namespace Go.Proofs.YtpggglcjocnjlaaGreat
open Go.ChangeShapes Go.WideShapes Go.ChangeAt Go.RowKit
open Go.PlainAid (bt bt_nonneg bt_le get_bt bt_end)
set_option linter.unusedVariables false

theorem row4_n (w : World) (a b a' b' : UInt8) : Row4 (w.alloc (.cells #[.string ⟨#[a]⟩, .string ⟨#[a']⟩, .string ⟨#[b]⟩, .string ⟨#[b']⟩] 9)) w.heap.size a b a' b' := by
  intro j hj
  rw [cell_of_row _ _ j _ _ (0, 0) (heap_alloc_new w _)]
  match j, hj with
  | 0, _ => rfl
  | 1, _ => rfl
  | 2, _ => rfl
  | 3, _ => rfl

set_option maxRecDepth 100000 in
set_option maxHeartbeats 3200000 in
theorem reflectedI (x y : ByteArray) (w : World) (hx : x.size ≤ 16) (hy : y.size ≤ 16) : Calls Tryz.prog 31 #[.agg #[.string x, .string y]] w fun e w' => e = .returned (.string (x ++ mapB (swp 117 100 100 117) y)) ∧ Below w.heap.size w w' := by
  have hmz : (mapB (swp (117 : UInt8).toNat (100 : UInt8).toNat (100 : UInt8).toNat (117 : UInt8).toNat) y).size ≤ 16 := by
    show ((y.data.toList.map _).toArray).size ≤ 16
    simp; omega
  have HNR := Lib.hid (newR (w.heap.size + 1) 117 100 100 117 ((w.alloc (.cells #[.string x, .string y] 40)).alloc (.cells #[.string ⟨#[117]⟩, .string ⟨#[100]⟩, .string ⟨#[100]⟩, .string ⟨#[117]⟩] 9)).drew (by
    have h := row4_n (w.alloc (.cells #[.string x, .string y] 40)) 117 100 100 117
    rw [show (w.alloc (.cells #[.string x, .string y] 40)).heap.size = w.heap.size + 1 by simp] at h
    exact h))
  have HB1 := Lib.hid ((((Below.refl (w.heap.size + 1) (w.alloc (.cells #[.string x, .string y] 40))).alloc (by simp) (.cells #[.string ⟨#[117]⟩, .string ⟨#[100]⟩, .string ⟨#[100]⟩, .string ⟨#[117]⟩] 9))).drew)
  have HB0 := Lib.hid ((Below.refl w.heap.size w).alloc (Nat.le_refl _) (.cells #[.string x, .string y] 40))
  have HC0 := Lib.hid (show (w.alloc (.cells #[.string x, .string y] 40)).cell? ⟨w.heap.size, 0, none⟩ = some (.string x) by simp)
  have HC1 := Lib.hid (show (w.alloc (.cells #[.string x, .string y] 40)).cell? ⟨w.heap.size, 1, none⟩ = some (.string y) by simp)
  have HSZ := Lib.hid (show (((w.alloc (.cells #[.string x, .string y] 40)).alloc (.cells #[.string ⟨#[117]⟩, .string ⟨#[100]⟩, .string ⟨#[100]⟩, .string ⟨#[117]⟩] 9)).drew).heap.size = w.heap.size + 2 by simp)
  have HRR := Lib.hid (fun g v w2 hv (hg : w.heap.size + 2 ≤ g) hr => replaceR (w.heap.size + 1) g 117 100 100 117 v y w2 (w.heap.size + 2) g hv (Nat.le_refl _) hr (by omega) (by omega))
  rw [HSZ.out] at HNR
  generalize hz : mapB (swp (117 : UInt8).toNat (100 : UInt8).toNat (100 : UInt8).toNat (117 : UInt8).toNat) y = z at *
  have HZ := Lib.hid (show mapB (swp 117 100 100 117) y = z from hz)
  clear hz
  have hcat : ¬ 9223372036854775807 < x.size + z.size := by omega
  clear hmz
  go_enter Tryz.func31, Tryz.ntmps31
  go_wp2
  go_region_law (first | (go_simp; go_at_call 57; (with_reducible refine HNR.out.mono ?_); rintro e w2 ⟨g, v, rfl, hv, hr, hg, hb⟩; have HB2 := Lib.hid (HB1.out.trans (hb.mono (by omega))); have hd0 := (HB2.out.cell (p := ⟨w.heap.size, 0, none⟩) (by show w.heap.size < w.heap.size + 1; omega)).trans HC0.out; have hd1 := (HB2.out.cell (p := ⟨w.heap.size, 1, none⟩) (by show w.heap.size < w.heap.size + 1; omega)).trans HC1.out; have HR := Lib.hid (HRR.out g v w2 hv hg hr); clear hv hr hg hb) | (go_simp; go_at_call 58; (with_reducible refine HR.out.mono ?_); rintro e w3 ⟨rfl, hb3⟩; have HBX := Lib.hid (HB2.out.trans hb3); have HB3 := Lib.hid (HB0.out.trans (HBX.out.mono (by omega))); have he0 := (HBX.out.cell (p := ⟨w.heap.size, 0, none⟩) (by show w.heap.size < w.heap.size + 1; omega)).trans HC0.out; clear hb3))
  all_goals go_wp2
  all_goals go_ret
  all_goals exact ⟨ret_str (by rw [HZ.out]), HB3.out⟩

theorem rf_bad {s : ByteArray} (h : badB s = true) : rfV s = .iface 42 (.agg #[.string (s.extract 0 (ct s)), .string (s.extract (ct s) s.size)]) := by
  have hu : udS s = true := by
    rcases hu : udS s with _ | _
    · unfold badB at h; rw [hu] at h; cases h
    · rfl
  have h2 := bad_cut hu
  rw [h] at h2
  have h3 : smA s.data.toList = 0 ∧ 0 < ct s := by simpa using h2.symm
  unfold rfV
  rw [if_pos hu, if_neg (by omega), if_pos h3]
theorem rf_low {s : ByteArray} (h : lowB s = true) : rfV s = .iface 51 (.agg #[.string (s.extract 0 (ct s)), .string (s.extract (ct s) s.size)]) := by
  have h3 : udS s = true ∧ smA s.data.toList = -2 := by unfold lowB at h; simpa using h
  unfold rfV
  rw [if_pos h3.1, if_pos h3.2]
theorem rf_nil {s : ByteArray} (h : badB s = false) (h' : lowB s = false) : rfV s = .nilIface := by
  rcases hu : udS s with _ | _
  · unfold rfV; rw [hu]; rfl
  · have h2 := bad_cut hu
    rw [h] at h2
    have h3 : ¬ (smA s.data.toList = 0 ∧ 0 < ct s) := fun ⟨a, b⟩ => by rw [decide_eq_true a, decide_eq_true b] at h2; cases h2
    have h4 : ¬ smA s.data.toList = -2 := fun a => by unfold lowB at h'; rw [hu, decide_eq_true a] at h'; cases h'
    unfold rfV
    rw [if_pos hu, if_neg h4, if_neg h3]
theorem ot_swp {c : UInt8} (h : c.toNat = 117 ∨ c.toNat = 100) : UInt8.ofNat (swp 117 100 100 117 c.toNat).toNat = otA c := by
  rcases h with h | h
  · unfold otA; rw [if_pos h, h]; rfl
  · unfold otA; rw [if_neg (by omega), h]; rfl
theorem map_ud : ∀ (l : List UInt8), udA l = true → l.map (fun c => UInt8.ofNat (swp 117 100 100 117 c.toNat).toNat) = l.map otA := by
  intro l
  induction l with
  | nil => intro _; rfl
  | cons c l ih =>
    intro h
    have hc : c.toNat = 117 ∨ c.toNat = 100 := by
      by_cases hc : c.toNat = 117 ∨ c.toNat = 100
      · exact hc
      · rw [udA_no l hc] at h; cases h
    rw [udA_up l hc] at h
    rw [List.map_cons, List.map_cons, ot_swp hc, ih h]
theorem refl_is {s : ByteArray} (hu : udS s = true) (hc : 0 < ct s) : s.extract 0 (ct s) ++ mapB (swp 117 100 100 117) (s.extract (ct s) s.size) = flS s := by
  have hl := ct_le s
  have hlen : s.data.toList.length = s.size := by simp
  apply ByteArray.ext
  apply Array.toList_inj.1
  show _ = (flA 0 s.data.toList).toArray.toList
  have h1 := flA_cut s.data.toList 0 0 (show cutA 0 s.data.toList 0 ≠ 0 by unfold ct at hc; omega)
  rw [Nat.sub_zero] at h1
  rw [h1, List.toList_toArray]
  show (s.extract 0 (ct s) ++ mapB (swp 117 100 100 117) (s.extract (ct s) s.size)).data.toList = _
  rw [ByteArray.data_append, Array.toList_append]
  congr 1
  · rw [ByteArray.data_extract, Array.toList_extract, List.extract_eq_take_drop, List.drop_zero, Nat.sub_zero]; rfl
  · show ((s.extract (ct s) s.size).data.toList.map _).toArray.toList = _
    rw [List.toList_toArray]
    have e : (s.extract (ct s) s.size).data.toList = s.data.toList.drop (ct s) := by
      rw [ByteArray.data_extract, Array.toList_extract, List.extract_eq_take_drop]
      exact List.take_of_length_le (by rw [List.length_drop]; omega)
    rw [e, map_ud _ (udA_drop (ud_parts hu).1 _)]; rfl
theorem bad_ud {s : ByteArray} (h : badB s = true) : udS s = true ∧ 0 < ct s := by
  have hu : udS s = true := by
    rcases hu : udS s with _ | _
    · unfold badB at h; rw [hu] at h; cases h
    · rfl
  have h2 := bad_cut hu
  rw [h] at h2
  have h3 : smA s.data.toList = 0 ∧ 0 < ct s := by simpa using h2.symm
  exact ⟨hu, h3.2⟩
theorem low_ud {s : ByteArray} (h : lowB s = true) : udS s = true ∧ 0 < ct s := by
  have h3 : udS s = true ∧ smA s.data.toList = -2 := by unfold lowB at h; simpa using h
  exact ⟨h3.1, low_cut h⟩
theorem low_bad {s : ByteArray} (h : lowB s = true) : badB s = false := by
  have h3 : udS s = true ∧ smA s.data.toList = -2 := by unfold lowB at h; simpa using h
  unfold badB
  rw [decide_eq_false (by omega)]; simp

set_option maxRecDepth 100000 in
theorem as_same (X Y : ByteArray) : (∀ W : World, (Instr.typeAssert (.iface 42 (.agg #[.string X, .string Y])) 45 42 true).run Tryz.prog W = .ok (.tuple #[.agg #[.string X, .string Y], .bool true]) W) ∧ ∀ W : World, (Instr.typeAssert (.iface 51 (.agg #[.string X, .string Y])) 45 51 true).run Tryz.prog W = .ok (.tuple #[.agg #[.string X, .string Y], .bool true]) W := ⟨fun _ => by kernel_rfl, fun _ => by kernel_rfl⟩
set_option maxRecDepth 100000 in
theorem as_other (X Y : ByteArray) : (∀ W : World, (Instr.typeAssert (.iface 51 (.agg #[.string X, .string Y])) 45 42 true).run Tryz.prog W = .ok (.tuple #[.agg #[.string ⟨#[]⟩, .string ⟨#[]⟩], .bool false]) W) ∧ ∀ W : World, (Instr.typeAssert (.iface 42 (.agg #[.string X, .string Y])) 45 51 true).run Tryz.prog W = .ok (.tuple #[.agg #[.string ⟨#[]⟩, .string ⟨#[]⟩], .bool false]) W := ⟨fun _ => by kernel_rfl, fun _ => by kernel_rfl⟩
set_option maxRecDepth 100000 in
theorem as_nil : (∀ W : World, (Instr.typeAssert .nilIface 45 42 true).run Tryz.prog W = .ok (.tuple #[.agg #[.string ⟨#[]⟩, .string ⟨#[]⟩], .bool false]) W) ∧ ∀ W : World, (Instr.typeAssert .nilIface 45 51 true).run Tryz.prog W = .ok (.tuple #[.agg #[.string ⟨#[]⟩, .string ⟨#[]⟩], .bool false]) W := ⟨fun _ => by kernel_rfl, fun _ => by kernel_rfl⟩

set_option maxRecDepth 100000 in
set_option maxHeartbeats 1600000 in
theorem isBadI (s : ByteArray) (w : World) (hs : s.size ≤ 1048577) : Calls Tryz.prog 8 #[.string s] w fun e w' => e = .returned (.bool (badB s)) ∧ Below w.heap.size w w' := by
  have HR := Lib.hid (readFallenI s w hs)
  rcases hb : badB s with _ | _
  · rcases hl : lowB s with _ | _
    · rw [rf_nil hb hl] at HR
      clear hb hl
      obtain ⟨ta1, ta2⟩ := as_nil
      go_enter Tryz.func8, Tryz.ntmps8
      go_wp2_with fail
      (with_reducible refine HR.out.mono ?_)
      rintro e w1 ⟨rfl, hb1⟩
      go_wp2
      go_ret
      exact ⟨rfl, hb1.alloc hb1.size _⟩
    · rw [rf_low hl] at HR
      clear hb hl
      generalize s.extract 0 (ct s) = X at *
      generalize s.extract (ct s) s.size = Y at *
      obtain ⟨ta1, ta2⟩ := as_other X Y
      go_enter Tryz.func8, Tryz.ntmps8
      go_wp2_with fail
      (with_reducible refine HR.out.mono ?_)
      rintro e w1 ⟨rfl, hb1⟩
      go_wp2
      go_ret
      exact ⟨rfl, hb1.alloc hb1.size _⟩
  · rw [rf_bad hb] at HR
    clear hb
    generalize s.extract 0 (ct s) = X at *
    generalize s.extract (ct s) s.size = Y at *
    obtain ⟨ta1, ta2⟩ := as_same X Y
    go_enter Tryz.func8, Tryz.ntmps8
    go_wp2_with fail
    (with_reducible refine HR.out.mono ?_)
    rintro e w1 ⟨rfl, hb1⟩
    go_wp2
    go_ret
    exact ⟨rfl, hb1.alloc hb1.size _⟩

set_option maxRecDepth 100000 in
set_option maxHeartbeats 1600000 in
theorem reflectBadI (s : ByteArray) (w : World) (hs : s.size ≤ 1048577) : Calls Tryz.prog 6 #[.string s] w fun e w' => e = .returned (.tuple #[.string (rbP s), .bool (badB s)]) ∧ Below w.heap.size w w' := by
  have HR := Lib.hid (readFallenI s w hs)
  rcases hb : badB s with _ | _
  · have HP := Lib.hid (show rbP s = ⟨#[]⟩ from if_neg (by rw [hb]; simp))
    rcases hl : lowB s with _ | _
    · rw [rf_nil hb hl] at HR
      clear hb hl
      obtain ⟨ta1, ta2⟩ := as_nil
      go_enter Tryz.func6, Tryz.ntmps6
      go_wp2_with fail
      (with_reducible refine HR.out.mono ?_)
      rintro e w1 ⟨rfl, hb1⟩
      go_wp2
      go_ret2
      exact ⟨ret29 HP.out.symm rfl, hb1.alloc hb1.size _⟩
    · rw [rf_low hl] at HR
      clear hb hl
      generalize s.extract 0 (ct s) = X at *
      generalize s.extract (ct s) s.size = Y at *
      obtain ⟨ta1, ta2⟩ := as_other X Y
      go_enter Tryz.func6, Tryz.ntmps6
      go_wp2_with fail
      (with_reducible refine HR.out.mono ?_)
      rintro e w1 ⟨rfl, hb1⟩
      go_wp2
      go_ret2
      exact ⟨ret29 HP.out.symm rfl, hb1.alloc hb1.size _⟩
  · have HP := Lib.hid (show rbP s = flS s from if_pos hb)
    have HF := Lib.hid (refl_is (bad_ud hb).1 (bad_ud hb).2)
    have hz := (ud_parts (bad_ud hb).1).2
    rw [rf_bad hb] at HR
    have hx : (s.extract 0 (ct s)).size ≤ 16 := by rw [ByteArray.size_extract]; omega
    have hy : (s.extract (ct s) s.size).size ≤ 16 := by rw [ByteArray.size_extract]; omega
    clear hb
    generalize s.extract 0 (ct s) = X at *
    generalize s.extract (ct s) s.size = Y at *
    have HRE := Lib.hid (fun W => reflectedI X Y W hx hy)
    rw [HF.out] at HRE
    obtain ⟨ta1, ta2⟩ := as_same X Y
    go_enter Tryz.func6, Tryz.ntmps6
    go_wp2_with fail
    (with_reducible refine HR.out.mono ?_)
    rintro e w1 ⟨rfl, hb1⟩
    have HB2 := Lib.hid (hb1.alloc hb1.size (.cells #[.string X, .string Y] 42))
    go_wp2_with fail
    (with_reducible refine (HRE.out _).mono ?_)
    rintro e w2 ⟨rfl, hb2⟩
    go_wp2
    go_ret2
    exact ⟨ret29 HP.out.symm rfl, HB2.out.trans (hb2.mono HB2.out.size)⟩

set_option maxRecDepth 100000 in
set_option maxHeartbeats 1600000 in
theorem unreflectWordI (s : ByteArray) (w : World) (hs : s.size ≤ 1048577) : Calls Tryz.prog 10 #[.string s] w fun e w' => e = .returned (.tuple #[.string (ruP s), .bool (lowB s)]) ∧ Below w.heap.size w w' := by
  have HR := Lib.hid (readFallenI s w hs)
  rcases hb : lowB s with _ | _
  · have HP := Lib.hid (show ruP s = ⟨#[]⟩ from if_neg (by rw [hb]; simp))
    rcases hl : badB s with _ | _
    · rw [rf_nil hl hb] at HR
      clear hb hl
      obtain ⟨ta1, ta2⟩ := as_nil
      go_enter Tryz.func10, Tryz.ntmps10
      go_wp2_with fail
      (with_reducible refine HR.out.mono ?_)
      rintro e w1 ⟨rfl, hb1⟩
      go_wp2
      go_ret2
      exact ⟨ret29 HP.out.symm rfl, hb1.alloc hb1.size _⟩
    · rw [rf_bad hl] at HR
      clear hb hl
      generalize s.extract 0 (ct s) = X at *
      generalize s.extract (ct s) s.size = Y at *
      obtain ⟨ta1, ta2⟩ := as_other X Y
      go_enter Tryz.func10, Tryz.ntmps10
      go_wp2_with fail
      (with_reducible refine HR.out.mono ?_)
      rintro e w1 ⟨rfl, hb1⟩
      go_wp2
      go_ret2
      exact ⟨ret29 HP.out.symm rfl, hb1.alloc hb1.size _⟩
  · have HP := Lib.hid (show ruP s = flS s from if_pos hb)
    have HF := Lib.hid (refl_is (low_ud hb).1 (low_ud hb).2)
    have hz := (ud_parts (low_ud hb).1).2
    rw [rf_low hb] at HR
    have hx : (s.extract 0 (ct s)).size ≤ 16 := by rw [ByteArray.size_extract]; omega
    have hy : (s.extract (ct s) s.size).size ≤ 16 := by rw [ByteArray.size_extract]; omega
    clear hb
    generalize s.extract 0 (ct s) = X at *
    generalize s.extract (ct s) s.size = Y at *
    have HRE := Lib.hid (fun W => reflectedI X Y W hx hy)
    rw [HF.out] at HRE
    obtain ⟨ta1, ta2⟩ := as_same X Y
    go_enter Tryz.func10, Tryz.ntmps10
    go_wp2_with fail
    (with_reducible refine HR.out.mono ?_)
    rintro e w1 ⟨rfl, hb1⟩
    have HB2 := Lib.hid (hb1.alloc hb1.size (.cells #[.string X, .string Y] 51))
    go_wp2_with fail
    (with_reducible refine (HRE.out _).mono ?_)
    rintro e w2 ⟨rfl, hb2⟩
    go_wp2
    go_ret2
    exact ⟨ret29 HP.out.symm rfl, HB2.out.trans (hb2.mono HB2.out.size)⟩

end Go.Proofs.YtpggglcjocnjlaaGreat
