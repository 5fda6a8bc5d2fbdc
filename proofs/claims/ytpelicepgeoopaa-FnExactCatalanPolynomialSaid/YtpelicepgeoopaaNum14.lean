/- NumberPolynomial, both functions; slices.Repeat at a row of one int. -/
import Derived.Test.YtpelicepgeoopaaPoly14
import Derived.Test.YtpelicepgeoopaaRow10
import Derived.Test.YtpelicepgeoopaaShelfB
import Derived.Laws.CopyOwn
import Derived.Deep.RegionLaw
import Derived.BigRegion
namespace Go.Proofs.Ytpelicepgeoopaa
open Go.ChangeShapes Go.WideShapes Go.ChangeAt Go.RowKit
set_option linter.unusedVariables false

def npOk (n : Int) : Bool := decide (0 ≤ n ∧ n ≤ 20)
def npP (n : Int) : List Int := if npOk n = true then List.replicate n.toNat 1 else []
theorem npP_len (n : Int) : (npP n).length ≤ 20 := by
  unfold npP
  split
  · rename_i h
    have := of_decide_eq_true h
    rw [List.length_replicate]; omega
  · simp
/-- A row of n numbers of which the first k are ones. -/
def rk (n k : Nat) : List Value := (List.replicate k (1 : Int) ++ List.replicate (n - k) 0).map (Value.int .i64)
def onesV (m : Nat) : List Value := List.replicate m (.int .i64 1)
theorem rk_len {n k : Nat} (h : k ≤ n) : (rk n k).length = n := by simp [rk]; omega
theorem ones_len (m : Nat) : (onesV m).length = m := by simp [onesV]
theorem rk_step {n k m : Nat} (h : k + m ≤ n) : splice (rk n k) k (onesV m) = rk n (k + m) := by
  unfold splice rk onesV
  rw [List.length_replicate, List.map_append, List.map_append, List.map_replicate, List.map_replicate, List.map_replicate, List.map_replicate]
  rw [List.take_append_of_le_length (by simp), List.take_of_length_le (by simp), List.drop_append, List.drop_eq_nil_of_le (by simp), List.nil_append, List.length_replicate, List.drop_replicate, ← List.append_assoc, List.replicate_append_replicate, show n - k - (k + m - k) = n - (k + m) by omega]
theorem rk_full (n : Nat) : rk n n = (List.replicate n (1 : Int)).map (Value.int .i64) := by simp [rk]
theorem rk_cell {w : World} {g n k j : Nat} (h : w.heap[g]? = some (.cells (rk n k).toArray 3 (0, 0))) (hj : j < k) : w.cell? ⟨g, j, none⟩ = some (.int .i64 1) := by
  rw [cell_of_row w g j _ 3 (0, 0) h]
  simp [rk, List.getElem?_append, hj]
theorem run_fromJ (w : World) (g n len cap : Nat) (hn : n ≤ len) (hc : n < cap) : (Instr.slice 22 (.slice (some ⟨g, 0, none⟩) len cap) (some (.int .i64 (n : Int))) none none).run Try.prog w = .ok (.slice (some ⟨g, n, none⟩) (len - n) (cap - n)) w := by
  obtain ⟨i0, hi, -, -, -⟩ := info_parts info3
  have he : Try.prog.elem 22 = 3 := by kernel_rfl
  have hcc : Try.prog.cellsOf 3 = 1 := by kernel_rfl
  have hu : Try.prog.underlying 22 = some (.slice (Try.prog.elem 22)) := by rw [he]; exact Try.underlying22
  rw [run_slice_l w _ _ len cap hu .i64 (n : Int) (by omega) (by omega), he, run_sizeOf w hi, hcc]
  have h1 : ¬ cap = n := by omega
  simp [sliced, Result.andThen, Addr.add_lit, h1]

set_option maxRecDepth 100000 in
set_option maxHeartbeats 1600000 in
theorem l14Number (N : Nat) (w : World) (hN : N ≤ 1000) : Calls Try.prog 26 #[.int .i64 (N : Int)] w (AnsI (List.replicate N 1) w) := by
  go_enter Try.func26, Try.ntmps26
  go_wp2
  go_loopw [3, 4] (fun v y wr => ∃ i : Nat, i ≤ N ∧ y = .int .i64 i ∧ wr.ownsRow w.heap.size 3 1 v (List.replicate i (1 : Int)).length ((List.replicate i (1 : Int)).map (Value.int .i64)) ∧ Below w.heap.size w wr) (fun _ y _ => N - (intOf y).toNat)
  case atStart => exact ⟨0, Nat.zero_le _, rfl, World.ownsRow_made w #[] 0 (Nat.le_refl _) (Nat.zero_le _) (by simp), (Below.refl _ _).alloc (Nat.le_refl _) _⟩
  case round =>
    obtain ⟨i, hi, rfl, hown, hb⟩ := hrel
    have hl2 : (List.replicate i (1 : Int)).length ≤ 1000 := by simp; omega
    have HS := Lib.hid (show List.replicate (i + 1) (1 : Int) = List.replicate i 1 ++ [1] from List.replicate_succ')
    have hB := hb.size
    by_cases hlt : i < N
    · have hii : (i : Int) < (N : Int) := by omega
      generalize List.replicate i (1 : Int) = acc at *
      go_wp2_with (at_builtin; go_must (refine wpAppInt rfl _ _ rfl w.heap.size u3 _ _ rfl (hown.alloc _) wr.heap.size _ _ rfl (cell_one _ _ _) (by omega) (base_up hB) ?_); intro v' w' hown' hg')
      go_roundw
      case rel => exact ⟨i + 1, by omega, by simp, by rw [HS.out, List.length_append]; simpa using hown', (hb.alloc hB _).grown hg' (base_up hB) (fun k hk => (hown.lt k hk).1)⟩
      case measure => simp [intOf]; omega
    · obtain rfl : i = N := by omega
      have HOW := Lib.hid (OwnI.of_row hown)
      clear hown hl2
      generalize List.replicate i (1 : Int) = acc at *
      go_wp2
      go_ret
      exact ⟨_, rfl, HOW.out, hb⟩

/-- Ones copied behind the ones of a row. -/
theorem copy_ones (w : World) (g n k m dl dc sl sc : Nat) (a : Addr) (hg : w.heap[g]? = some (.cells (rk n k).toArray 3 (0, 0))) (hm : m = Nat.min sl dl) (hkm : k + m ≤ n) (hsrc : ∀ q, q < m → w.cell? (a.add q) = some (.int .i64 1)) :
    ∃ W', (Builtin.copy_ #[22, 22] 3 #[.slice (some ⟨g, k, none⟩) dl dc, .slice (some a) sl sc]).run Try.prog w = .ok (.int .i64 (m : Int)) W' ∧ W'.heap[g]? = some (.cells (rk n (k + m)).toArray 3 (0, 0)) ∧ Below g w W' := by
  have h := run_copy_row (P := Try.prog) w 22 22 3 3 g k dl dc a sl sc (rk n k).toArray 3 (onesV m) Try.underlying22 (by kernel_rfl) hg (by rw [ones_len, hm]) (fun q v hq => by
    have hl := (List.getElem?_eq_some_iff.1 hq).1
    rw [ones_len] at hl
    have e := (List.getElem?_eq_some_iff.1 hq).2
    unfold onesV at e
    rw [List.getElem_replicate] at e
    rw [← e]
    exact hsrc q hl) (by rw [ones_len]; simp [rk_len (show k ≤ n by omega)]; omega) (fun v hv => by rw [List.eq_of_mem_replicate hv]; rfl)
  rw [ones_len] at h
  refine ⟨_, h, ?_, below_setRow (Below.refl _ _) (Nat.le_refl _) _⟩
  rw [setRow_heap _ g _ _ 3 (0, 0) hg]
  have := rk_step (n := n) (k := k) (m := m) hkm
  unfold splice at this
  rw [ones_len] at this
  rw [← this, List.append_assoc]

set_option maxRecDepth 100000 in
set_option maxHeartbeats 1600000 in
theorem repeatI (g0 n : Nat) (w : World) (hc : w.cell? ⟨g0, 0, none⟩ = some (.int .i64 1)) (hg0 : g0 < w.heap.size) (hn : n ≤ 20) :
    Calls Try.prog 40 #[.slice (some ⟨g0, 0, none⟩) 1 1, .int .i64 (n : Int)] w (AnsI (List.replicate n 1) w) := by
  have hMul := Try.bits_Mul 1 n (by omega) (by omega) w
  rw [Nat.one_mul, Nat.div_eq_of_lt (by omega : n < 18446744073709551616), Nat.mod_eq_of_lt (by omega : n < 18446744073709551616)] at hMul
  have HM := Lib.hid hMul
  have HC := Lib.hid hc
  clear hMul hc
  have d0 : decide ((n : Int) < 0) = false := decide_eq_false (by omega)
  have d1 : ¬ (n : Int) < 0 := by omega
  have d2 : decide ((9223372036854775807 : Int) < (n : Int)) = false := decide_eq_false (by omega)
  have v1 : IntKind.i64.wrap (n : Int) = (n : Int) := IntWalk.i64_in _ (by omega)
  obtain ⟨i0, hi0, hz0, hz1, hz2⟩ := info_parts info3
  go_enter Try.func40, Try.ntmps40
  go_wp2_with (first | (go_at_call 56; refine HM.out.mono ?_; rintro e w' ⟨rfl, hw⟩; rw [hw]) | (at_make; go_must (refine wpList_make_full _ rfl _ _ 22 rfl w.heap.size 3 i0 (.int .i64 0) 1 Try.underlying22 hi0 hz0 hz1 .i64 .i64 (n : Int) (n : Int) n rfl rfl (by omega) (by omega) (by rw [hz2]; omega) (by unfold maxLen; omega) (Nat.le_refl _) ?_); intro w2 hown1 hgrow1; have HB2 := Lib.hid ((Below.refl w.heap.size w).grown hgrow1 (Nat.le_refl _) (fun k hk => by cases hk)); obtain ⟨W3, hcopy, hg3, hb3⟩ := copy_ones w2 w.heap.size n 0 (min 1 n) n n 1 1 ⟨g0, 0, none⟩ (show w2.heap[w.heap.size]? = some (.cells (rk n 0).toArray 3 (0, 0)) from TbR.made hown1) rfl (by omega) (fun q hq => by rw [show q = 0 by omega]; exact (HB2.out.cell (p := ⟨g0, 0, none⟩) hg0).trans HC.out); rw [Nat.zero_add] at hg3; have HG3 := Lib.hid hg3; have HB3 := Lib.hid (HB2.out.trans hb3); clear hown1 hgrow1 hg3 hb3))
  go_loopw [8] (fun y wr => ∃ k : Nat, k ≤ n ∧ (0 < k ∨ n = 0) ∧ y = .int .i64 (k : Int) ∧ wr.heap[w.heap.size]? = some (.cells (rk n k).toArray 3 (0, 0)) ∧ Below w.heap.size w wr) (fun y _ => n - (intOf y).toNat)
  case atStart => exact ⟨min 1 n, by omega, by omega, rfl, HG3.out, HB3.out⟩
  case round =>
    obtain ⟨k, hk, hk0, rfl, hg, hb⟩ := hrel
    have HG := Lib.hid hg
    have HB := Lib.hid hb
    clear hg hb HG3 HB3
    by_cases hlt : k < n
    · have hki : (k : Int) < (n : Int) := by omega
      obtain ⟨m, hm⟩ : ∃ m, m = min k (n - k) := ⟨_, rfl⟩
      have hs1 := fun W => run_fromJ W w.heap.size k n n (by omega) hlt
      have hs2 := fun W => run_upto W (some ⟨w.heap.size, 0, none⟩) n n k hk
      have HM2 := Lib.hid (show 0 < m ∧ k + m ≤ n by omega)
      obtain ⟨W4, hcopy4, hg4, hb4⟩ := copy_ones wr w.heap.size n k m (n - k) (n - k) k n ⟨w.heap.size, 0, none⟩ HG.out hm (by omega) (fun q hq => by rw [add_flat]; exact rk_cell HG.out (by omega))
      obtain ⟨W5, hcopy5, hg5, hb5⟩ := copy_ones wr.drew w.heap.size n k m (n - k) (n - k) k n ⟨w.heap.size, 0, none⟩ HG.out hm (by omega) (fun q hq => by rw [add_flat]; exact rk_cell (w := wr.drew) HG.out (by omega))
      have HG4 := Lib.hid hg4
      have HG5 := Lib.hid hg5
      have HB4 := Lib.hid (HB.out.trans hb4)
      have HB5 := Lib.hid (HB.out.drew.trans hb5)
      have v3 : IntKind.i64.wrap ((k : Int) + (m : Int)) = (k : Int) + (m : Int) := IntWalk.i64_in _ (by omega)
      clear hm hg4 hg5 hb4 hb5
      go_wp2
      go_region
      all_goals go_wp2
      all_goals exact ⟨⟨k + m, HM2.out.2, .inl (by have := HM2.out.1; omega), by simp, HG5.out, HB5.out⟩, by have := HM2.out; simp [intOf]; omega⟩
    · obtain rfl : k = n := by omega
      have HOW := Lib.hid (show OwnI wr w.heap.size wr.heap.size (.slice (some ⟨w.heap.size, 0, none⟩) k k) (List.replicate k 1) by
        have h := HG.out
        rw [rk_full] at h
        have := TbR.own (l := List.replicate k 1) h (Nat.le_refl _) k
        rw [List.length_replicate] at this
        exact this)
      go_wp2
      go_ret
      exact ⟨_, rfl, HOW.out, HB.out⟩

theorem numberPolynomialI (n : Int) (w : World) : Calls Try.prog 27 #[.int .i64 n] w (AnsIB (npP n) (npOk n) w) := by
  by_cases hn : 0 ≤ n ∧ n ≤ 20
  · obtain ⟨N, rfl⟩ : ∃ N : Nat, n = N := ⟨n.toNat, by omega⟩
    have HO := Lib.hid (show npOk N = true from decide_eq_true hn)
    have HP := Lib.hid (show npP N = List.replicate N 1 by unfold npP; rw [if_pos HO.out, Int.toNat_natCast])
    have HBA := Lib.hid ((Below.refl w.heap.size w).alloc (Nat.le_refl _) (.cells #[.int .i64 1] 3))
    have HR := Lib.hid (repeatI w.heap.size N (w.alloc (.cells #[.int .i64 1] 3)) (cell_one _ _ _) (by simp) (by omega))
    have d0 : decide ((N : Int) < 0) = false := decide_eq_false (by omega)
    have d1 : decide ((20 : Int) < (N : Int)) = false := decide_eq_false (by omega)
    clear hn
    go_enter Try.func27, Try.ntmps27
    go_wp2_with fail
    (with_reducible refine HR.out.mono ?_)
    rintro e w1 ⟨v, rfl, ho, hb⟩
    have HOW := Lib.hid (ho.wide (show w.heap.size ≤ _ by simp) (Nat.le_refl _))
    have HB := Lib.hid (HBA.out.trans (hb.mono (by simp)))
    clear ho hb
    go_wp2
    go_ret2
    exact ⟨_, ret_ib rfl HO.out.symm, by rw [HP.out]; exact HOW.out, HB.out⟩
  · have HO := Lib.hid (show npOk n = false from decide_eq_false hn)
    have HP := Lib.hid (show npP n = [] by unfold npP; rw [HO.out]; rfl)
    by_cases h0 : n < 0
    · have d0 : decide (n < 0) = true := decide_eq_true h0
      go_enter Try.func27, Try.ntmps27
      go_wp2
      go_ret2
      exact ⟨_, ret_ib rfl HO.out.symm, by rw [HP.out]; exact ⟨_, _, rfl, .inl rfl⟩, Below.refl _ _⟩
    · have d0 : decide (n < 0) = false := decide_eq_false h0
      have h20 : 20 < n := by omega
      have d1 : decide (20 < n) = true := decide_eq_true h20
      go_enter Try.func27, Try.ntmps27
      go_wp2
      go_ret2
      exact ⟨_, ret_ib rfl HO.out.symm, by rw [HP.out]; exact ⟨_, _, rfl, .inl rfl⟩, Below.refl _ _⟩

end Go.Proofs.Ytpelicepgeoopaa
