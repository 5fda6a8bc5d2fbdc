/- The model's PathOfTableau. -/
import Derived.Test.YtefbbkogfoongaaSpecT11
import Derived.Test.YtefbbkogfoongaaImplT11
namespace Go.Proofs.Ytefbbkogfoongaa
open Go.ChangeShapes Go.WideShapes Go.ChangeAt Go.RowKit
open Go.PlainAid (bt bt_nonneg bt_le get_bt)
set_option linter.unusedVariables false

theorem wB_u1 {L : List Int} {k : Nat} (h : L.contains ((k : Int) + 1) = true) : wB L k ++ ⟨#[117]⟩ = wB L (k + 1) := by
  apply ByteArray.ext
  apply Array.ext'
  rw [ByteArray.data_append, Array.toList_append, wB_list, wB_list, wdL, if_pos h]
theorem wB_d1 {L : List Int} {k : Nat} (h : L.contains ((k : Int) + 1) = false) : wB L k ++ ⟨#[100]⟩ = wB L (k + 1) := by
  apply ByteArray.ext
  apply Array.ext'
  rw [ByteArray.data_append, Array.toList_append, wB_list, wB_list, wdL, if_neg (by rw [h]; simp)]
theorem cont_step {L : List Int} {j : Nat} (h : j < L.length) (c : Int) : (L.take (j + 1)).contains c = ((L.take j).contains c || (L.getD j 0 == c)) := by
  rw [take_moreT h, Bool.eq_iff_iff, Bool.or_eq_true, List.contains_iff_mem, List.contains_iff_mem, List.mem_append, List.mem_singleton, beq_iff_eq]
  exact or_congr Iff.rfl eq_comm

set_option maxRecDepth 100000 in
set_option maxHeartbeats 3200000 in
theorem pathOfTableau (v : Value) (ls : List (List Int)) (lo hi : Nat) (w : World) (hv : OwnT w lo hi v ls) (hh : hi ≤ w.heap.size) (hl : ls.length ≤ 1048576) (hr : ∀ j, (ls.getD j []).length ≤ 1048576) :
    Calls Try.prog 13 #[v] w fun e w' => e = .returned (.tuple #[.string (pathT ls), .bool (tabB ls)]) ∧ Below w.heap.size w w' := by
  have HIS := Lib.hid (isTableau v ls lo hi w hv hh hl hr)
  rcases ht : tabB ls with _ | _
  · have HP := Lib.hid (pathT_no ht)
    rw [ht] at HIS
    clear hv hr ht
    go_enter Try.func13, Try.ntmps13
    go_wp2_with fail
    (with_reducible refine HIS.out.mono ?_)
    rintro e w1 ⟨rfl, q, rfl⟩
    go_wp2
    go_ret2
    exact ⟨ret_sb HP.out.symm rfl, below_drewN (Below.refl _ _) _⟩
  · obtain ⟨L, M, rfl⟩ : ∃ L M, ls = [L, M] := by
      match ls, ht with
      | [L, M], _ => exact ⟨L, M, rfl⟩
    obtain ⟨o, c1, rfl⟩ : ∃ o c1, v = .slice (some ⟨o, 0, none⟩) 2 c1 := by
      obtain ⟨A1, c1, rfl, k1⟩ := id hv
      obtain ⟨o, rv, rfl, -⟩ := hv.cell (j := 0) (by simp)
      exact ⟨o, c1, rfl⟩
    obtain ⟨o', rv, e', ho1, ho2, hc, hrow⟩ := hv.cell (j := 0) (by simp)
    obtain rfl : o = o' := by simpa using e'
    rw [show ([L, M] : List (List Int)).getD 0 [] = L from rfl] at hrow
    obtain ⟨A2, c2, rfl, -⟩ := id hrow
    have hn8 : L.length ≤ 8 := (tab_word ht).1
    obtain ⟨n, hn⟩ : ∃ n, L.length = n := ⟨_, rfl⟩
    rw [hn] at hc hn8
    obtain ⟨n2, hn2⟩ : ∃ n2 : Nat, n2 = 2 * n := ⟨_, rfl⟩
    have hmul : (2 : Int) * (n : Int) = (n2 : Int) := by omega
    have hn16 : n2 ≤ 16 := by omega
    have HN := Lib.hid hn
    have HP := Lib.hid (show pathT [L, M] = wB L n2 by rw [hn2, ← hn]; exact if_pos ht)
    have HRW := Lib.hid hrow
    rw [ht] at HIS
    clear hv hr ht hn hn2 hrow e'
    go_enter Try.func13, Try.ntmps13
    go_wp2_with fail
    (with_reducible refine HIS.out.mono ?_)
    rintro e w1 ⟨rfl, q, rfl⟩
    go_wp2
    go_loopw [4, 5] (fun s y wr => ∃ k q : Nat, k ≤ n2 ∧ y = .int .i64 ((k : Int) + 1) ∧ s = .string (wB L k) ∧ wr = w.drewN q) (fun _ y _ => n2 + 1 - (intOf y).toNat)
    case atStart => exact ⟨0, _, Nat.zero_le _, rfl, rfl, rfl⟩
    case round =>
      obtain ⟨k, q, hk, rfl, rfl, rfl⟩ := hrel
      by_cases hlt : k < n2
      · have hki : (k : Int) + 1 ≤ (n2 : Int) := by omega
        have hsz := wB_size L k
        have HU := Lib.hid (fun h => wB_u1 (L := L) (k := k) h)
        have HD := Lib.hid (fun h => wB_d1 (L := L) (k := k) h)
        generalize wB L k = s at *
        have hs16 : s.size ≤ 16 := by omega
        have HSZ := Lib.hid hsz
        clear hsz
        obtain ⟨c, hcc⟩ : ∃ c, (k : Int) + 1 = c := ⟨_, rfl⟩
        have HCC := Lib.hid hcc
        go_wp2
        go_loopw [6, 7] (fun b y wr => ∃ j : Nat, j ≤ n ∧ y = .int .i64 j ∧ b = .bool ((L.take j).contains ((k : Int) + 1)) ∧ wr = w.drewN q) (fun _ y _ => n - (intOf y).toNat)
        case atStart => exact ⟨0, Nat.zero_le _, rfl, rfl, rfl⟩
        case round =>
          obtain ⟨j, hj, rfl, rfl, rfl⟩ := hrel
          by_cases hjn : j < n
          · have hji : (j : Int) < (n : Int) := by omega
            have HST := Lib.hid (cont_step (L := L) (j := j) (by rw [HN.out]; exact hjn) ((k : Int) + 1))
            obtain ⟨g1, p1, e1, -, -, hcx, -⟩ := HRW.out.cell (j := j) (by rw [HN.out]; exact hjn)
            simp only [Value.slice.injEq] at e1
            obtain ⟨rfl, -, -⟩ := e1
            generalize L.getD j 0 = x at *
            generalize (L.take j).contains ((k : Int) + 1) = b at *
            clear hcc
            rcases b with _ | _
            · rcases hx : (x == (k : Int) + 1) with _ | _
              · have HQ := Lib.hid (HST.out.trans (by rw [hx]))
                go_wp2
                exact ⟨⟨j + 1, by omega, by simp, by rw [HQ.out]; rfl, by first | rfl | trivial⟩, by simp [intOf]; omega⟩
              · have HQ := Lib.hid (HST.out.trans (by rw [hx]))
                go_wp2
                exact ⟨⟨j + 1, by omega, by simp, by rw [HQ.out]; rfl, by first | rfl | trivial⟩, by simp [intOf]; omega⟩
            · have HQ := Lib.hid (HST.out.trans (Bool.true_or _))
              go_wp2
              exact ⟨⟨j + 1, by omega, by simp, by rw [HQ.out], by first | rfl | trivial⟩, by simp [intOf]; omega⟩
          · obtain rfl : j = n := by omega
            have hji : ¬ (j : Int) < (j : Int) := by omega
            have hlj : L.take j = L := List.take_of_length_le (by rw [HN.out]; exact Nat.le_refl _)
            rw [hlj]
            clear hlj hcc
            rcases hb : L.contains ((k : Int) + 1) with _ | _
            · have HE := Lib.hid (HD.out hb)
              clear HU HD hb
              go_wp2
              exact ⟨⟨k + 1, q, by omega, by simp, by rw [← HE.out], rfl⟩, by simp [intOf]; omega⟩
            · have HE := Lib.hid (HU.out hb)
              clear HU HD hb
              go_wp2
              exact ⟨⟨k + 1, q, by omega, by simp, by rw [← HE.out], rfl⟩, by simp [intOf]; omega⟩
      · obtain rfl : k = n2 := by omega
        have hki : ¬ (k : Int) + 1 ≤ (k : Int) := by omega
        generalize wB L k = s at *
        go_wp2
        go_ret2
        exact ⟨ret_sb HP.out.symm rfl, below_drewN (Below.refl _ _) _⟩

end Go.Proofs.Ytefbbkogfoongaa
