/- The program's CountSortable. -/
import Derived.Test.YtamepojgpeblpaaAll31
import Derived.Test.YtamepojgpeblpaaImpl31C
import Derived.Test.YtamepojgpeblpaaImpl31D
import Derived.Deep.LoopGhost
namespace Go.Proofs.Ytamepojgpeblpaa
open Go.ChangeShapes Go.WideShapes Go.ChangeAt Go.RowKit
set_option linter.unusedVariables false

set_option maxRecDepth 100000 in
set_option maxHeartbeats 1600000 in
theorem ascendingG (n : Nat) (w : World) (hn : n ≤ 1048576) :
    Calls Try.prog 61 #[.int .i64 (n : Int)] w fun e w' => ∃ g, w.heap.size ≤ g ∧ e = .returned (.slice (some ⟨g, 0, none⟩) n n) ∧ OwnI w' w.heap.size w'.heap.size (.slice (some ⟨g, 0, none⟩) n n) (asL n) ∧ Below w.heap.size w w' := by
  obtain ⟨i0, hi0, hz0, hz1, hz2⟩ := info_parts info3
  go_enter Try.func61, Try.ntmps61
  go_wp2_with (at_make; go_must (refine wpList_make_full _ rfl _ _ 22 rfl w.heap.size 3 i0 (.int .i64 0) 1 Try.underlying22 hi0 hz0 hz1 .i64 .i64 (n : Int) (n : Int) n rfl rfl rfl rfl (by rw [hz2]; omega) (by unfold maxLen; omega) (Nat.le_refl _) ?_); intro w2 hown1 hgrow1)
  have HTB := Lib.hid (TbR.made hown1)
  have HB2 := Lib.hid ((Below.refl w.heap.size w).grown hgrow1 (Nat.le_refl _) (fun k hk => by cases hk))
  clear hown1 hgrow1
  go_loopw [9] (fun y wr => ∃ i : Nat, i ≤ n ∧ y = .int .i64 i ∧ TbR wr w.heap.size (asP n i) ∧ Below w.heap.size w wr) (fun y _ => n - (intOf y).toNat)
  case atStart => exact ⟨0, Nat.zero_le _, rfl, by rw [asP_zero]; exact HTB.out, HB2.out⟩
  case round =>
    obtain ⟨i, hi1, rfl, htb, hb⟩ := hrel
    have HT := Lib.hid htb
    have HB := Lib.hid hb
    clear htb hb
    by_cases hlt : i < n
    · have hii : (i : Int) < (n : Int) := by omega
      have HSU := Lib.hid (asP_step hlt)
      obtain ⟨hc2, hf2⟩ := HT.out.cell (j := i) (by rw [asP_len]; exact hlt)
      generalize (asP n i).getD i 0 = z0 at hc2
      go_wp2
      go_roundw
      case rel => exact ⟨i + 1, by omega, by simp, by rw [HSU.out]; exact HT.out.set _ _, HB.out.setCell (p := ⟨w.heap.size, i, none⟩) (Nat.le_refl _) _⟩
      case measure => simp [intOf]; omega
    · obtain rfl : i = n := by omega
      have HR := Lib.hid (HT.out.own (Nat.le_refl _) i)
      rw [asP_len, asP_all] at HR
      go_wp2
      go_ret
      exact ⟨_, Nat.le_refl _, rfl, HR.out, HB.out⟩

set_option maxRecDepth 100000 in
set_option maxHeartbeats 3200000 in
theorem countSortableI (n m : Int) (w : World) : Calls Try.prog 31 #[.int .i64 n, .int .i64 m] w fun e w' => e = .returned (.int .i64 (csP n m)) ∧ Below w.heap.size w w' := by
  by_cases h : 0 ≤ n ∧ n ≤ 5 ∧ 0 ≤ m ∧ m ≤ 5
  · have HP := Lib.hid (show csP n m = (cnS (pmLs n.toNat) m (pmLs n.toNat).length : Int) from if_pos (decide_eq_true h))
    obtain ⟨a, rfl⟩ : ∃ a : Nat, n = (a : Int) := ⟨n.toNat, by omega⟩
    rw [Int.toNat_natCast] at HP
    have ha5 : a ≤ 5 := by omega
    have g1 : ¬ ((a : Int) < 0) := by omega
    have g2 : ¬ ((5 : Int) < (a : Int)) := by omega
    have g3 : ¬ (m < 0) := by omega
    have g4 : ¬ ((5 : Int) < m) := by omega
    have HNX := Lib.hid (al_next a (by omega))
    have HLA := Lib.hid (al_last a (by omega))
    obtain ⟨f1, f2, f3⟩ := al_first a (by omega)
    have HLE := Lib.hid (al_len a (by omega))
    have HF := Lib.hid f1
    have HCN := Lib.hid (fun k => cnS_le (pmLs a) m k)
    have HCS := Lib.hid (fun k => show cnS (pmLs a) m (k + 1) = cnS (pmLs a) m k + if passP ((pmLs a).getD k []) ≤ m then 1 else 0 from rfl)
    clear h f1
    generalize pmLs a = L at *
    go_enter Try.func31, Try.ntmps31
    go_wp2_with fail
    (with_reducible refine (ascendingG a _ (by omega)).mono ?_)
    rintro e w1 ⟨g, hgB, rfl, ho, hb⟩
    rw [← HF.out] at ho
    have HO1 := Lib.hid ho
    have HB1 := Lib.hid hb
    have hz1 := hb.size
    clear ho hb
    go_wp2
    go_loopg [5, 7] L.length (fun gk x5 x7 wr => ∃ (k : Nat) (b : Bool) (c : Nat), x5 = .int .i64 (c : Int) ∧ x7 = .bool b ∧ k < L.length ∧ (b = true → c = cnS L m k ∧ gk + k = L.length) ∧ (b = false → c = cnS L m L.length ∧ gk = 0) ∧ c ≤ 120 ∧ OwnI wr w.heap.size w1.heap.size (.slice (some ⟨g, 0, none⟩) a a) (L.getD k []) ∧ w1.heap.size ≤ wr.heap.size ∧ Below w.heap.size w wr)
    case atStart => exact ⟨0, true, 0, rfl, rfl, f2, fun _ => ⟨rfl, by omega⟩, (fun h => by simp at h), by omega, HO1.out, Nat.le_refl _, HB1.out⟩
    case round =>
      obtain ⟨k, b, c, rfl, rfl, hk, h1, h2, hc120, ho, hz, hb⟩ := hrel
      have HB := Lib.hid hb
      have hl := HLE.out k hk
      rcases b with _ | _
      · obtain ⟨e1, -⟩ := h2 rfl
        have HC := Lib.hid e1
        clear h1 h2 e1 ho hb hl
        go_wp2
        go_ret
        exact ⟨ret_int31I (by rw [HP.out, HC.out]), HB.out⟩
      · obtain ⟨e1, e2⟩ := h1 rfl
        have HC := Lib.hid e1
        have hgk : gk + k = L.length := e2
        have HGK := Lib.hid hgk
        have HO := Lib.hid (show OwnI wr w.heap.size w1.heap.size (.slice (some ⟨g, 0, none⟩) (L.getD k []).length a) (L.getD k []) by rw [hl]; exact ho)
        have hPA := passesOfI (some ⟨g, 0, none⟩) (L.getD k []) a _ _ wr HO.out hz
        rw [hl] at hPA
        have HPA := Lib.hid hPA
        have HTN := Lib.hid (fun W (hW : OwnI W w.heap.size w1.heap.size (.slice (some ⟨g, 0, none⟩) (L.getD k []).length a) (L.getD k [])) (hz : w1.heap.size ≤ W.heap.size) => show Calls Try.prog 62 #[.slice (some ⟨g, 0, none⟩) a a] W fun e w' => e = .returned (.bool (nextL (L.getD k [])).isSome) ∧ OwnI w' w.heap.size w1.heap.size (.slice (some ⟨g, 0, none⟩) a a) ((nextL (L.getD k [])).getD (L.getD k [])) ∧ W.heap.size = w'.heap.size ∧ Below w.heap.size W w' by
          have h3 := toNextI g a (L.getD k []) w.heap.size w1.heap.size W hW (by rw [hl]; exact Nat.le_refl _) (by omega) hgB hz
          rw [hl] at h3
          exact h3)
        have HS := Lib.hid (HCS.out k)
        have HCK := Lib.hid (HCN.out (k + 1))
        have hck := HCN.out k
        have HNK := Lib.hid (HNX.out k)
        have HLK := Lib.hid HLA.out
        clear h1 h2 e1 e2 ho hb hPA hgk
        generalize hP : passP (L.getD k []) = z at *
        have fin : ∀ c' : Nat, c' = cnS L m (k + 1) → c' ≤ 120 := fun c' e => by rw [e]; have := HCK.out; omega
        have HFIN := Lib.hid fin
        clear fin
        by_cases hle : z ≤ m
        · have HC1 := Lib.hid (show c + 1 = cnS L m (k + 1) by rw [HS.out, if_pos hle, HC.out])
          have hc12 := HFIN.out _ HC1.out
          go_wp2_with fail
          (with_reducible refine HPA.out.mono ?_)
          rintro e w2 ⟨rfl, hb2⟩
          have hz2 := hb2.size
          have HO2 := Lib.hid (HO.out.keep hb2 hz)
          have HB2 := Lib.hid (HB.out.trans (hb2.mono (by omega)))
          have HT2 := Lib.hid (HTN.out w2 HO2.out (by omega))
          clear hb2
          by_cases hlast : k + 1 = L.length
          · have hlk : nextL (L.getD k []) = none := by rw [show k = L.length - 1 by omega]; exact HLK.out
            rw [hlk] at HT2
            have HLL := Lib.hid hlast
            clear hlast hlk
            go_wp2_with fail
            (with_reducible refine HT2.out.mono ?_)
            rintro e w3 ⟨rfl, ho3, hz3, hb3⟩
            have HO3 := Lib.hid ho3
            have HB3 := Lib.hid (HB2.out.trans hb3)
            have HZ3 := Lib.hid hz3
            clear ho3 hb3 hz3
            go_wp2
            go_roundg 0
            case rel => exact ⟨k, false, _, by first | rfl | simp, rfl, hk, (fun h => by simp at h), fun _ => ⟨by rw [HC1.out, HLL.out], rfl⟩, by omega, HO3.out, by have := HZ3.out; omega, HB3.out⟩
            case measure => have := HGK.out; have := HLL.out; omega
          · have hnk := HNK.out (by omega)
            rw [hnk] at HT2
            clear hnk
            go_wp2_with fail
            (with_reducible refine HT2.out.mono ?_)
            rintro e w3 ⟨rfl, ho3, hz3, hb3⟩
            have HO3 := Lib.hid ho3
            have HB3 := Lib.hid (HB2.out.trans hb3)
            have HZ3 := Lib.hid hz3
            clear ho3 hb3 hz3
            go_wp2
            go_roundg (gk - 1)
            case rel => exact ⟨k + 1, true, _, by first | rfl | simp, rfl, by omega, fun _ => ⟨HC1.out, by have := HGK.out; omega⟩, (fun h => by simp at h), by omega, HO3.out, by have := HZ3.out; omega, HB3.out⟩
            case measure => have := HGK.out; omega
        · have HC1 := Lib.hid (show c = cnS L m (k + 1) by rw [HS.out, if_neg hle, HC.out, Nat.add_zero])
          have hc12 := HFIN.out _ HC1.out
          go_wp2_with fail
          (with_reducible refine HPA.out.mono ?_)
          rintro e w2 ⟨rfl, hb2⟩
          have hz2 := hb2.size
          have HO2 := Lib.hid (HO.out.keep hb2 hz)
          have HB2 := Lib.hid (HB.out.trans (hb2.mono (by omega)))
          have HT2 := Lib.hid (HTN.out w2 HO2.out (by omega))
          clear hb2
          by_cases hlast : k + 1 = L.length
          · have hlk : nextL (L.getD k []) = none := by rw [show k = L.length - 1 by omega]; exact HLK.out
            rw [hlk] at HT2
            have HLL := Lib.hid hlast
            clear hlast hlk
            go_wp2_with fail
            (with_reducible refine HT2.out.mono ?_)
            rintro e w3 ⟨rfl, ho3, hz3, hb3⟩
            have HO3 := Lib.hid ho3
            have HB3 := Lib.hid (HB2.out.trans hb3)
            have HZ3 := Lib.hid hz3
            clear ho3 hb3 hz3
            go_wp2
            go_roundg 0
            case rel => exact ⟨k, false, _, by first | rfl | simp, rfl, hk, (fun h => by simp at h), fun _ => ⟨by rw [HC1.out, HLL.out], rfl⟩, by omega, HO3.out, by have := HZ3.out; omega, HB3.out⟩
            case measure => have := HGK.out; have := HLL.out; omega
          · have hnk := HNK.out (by omega)
            rw [hnk] at HT2
            clear hnk
            go_wp2_with fail
            (with_reducible refine HT2.out.mono ?_)
            rintro e w3 ⟨rfl, ho3, hz3, hb3⟩
            have HO3 := Lib.hid ho3
            have HB3 := Lib.hid (HB2.out.trans hb3)
            have HZ3 := Lib.hid hz3
            clear ho3 hb3 hz3
            go_wp2
            go_roundg (gk - 1)
            case rel => exact ⟨k + 1, true, _, by first | rfl | simp, rfl, by omega, fun _ => ⟨HC1.out, by have := HGK.out; omega⟩, (fun h => by simp at h), by omega, HO3.out, by have := HZ3.out; omega, HB3.out⟩
            case measure => have := HGK.out; omega
  · have HP := Lib.hid (show csP n m = -1 from if_neg (by unfold csOk; rw [decide_eq_false h]; decide))
    by_cases h1 : n < 0
    · clear h
      go_enter Try.func31, Try.ntmps31
      go_wp2
      go_ret
      exact ⟨ret_int31I HP.out.symm, Below.refl _ _⟩
    · by_cases h2 : 5 < n
      · clear h
        go_enter Try.func31, Try.ntmps31
        go_wp2
        go_ret
        exact ⟨ret_int31I HP.out.symm, Below.refl _ _⟩
      · by_cases h3 : m < 0
        · clear h
          go_enter Try.func31, Try.ntmps31
          go_wp2
          go_ret
          exact ⟨ret_int31I HP.out.symm, Below.refl _ _⟩
        · have h4 : 5 < m := by omega
          clear h
          go_enter Try.func31, Try.ntmps31
          go_wp2
          go_ret
          exact ⟨ret_int31I HP.out.symm, Below.refl _ _⟩

end Go.Proofs.Ytamepojgpeblpaa
