/- The contracts of the model's InverseOf and PermutationOf. -/
import Derived.Test.YtamepojgpeblpaaSpec10A
import Derived.Test.YtamepojgpeblpaaFact10P
import Derived.Test.YtamepojgpeblpaaRow10
namespace Go.Proofs.Ytamepojgpeblpaa
open Go.ChangeShapes Go.WideShapes Go.ChangeAt Go.RowKit
open Go.PlainAid (bt bt_nonneg bt_le get_bt)
set_option linter.unusedVariables false

set_option maxRecDepth 100000 in
set_option maxHeartbeats 3200000 in
theorem permutationOf (s : ByteArray) (w : World) (hs : s.size ≤ 1099511627776) : Calls Try.prog 36 #[.string s] w (AnsIB (permOfP s) (dyck s) w) := by
  rcases hd : dyck s with _ | _
  · have HP := Lib.hid (show permOfP s = [] from if_neg (by simp [hd]))
    have HD := Lib.hid hd
    clear hd
    go_enter Try.func36, Try.ntmps36
    go_wp2_with fail
    (with_reducible refine (isDyck_no s _ hs HD.out).mono ?_)
    rintro e w' ⟨rfl, rfl⟩
    go_wp2
    go_ret2
    exact ⟨_, rfl, by rw [HP.out]; exact ⟨_, _, rfl, .inl rfl⟩, (Below.refl _ _).alloc (Nat.le_refl _) _⟩
  · have HP := Lib.hid (show permOfP s = psO s s.size from if_pos hd)
    have HD := Lib.hid hd
    have h16 := dyck_size hd
    clear hd
    obtain ⟨m, hm⟩ : ∃ m, m = s.size / 2 := ⟨_, rfl⟩
    have hmi : (s.size : Int).tdiv 2 = (m : Int) := by rw [Int.tdiv_eq_ediv_of_nonneg (by omega)]; omega
    have hm8 : m ≤ 8 := by omega
    obtain ⟨i0, hi0, hz0, hz1, hz2⟩ := info_parts info3
    have HSM := Lib.hid hm
    clear hm
    go_enter Try.func36, Try.ntmps36
    go_wp2_with fail
    (with_reducible refine (isDyck_yes s _ hs HD.out).mono ?_)
    rintro e w' ⟨rfl, rfl⟩
    go_wp2_with (at_make; go_must (refine wpList_make_full _ rfl _ _ 22 rfl w.heap.size 3 i0 (.int .i64 0) 1 Try.underlying22 hi0 hz0 hz1 .i64 .i64 (m : Int) (m : Int) m rfl rfl rfl rfl (by rw [hz2]; omega) (by unfold maxLen; omega) (Nat.le_refl _) ?_); intro w2 hown1 hgrow1)
    have HTB := Lib.hid (TbR.made hown1)
    have hlt1 : w.heap.size < w2.heap.size := (hown1.lt _ rfl).2
    have HB2 := Lib.hid ((Below.refl w.heap.size w).grown hgrow1 (Nat.le_refl _) (fun k hk => by cases hk))
    clear hown1 hgrow1
    go_loopw [5, 6, 7, 8] (fun st x6 x7 x8 wr => ∃ (i : Nat) (K : Int), i ≤ s.size ∧ x8 = .int .i64 i ∧ x6 = .int .i64 (psN s i : Nat) ∧ x7 = .int .i64 K ∧ K = (psN s i : Int) - ((psS s i).length : Int) ∧ RowN wr w2.heap.size st (psS s i) ∧ TbR wr w.heap.size (psO s i) ∧ w2.heap.size ≤ wr.heap.size ∧ Below w.heap.size w wr) (fun _ _ _ x8 _ => s.size - (intOf x8).toNat)
    case atStart => exact ⟨0, 0, Nat.zero_le _, rfl, rfl, rfl, rfl, World.ownsRow_made w2 #[] 0 (Nat.le_refl _) (Nat.zero_le _) (by simp), by have h := HTB.out; rw [HSM.out] at h; exact h.alloc _, by simp, HB2.out.alloc (Nat.le_of_lt hlt1) _⟩
    case round =>
      obtain ⟨i, K, hi1, rfl, rfl, rfl, hK, hst, htb, hsz, hb⟩ := hrel
      have HST := Lib.hid hst
      have HT := Lib.hid htb
      have HB := Lib.hid hb
      clear hst htb hb HTB HB2
      by_cases hlt : i < s.size
      · have hbt := get_bt s
        have hji : (i : Int) < (s.size : Int) := by omega
        obtain ⟨r1, r2⟩ := ps_room HD.out (i := i) hi1
        by_cases e1 : bt s i = 117
        · have b1 : (bt s i == 117) = true := by simp [e1]
          have HSS := Lib.hid (show psS s (i + 1) = psS s i ++ [(psN s i : Int)] from if_pos e1)
          have HSN := Lib.hid (show psN s (i + 1) = psN s i + 1 from if_pos e1)
          have HSO := Lib.hid (show psO s (i + 1) = psO s i from if_pos e1)
          have hrw := fun k (e : some k = u5.ownBlock) => (World.ownsRow.lt HST.out k e.symm).1
          have HRW := Lib.hid hrw
          clear e1 hrw
          generalize psN s i = n0 at *
          generalize psS s i = S at *
          generalize psO s i = O at *
          have HKK := Lib.hid hK
          clear hK
          go_wp2_with (at_builtin; go_must (refine wpAppInt rfl _ _ rfl w2.heap.size u5 _ S rfl (World.ownsRow.alloc HST.out _) wr.heap.size _ _ rfl (cell_one _ _ _) (by omega) (by simp; omega) ?_); intro v' w' hown' hg')
          have hz3 := hg'.size
          go_roundw
          case rel => exact ⟨i + 1, K, by omega, by simp, by rw [HSN.out]; simp, rfl, by rw [HSN.out, HSS.out, HKK.out, List.length_append]; simp; omega, by unfold RowN; rw [HSS.out]; simpa using hown', by rw [HSO.out]; exact (HT.out.alloc _).keep (hg'.block _ (by have := HT.out.lt; simp; omega) (fun e => by have := HRW.out _ e; omega)), by simp at hz3; omega, (HB.out.alloc (by omega) _).grown hg' (by simp; omega) (fun k hk => by have := HRW.out k hk.symm; omega)⟩
          case measure => simp [intOf]; omega
        · have b1 : (bt s i == 117) = false := by simp [e1]
          obtain ⟨t1, t2, t3, t4, t5, t6⟩ := ps_top HD.out hlt e1
          have HSS := Lib.hid (show psS s (i + 1) = (psS s i).dropLast from if_neg e1)
          have HSN := Lib.hid (show psN s (i + 1) = psN s i from if_neg e1)
          have HSO := Lib.hid (show psO s (i + 1) = (psO s i).set (psT s i) ((psN s i : Int) - ((psS s i).length : Int)) from if_neg e1)
          have hol := psO_len s i
          obtain ⟨A2, cap, e2, hA⟩ := HST.out.form
          subst e2
          obtain ⟨g2, rfl, hg2, hg3, hcp⟩ := hA (by omega)
          obtain ⟨hc, hf⟩ := HST.out.cell (j := (psS s i).length - 1) (by omega)
          rw [t3] at hc
          obtain ⟨hc2, hf2⟩ := HT.out.cell (j := psT s i) (by rw [hol]; exact t4)
          have HCUT := Lib.hid HST.out.cut
          rw [← hK] at HSO
          have HLD := Lib.hid (List.length_dropLast (xs := psS s i))
          generalize psT s i = q at *
          generalize (psO s i).getD q 0 = z0 at hc2
          generalize psO s i = O at *
          generalize (psS s i).dropLast = Sd at *
          clear HST e1 hol t3 hA
          generalize (psS s i).length = L at *
          generalize psN s i = n0 at *
          obtain ⟨l, hl⟩ : ∃ l, l = L - 1 := ⟨_, rfl⟩
          rw [← hl] at hc hf HCUT HLD
          have hqm : (q : Int) < (m : Int) := by have := HSM.out; omega
          have hli : (L : Int) - 1 = (l : Int) := by omega
          have hlL : (l : Int) < (L : Int) := by omega
          have hlc : (l : Int) ≤ (cap : Int) := by omega
          have HL := Lib.hid hl
          have HKK := Lib.hid hK
          have hK0 : 0 ≤ K ∧ K ≤ 8 := by omega
          clear hl hK
          go_wp2
          go_roundw
          case rel => exact ⟨i + 1, K + 1, by omega, by simp, by rw [HSN.out], rfl, by rw [HSN.out, HSS.out, HLD.out, HKK.out]; have := HL.out; omega, by rw [HSS.out]; exact HCUT.out.other (by simp [Value.ownBlock]; omega) _, by rw [HSO.out]; exact HT.out.set _ _, by simpa [World.setCell] using hsz, HB.out.setCell (p := ⟨w.heap.size, q, none⟩) (Nat.le_refl _) _⟩
          case measure => simp [intOf]; omega
      · obtain rfl : i = s.size := by omega
        have HR := Lib.hid (HT.out.own (Nat.le_refl _) m)
        rw [psO_len, ← HSM.out] at HR
        go_wp2
        go_ret2
        exact ⟨_, rfl, by rw [HP.out]; exact HR.out, HB.out⟩

end Go.Proofs.Ytamepojgpeblpaa
