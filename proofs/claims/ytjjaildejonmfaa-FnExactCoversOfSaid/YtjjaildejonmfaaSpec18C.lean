/- The contract of the model's CoversOf. -/
import Derived.Test.YtjjaildejonmfaaSpec18B
import Derived.Test.YtjjaildejonmfaaFact18C
import Derived.Test.YtjjaildejonmfaaSpec2F
namespace Go.Proofs.Ytjjaildejonmfaa
open Go.ChangeShapes Go.WideShapes Go.ChangeAt Go.RowKit
open Go.PlainAid (bt bt_nonneg bt_le get_bt bt_end)
set_option linter.unusedVariables false

/-- A string appended to a row of this call's own, in a region. -/
theorem stepAppS1 {w : World} {ops : Array Oper} {o : Oper} {a : Act} {K : Act → World → Prop} {Q : Exit → Act → World → Prop} {E : Prop} (hgd : o.guard = none) (s x : Operand)
    (ho : o.op = .call { callee := .builtin .append, args := #[s, x], argTypes := #[32, 32] })
    (base : Nat) (v : Value) (n : Nat) (xs : List ByteArray) (hs : a.eval s = v) (hown : w.ownsRow base 9 1 v n (xs.map Value.string))
    (b c : Nat) (y : ByteArray) (hx : a.eval x = .slice (some ⟨b, 0, none⟩) 1 c) (hcell : w.cell? ⟨b, 0, none⟩ = some (.string y))
    (hn : n ≤ 1099511627776) (hbase : base ≤ w.heap.size)
    (h : ∀ v' w', w'.ownsRow base 9 1 v' (n + 1) ((xs ++ [y]).map Value.string) → w.grownBy w' v.ownBlock → K (a.put o.dst v') w') :
    if Region.wanted o (yielded ops a.tmps) = true then Oper.wp Try.prog o a w K Q else E := by
  have hw : Region.wanted o (yielded ops a.tmps) = true := by simp [Region.wanted, hgd]
  rw [if_pos hw]
  obtain ⟨i0, hi, hz0, hz1, hz2⟩ := info_parts info9
  obtain ⟨v', w', hr, h2, h3, h4⟩ := run_append_own (P := Try.prog) w base 32 o.type 9 i0 (.string ⟨#[]⟩) 1 16 Try.underlying32 hi hz0 hz1 hz2 rfl (by decide) v n _ hown ⟨b, 0, none⟩ 1 c [.string y] rfl (fun j u hj => by
    match j, hj with
    | 0, hj => simp at hj; subst hj; simpa [Addr.add] using hcell) (fun u hu => by simp at hu; subst hu; rfl) (by unfold maxLen; omega) (by omega) hbase
  unfold Oper.wp execOp
  simp only [ho, resolve, invoke, builtin, Sem.run_bind, Sem.run_pure, Result.andThen_ok, List.map_toArray, List.map_cons, List.map_nil, hs, hx, hr]
  exact h v' w' (by simpa using h2) h3
theorem sl_mid (s : ByteArray) (x m : Nat) (h1 : x ≤ m) (h2 : m ≤ s.size) (W : World) : (Instr.slice 9 (.string s) (some (.int .i64 (x : Int))) (some (.int .i64 (m : Int))) none).run Try.prog W = .ok (.string (s.extract x m)) W := by
  rw [run_slice_string W 9 s .i64 .i64 (x : Int) (m : Int) Try.underlying9 (by omega) (by omega) (by omega)]; simp
theorem sl_to (s : ByteArray) (m : Nat) (h2 : m ≤ s.size) (W : World) : (Instr.slice 9 (.string s) none (some (.int .i64 (m : Int))) none).run Try.prog W = .ok (.string (s.extract 0 m)) W := by
  rw [run_slice_string_h W 9 s Try.underlying9 .i64 (m : Int) (by omega) (by omega)]; simp
theorem sl_fr (s : ByteArray) (m : Nat) (h2 : m ≤ s.size) (W : World) : (Instr.slice 9 (.string s) (some (.int .i64 (m : Int))) none none).run Try.prog W = .ok (.string (s.extract m s.size)) W := by
  rw [run_slice_string_l W 9 s Try.underlying9 .i64 (m : Int) (by omega) (by omega)]; simp
theorem du_list : (⟨#[100, 117]⟩ : ByteArray).toList = [100, 117] := by rw [ByteArray.toList_eq]
theorem cell_one_drew {w : World} {x : Value} {t : TypeId} {b : Nat} (hb : b = w.heap.size) : (w.alloc (.cells #[x] t)).drew.cell? ⟨b, 0, none⟩ = some x := cell_one_at hb
theorem ud_size : (⟨#[117, 100]⟩ : ByteArray).size = 2 := rfl

set_option maxRecDepth 100000 in
set_option maxHeartbeats 3200000 in
theorem coversOf (s : ByteArray) (w : World) (hs : s.size ≤ 1099511627776) : Calls Try.prog 24 #[.string s] w (AnsS (covP s) w) := by
  rcases hd : dyck s with _ | _
  · have HP := Lib.hid (cov_no hd)
    have HD := Lib.hid hd
    clear hd
    go_enter Try.func24, Try.ntmps24
    go_wp2
    go_loop [3, 4] (fun v y => v = .slice (some ⟨w.heap.size, 0, none⟩) 0 0 ∧ y = .int .i64 1) (fun _ _ => 0)
    case atStart => exact ⟨rfl, rfl⟩
    case round =>
      obtain ⟨rfl, rfl⟩ := hrel
      by_cases h1 : (1 : Int) < (s.size : Int)
      · go_wp2_with fail
        (with_reducible refine (isDyck_no s _ hs HD.out).mono ?_)
        rintro e w1 ⟨rfl, rfl⟩
        go_wp2
        go_ret
        exact ⟨_, rfl, by rw [HP.out]; exact ⟨_, _, rfl, .inl rfl⟩, (Below.refl _ _).alloc (Nat.le_refl _) _⟩
      · go_wp2
        go_ret
        exact ⟨_, rfl, by rw [HP.out]; exact ⟨_, _, rfl, .inl rfl⟩, (Below.refl _ _).alloc (Nat.le_refl _) _⟩
  · have HP := Lib.hid (cov_yes hd)
    have HD := Lib.hid hd
    have h16 := dyck_size hd
    have HLE := Lib.hid (cvL_le s)
    clear hd
    go_enter Try.func24, Try.ntmps24
    go_wp2
    go_loopw [3, 4] (fun v y wr => ∃ i : Nat, 1 ≤ i ∧ (i ≤ s.size ∨ i = 1) ∧ y = .int .i64 i ∧ wr.ownsRow w.heap.size 9 1 v (cvL s i).length ((cvL s i).map Value.string) ∧ Below w.heap.size w wr) (fun _ y _ => s.size - (intOf y).toNat)
    case atStart => exact ⟨1, Nat.le_refl _, .inr rfl, rfl, by rw [cvL_no (k := 0) (fun h => by have := h.1; omega)]; exact World.ownsRow_made w #[] 0 (Nat.le_refl _) (Nat.zero_le _) (by simp), (Below.refl _ _).alloc (Nat.le_refl _) _⟩
    case round =>
      obtain ⟨i, hi1, hi2, rfl, hrow, hb⟩ := hrel
      have HROW := Lib.hid hrow
      have HB := Lib.hid hb
      have hB := hb.size
      have hle := HLE.out i
      clear hrow hb
      by_cases hlt : i < s.size
      · have hii : (i : Int) < (s.size : Int) := by omega
        obtain ⟨j, hj⟩ : ∃ j, i = j + 1 := ⟨i - 1, by omega⟩
        obtain ⟨k, hk⟩ : ∃ k, k = i + 1 := ⟨_, rfl⟩
        have gj : (i : Int) - 1 = (j : Int) := by omega
        have gk : (i : Int) + 1 = (k : Int) := by omega
        have hj16 : j ≤ 16 := by omega
        have hk17 : k ≤ 17 := by omega
        have hm := sl_mid s j k (by omega) (by omega)
        have ht := sl_to s j (by omega)
        have hf := sl_fr s k (by omega)
        have h2 := two_at18 s j (by omega)
        rw [show j + 2 = k by omega] at h2
        have hv : decide (bt s j = 100 ∧ bt s (j + 1) = 117) = decide (vale s i) := by
          subst hj
          exact decide_eq_decide.2 ⟨fun c => ⟨by omega, by rw [Nat.add_sub_cancel]; exact c.1, c.2⟩, fun h => ⟨by have := h.2.1; rwa [Nat.add_sub_cancel] at this, h.2.2⟩⟩
        rw [hv, du_list] at h2
        have hwj : IntKind.i64.wrap (j : Int) = (j : Int) := IntWalk.i64_in _ (by omega)
        have hwk : IntKind.i64.wrap (k : Int) = (k : Int) := IntWalk.i64_in _ (by omega)
        have HI2 := Lib.hid (show (i + 1 ≤ s.size ∨ i + 1 = 1) ∧ s.size - (i + 1) < s.size - i by omega)
        by_cases c : vale s i
        · rw [decide_eq_true c] at h2
          have HL := Lib.hid (cvL_yes c)
          have HC := Lib.hid (show (s.extract 0 j ++ ⟨#[117, 100]⟩) ++ s.extract k s.size = cvP s i by subst hj; subst hk; rfl)
          have y1 : (s.extract 0 j).size ≤ 16 := by rw [ByteArray.size_extract]; omega
          have y2 : (s.extract k s.size).size ≤ 16 := by rw [ByteArray.size_extract]; omega
          clear c hv hj hk
          generalize s.extract j k = X1 at *
          generalize s.extract 0 j = X2 at *
          generalize s.extract k s.size = X3 at *
          have z1 : ¬ 9223372036854775807 < X2.size + (⟨#[117, 100]⟩ : ByteArray).size := by rw [ud_size]; omega
          have z2 : ¬ 9223372036854775807 < (X2 ++ ⟨#[117, 100]⟩ : ByteArray).size + X3.size := by rw [ByteArray.size_append, ud_size]; omega
          have x1 : ¬ 9223372036854775807 < X2.size + 2 := by omega
          have x2 : ¬ 9223372036854775807 < X2.size + 2 + X3.size := by omega
          go_wp2_with fail
          (with_reducible refine (isDyck_yes s _ hs HD.out).mono ?_)
          rintro e w1 ⟨rfl, rfl⟩
          go_wp2
          go_region_law (refine stepAppS1 rfl _ _ (by rfl) w.heap.size _ (cvL s i).length (cvL s i) (by rfl) (World.ownsRow.alloc (row_drew HROW.out) _) _ 1 ((X2 ++ ⟨#[117, 100]⟩) ++ X3) (by rfl) (by first | exact cell_one_at (by simp) | exact cell_one_at rfl | exact cell_one_drew (by simp) | exact cell_one_drew rfl) (by omega) (by first | (simp; omega) | omega | exact Nat.le_trans hB (by simp)) ?_; intro v' w' hown' hg'; have HOW := Lib.hid hown'; have HBG := Lib.hid ((show Below w.heap.size w _ from (by first | exact (below_drewN HB.out _).alloc hB _ | exact ((HB.out).alloc hB _).drew | exact ((below_drewN HB.out 1).alloc hB _).drew)).grown hg' (by first | (simp; omega) | omega) (fun k hk => (World.ownsRow.lt HROW.out k hk).1)); clear hown' hg')
          all_goals go_wp2
          all_goals exact ⟨⟨i + 1, by omega, HI2.out.1, (by first | (simp; done) | (simp; omega)), by rw [HL.out, ← HC.out, List.length_append, List.length_singleton]; exact HOW.out, HBG.out⟩, by have := HI2.out.2; simp [intOf]; omega⟩
        · rw [decide_eq_false c] at h2
          have HL := Lib.hid (cvL_no c)
          clear c hv hj hk
          generalize s.extract j k = X1 at *
          go_wp2_with fail
          (with_reducible refine (isDyck_yes s _ hs HD.out).mono ?_)
          rintro e w1 ⟨rfl, rfl⟩
          go_wp2
          exact ⟨⟨i + 1, by omega, HI2.out.1, (by first | (simp; done) | (simp; omega)), by rw [HL.out]; exact HROW.out, HB.out⟩, by have := HI2.out.2; simp [intOf]; omega⟩
      · have hii : ¬ (i : Int) < (s.size : Int) := by omega
        have HE := Lib.hid (show cvL s i = cvL s s.size by
          rcases hi2 with h | h
          · rw [show i = s.size by omega]
          · subst h
            have : s.size = 0 ∨ s.size = 1 := by omega
            rcases this with h | h
            · rw [h, cvL_no (k := 0) (fun h => by have := h.1; omega)]
            · rw [h])
        go_wp2
        go_ret
        exact ⟨_, rfl, by rw [HP.out, ← HE.out]; exact OwnS.of_row HROW.out, HB.out⟩

end Go.Proofs.Ytjjaildejonmfaa
