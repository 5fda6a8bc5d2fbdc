/- DescentsOfTableau, EvacuateTableau: both functions. -/
import Derived.Test.YtefbbkogfoongaaSpecP11
import Derived.Test.YtefbbkogfoongaaSpec11B
import Derived.Test.YtefbbkogfoongaaImpl2E
namespace Go.Proofs.Ytefbbkogfoongaa
open Go.ChangeShapes Go.WideShapes Go.ChangeAt Go.RowKit
open Go.PlainAid (bt bt_nonneg bt_le get_bt)
set_option linter.unusedVariables false

theorem pathT_dyck (ls : List (List Int)) : dyck (pathT ls) = true := by
  unfold pathT
  split
  · rename_i h
    match ls, h with
    | [L, M], h => exact (tab_word h).2.2.1
  · decide
theorem back_sm {s : ByteArray} (hd : dyck s = true) : ∀ i, i ≤ s.size → smA (backL s i) = smA (s.data.toList.take (s.size - i)) ∧ udA (backL s i) = true := by
  have h16 := dyck_size hd
  have hd2 := hd
  rw [dyck_short h16] at hd2
  obtain ⟨hud, hsum, hpre⟩ := df_pref _ _ hd2
  have hlen : s.data.toList.length = s.size := by simp
  intro i
  induction i with
  | zero =>
    intro _
    refine ⟨?_, rfl⟩
    rw [Nat.sub_zero, List.take_of_length_le (by omega)]
    simp only [backL, smA]; omega
  | succ i ih =>
    intro hi
    obtain ⟨h1, h2⟩ := ih (by omega)
    have hk : s.size - 1 - i < s.data.toList.length := by omega
    have e : s.data.toList.take (s.size - i) = s.data.toList.take (s.size - (i + 1)) ++ [s.data.toList[s.size - 1 - i]] := by
      rw [show s.size - (i + 1) = s.size - 1 - i by omega, show s.size - i = s.size - 1 - i + 1 by omega, List.take_append_getElem]
    have hb : bt s (s.size - 1 - i) = (s.data.toList[s.size - 1 - i].toNat : Int) := by rw [bt_at s _ (by omega)]; rfl
    rw [e, smA_app] at h1
    rw [backL_succ, smA_app, udA_app, h2, hb, h1]
    by_cases e2 : s.data.toList[s.size - 1 - i].toNat = 117
    · rw [smA_up _ e2, if_pos (by omega)]
      refine ⟨?_, rfl⟩
      rw [smA_down _ (by decide)]; simp only [smA]; omega
    · rw [smA_down _ e2, if_neg (by omega)]
      refine ⟨?_, rfl⟩
      rw [smA_up _ (by decide)]; simp only [smA]; omega
theorem back_take (s : ByteArray) (i : Nat) : ∀ d, (backL s (i + d)).take i = backL s i := by
  intro d
  induction d with
  | zero => rw [Nat.add_zero]; exact List.take_of_length_le (by rw [backL_len]; exact Nat.le_refl _)
  | succ d ih => rw [show i + (d + 1) = i + d + 1 by omega, backL_succ, List.take_append_of_le_length (by rw [backL_len]; omega)]; exact ih
theorem rev_dyck {s : ByteArray} (hd : dyck s = true) : dyck (reverseP s) = true := by
  have h16 := dyck_size hd
  have hd2 := hd
  rw [dyck_short h16] at hd2
  obtain ⟨hud, hsum, hpre⟩ := df_pref _ _ hd2
  unfold reverseP
  rw [if_pos hd]
  have hsz : (⟨(backL s s.size).toArray⟩ : ByteArray).size = s.size := by rw [str_len, backL_len]
  rw [dyck_short (by rw [hsz]; exact h16)]
  show dyckFrom 0 (backL s s.size) = true
  refine df_of _ 0 (back_sm hd s.size (Nat.le_refl _)).2 (fun i hi => ?_) ?_
  · rw [backL_len] at hi
    have h := back_take s i (s.size - i)
    rw [show i + (s.size - i) = s.size by omega] at h
    rw [h, (back_sm hd i hi).1]
    have := hpre (s.size - i)
    omega
  · rw [(back_sm hd s.size (Nat.le_refl _)).1, Nat.sub_self]
    rfl
theorem Tb.down {w : World} {base base' : Nat} {v : Value} {vs : List Value} {ls : List (List Int)} (h : Tb w base v vs ls) (hb : base' ≤ base) : Tb w base' v vs ls :=
  ⟨h.len, ⟨h.own.1, h.own.2.elim .inl fun ⟨g, cap, cur, e, hg, r⟩ => .inr ⟨g, cap, cur, e, Nat.le_trans hb hg, r⟩⟩, fun j hj => ⟨(h.row j hj).1, (h.row j hj).2.elim .inl fun ⟨g, cap, cur, e, hg, r⟩ => .inr ⟨g, cap, cur, e, Nat.le_trans hb hg, r⟩⟩, h.apart⟩
def evP (ls : List (List Int)) : List (List Int) := if tabB ls = true then tabP (reverseP (pathT ls)) else []
def deP (ls : List (List Int)) : List Int := begL ⟨#[117, 100]⟩ (pathT ls) (pathT ls).size
theorem deP_len (ls : List (List Int)) : (deP ls).length ≤ 16 := Nat.le_trans (begL_len _ _ _) (dyck_size (pathT_dyck ls))
theorem rev_size (s : ByteArray) : (reverseP s).size ≤ s.size := by
  unfold reverseP
  split
  · rw [str_len, backL_len]; exact Nat.le_refl _
  · exact Nat.zero_le _
theorem tabP_rows (s : ByteArray) (h : s.size ≤ 16) : (tabP s).length ≤ 2 ∧ tot (tabP s) ≤ 32 := by
  unfold tabP
  split
  · have h1 := plU_len s s.size
    have h2 := plD_len s s.size
    refine ⟨Nat.le_refl _, ?_⟩
    show (plU s s.size).length + ((plD s s.size).length + 0) ≤ 32
    omega
  · exact ⟨Nat.zero_le _, Nat.zero_le _⟩
theorem evP_rows (ls : List (List Int)) : (evP ls).length ≤ 2 ∧ tot (evP ls) ≤ 32 := by
  unfold evP
  split
  · exact tabP_rows _ (Nat.le_trans (rev_size _) (dyck_size (pathT_dyck ls)))
  · exact ⟨Nat.zero_le _, Nat.zero_le _⟩

set_option maxRecDepth 100000 in
set_option maxHeartbeats 1600000 in
theorem evacuateI (v : Value) (ls : List (List Int)) (lo hi : Nat) (w : World) (hv : OwnT w lo hi v ls) (hh : hi ≤ w.heap.size) (hl : ls.length ≤ 1048576) (hr : ∀ j, (ls.getD j []).length ≤ 1048576) :
    Calls Try.prog 20 #[v] w fun e w' => ∃ v vs, e = .returned (.tuple #[v, .bool (tabB ls)]) ∧ Tb w' w.heap.size v vs (evP ls) ∧ Below w.heap.size w w' := by
  have HC := Lib.hid (pathOfTableauI v ls lo hi w hv hh hl hr)
  have hd := pathT_dyck ls
  have h16 := dyck_size hd
  have HRV := Lib.hid (fun w => reversePathI (pathT ls) w (by omega))
  have HTO := Lib.hid (fun w => tableauOfI (reverseP (pathT ls)) w)
  rw [rev_dyck hd] at HTO
  rcases ht : tabB ls with _ | _
  · have HE := Lib.hid (show evP ls = [] from if_neg (by rw [ht]; simp))
    rw [ht] at HC
    clear hv hr hd ht
    go_enter Try.func20, Try.ntmps20
    go_wp2_with fail
    (with_reducible refine HC.out.mono ?_)
    rintro e w1 ⟨rfl, hb⟩
    go_wp2
    go_ret2
    exact ⟨_, _, rfl, by rw [HE.out]; exact Tb.nil _ _, hb⟩
  · have HE := Lib.hid (show evP ls = tabP (reverseP (pathT ls)) from if_pos ht)
    rw [ht] at HC
    clear hv hr hd ht
    generalize pathT ls = s at *
    generalize reverseP s = t at *
    go_enter Try.func20, Try.ntmps20
    go_wp2_with fail
    (with_reducible refine HC.out.mono ?_)
    rintro e w1 ⟨rfl, hb1⟩
    have HB1 := Lib.hid hb1
    have z1 := hb1.size
    clear hb1
    go_wp2_with fail
    (with_reducible refine (HRV.out _).mono ?_)
    rintro e w2 ⟨rfl, hb2⟩
    have HB2 := Lib.hid (HB1.out.trans (hb2.mono z1))
    have z2 := hb2.size
    clear hb2
    go_wp2_with fail
    (with_reducible refine (HTO.out _).mono ?_)
    rintro e w3 ⟨v3, vs3, rfl, htb, hb3⟩
    have HB3 := Lib.hid (HB2.out.trans (hb3.mono (by omega)))
    have HTB := Lib.hid htb
    clear hb3 htb
    go_wp2
    go_ret2
    exact ⟨_, _, rfl, by rw [HE.out]; exact HTB.out.down (by omega), HB3.out⟩

set_option maxRecDepth 100000 in
set_option maxHeartbeats 1600000 in
theorem evacuate (v : Value) (ls : List (List Int)) (lo hi : Nat) (w : World) (hv : OwnT w lo hi v ls) (hh : hi ≤ w.heap.size) (hl : ls.length ≤ 1048576) (hr : ∀ j, (ls.getD j []).length ≤ 1048576) :
    Calls Try.prog 19 #[v] w fun e w' => ∃ v vs, e = .returned (.tuple #[v, .bool (tabB ls)]) ∧ Tb w' w.heap.size v vs (evP ls) ∧ Below w.heap.size w w' := by
  have HC := Lib.hid (pathOfTableau v ls lo hi w hv hh hl hr)
  have hd := pathT_dyck ls
  have h16 := dyck_size hd
  have HRV := Lib.hid (fun w => reversePath (pathT ls) w (by omega))
  have hrs := rev_size (pathT ls)
  have HTO := Lib.hid (fun w => tableauOf (reverseP (pathT ls)) w (by omega))
  rw [rev_dyck hd] at HTO
  rcases ht : tabB ls with _ | _
  · have HE := Lib.hid (show evP ls = [] from if_neg (by rw [ht]; simp))
    rw [ht] at HC
    clear hv hr hd ht
    go_enter Try.func19, Try.ntmps19
    go_wp2_with fail
    (with_reducible refine HC.out.mono ?_)
    rintro e w1 ⟨rfl, hb⟩
    have z1 := hb.size
    go_wp2
    go_ret2
    exact ⟨_, _, rfl, by rw [HE.out]; exact Tb.made _ _ z1, hb.alloc z1 _⟩
  · have HE := Lib.hid (show evP ls = tabP (reverseP (pathT ls)) from if_pos ht)
    rw [ht] at HC
    clear hv hr hd ht
    generalize pathT ls = s at *
    generalize reverseP s = t at *
    go_enter Try.func19, Try.ntmps19
    go_wp2_with fail
    (with_reducible refine HC.out.mono ?_)
    rintro e w1 ⟨rfl, hb1⟩
    have HB1 := Lib.hid hb1
    have z1 := hb1.size
    clear hb1
    go_wp2_with fail
    (with_reducible refine (HRV.out _).mono ?_)
    rintro e w2 ⟨rfl, rfl⟩
    go_wp2_with fail
    (with_reducible refine (HTO.out _).mono ?_)
    rintro e w3 ⟨v3, vs3, rfl, htb, hb3⟩
    have HB3 := Lib.hid (HB1.out.trans (hb3.mono (by omega)))
    have HTB := Lib.hid htb
    clear hb3 htb
    go_wp2
    go_ret2
    exact ⟨_, _, rfl, by rw [HE.out]; exact HTB.out.down (by omega), HB3.out⟩

set_option maxRecDepth 100000 in
set_option maxHeartbeats 1600000 in
theorem descentsTI (v : Value) (ls : List (List Int)) (lo hi : Nat) (w : World) (hv : OwnT w lo hi v ls) (hh : hi ≤ w.heap.size) (hl : ls.length ≤ 1048576) (hr : ∀ j, (ls.getD j []).length ≤ 1048576) :
    Calls Try.prog 22 #[v] w fun e w' => ∃ v, e = .returned v ∧ OwnI w' w.heap.size w'.heap.size v (deP ls) ∧ Below w.heap.size w w' := by
  have HC := Lib.hid (pathOfTableauI v ls lo hi w hv hh hl hr)
  have HBG := Lib.hid (fun w => beginningsOfI ⟨#[117, 100]⟩ (pathT ls) w (pathT_dyck ls))
  have HE := Lib.hid (show deP ls = begL ⟨#[117, 100]⟩ (pathT ls) (pathT ls).size from rfl)
  clear hv hr
  generalize pathT ls = s at *
  go_enter Try.func22, Try.ntmps22
  go_wp2_with fail
  (with_reducible refine HC.out.mono ?_)
  rintro e w1 ⟨rfl, hb1⟩
  have HB1 := Lib.hid hb1
  have z1 := hb1.size
  clear hb1
  go_wp2_with fail
  (with_reducible refine (HBG.out _).mono ?_)
  rintro e w2 ⟨v2, rfl, hown, hb2⟩
  have HO := Lib.hid (OwnI.of_row hown)
  have HB2 := Lib.hid (HB1.out.trans (hb2.mono z1))
  clear hown hb2
  go_wp2
  go_ret
  exact ⟨_, rfl, by rw [HE.out]; exact HO.out.wide z1 (Nat.le_refl _), HB2.out⟩

set_option maxRecDepth 100000 in
set_option maxHeartbeats 1600000 in
theorem descentsT (v : Value) (ls : List (List Int)) (lo hi : Nat) (w : World) (hv : OwnT w lo hi v ls) (hh : hi ≤ w.heap.size) (hl : ls.length ≤ 1048576) (hr : ∀ j, (ls.getD j []).length ≤ 1048576) :
    Calls Try.prog 21 #[v] w fun e w' => ∃ v, e = .returned v ∧ OwnI w' w.heap.size w'.heap.size v (deP ls) ∧ Below w.heap.size w w' := by
  have HBA := Lib.hid ((Below.refl w.heap.size w).alloc (Nat.le_refl _) (.cells #[] 3))
  have HC := Lib.hid (pathOfTableau v ls lo hi (w.alloc (.cells #[] 3)) (hv.keep HBA.out hh) (by simp; omega) hl hr)
  have HE := Lib.hid (show deP ls = begL ⟨#[117, 100]⟩ (pathT ls) (pathT ls).size from rfl)
  have hd := pathT_dyck ls
  have h16 := dyck_size hd
  have HD := Lib.hid hd
  have HNO := Lib.hid (show tabB ls = false → pathT ls = ⟨#[]⟩ from pathT_no)
  clear hv hr hd
  generalize pathT ls = s at *
  go_enter Try.func21, Try.ntmps21
  go_wp2_with fail
  (with_reducible refine HC.out.mono ?_)
  rintro e w1 ⟨rfl, hb1⟩
  have hb1' := HBA.out.trans (hb1.mono (by simp))
  have HB1 := Lib.hid hb1'
  have z1 := hb1'.size
  have HR1 := Lib.hid (show w1.ownsRow w.heap.size 3 1 (.slice (some ⟨w.heap.size, 0, none⟩) 0 0) (begL ⟨#[117, 100]⟩ s 0).length ((begL ⟨#[117, 100]⟩ s 0).map (Value.int .i64)) from row_eq (World.ownsRow_made w #[] 0 (Nat.le_refl _) (Nat.zero_le _) (by simp) : (w.alloc (.cells #[] 3)).ownsRow w.heap.size 3 1 (.slice (some ⟨w.heap.size, 0, none⟩) 0 0) 0 (([] : List Int).map (Value.int .i64))) (fun b hb => by
    have : b = w.heap.size := by simpa [Value.ownBlock] using hb.symm
    subst this
    exact hb1.block _ (by simp)))
  clear hb1 hb1'
  generalize tabB ls = b at *
  have hbt := get_bt s
  go_wp2
  go_loopw [3, 6] (fun st y wr => ∃ k : Nat, (k + 1 ≤ s.size ∨ k = 0) ∧ y = .int .i64 ((k : Int) + 1) ∧ wr.ownsRow w.heap.size 3 1 st (begL ⟨#[117, 100]⟩ s k).length ((begL ⟨#[117, 100]⟩ s k).map (Value.int .i64)) ∧ Below w.heap.size w wr) (fun _ y _ => s.size + 1 - (intOf y).toNat)
  case atStart => exact ⟨0, .inr rfl, rfl, HR1.out, HB1.out⟩
  case round =>
    obtain ⟨k, hk, rfl, hown, hb⟩ := hrel
    have HOWN := Lib.hid hown
    have HB := Lib.hid hb
    have hB := hb.size
    clear hown hb HR1
    by_cases hlt : k + 1 < s.size
    · have hbb : b = true := by
        rcases b with _ | _
        · rw [HNO.out rfl] at hlt; exact absurd hlt (Nat.not_lt_zero _)
        · rfl
      subst hbb
      have hki : (k : Int) + 1 < (s.size : Int) := by omega
      have hk2 : (k : Int) + 1 - 1 = (k : Int) := by omega
      have HT := Lib.hid (hpB_two 117 100 s k (by omega))
      have HST := Lib.hid (show begL ⟨#[117, 100]⟩ s (k + 1) = if hpB ⟨#[117, 100]⟩ s k = true then begL ⟨#[117, 100]⟩ s k ++ [(k : Int) + 1] else begL ⟨#[117, 100]⟩ s k from rfl)
      have hle := begL_len ⟨#[117, 100]⟩ s k
      by_cases e1 : bt s k = 117
      · have b1 : (bt s k == 117) = true := by simp [e1]
        by_cases e2 : bt s (k + 1) = 100
        · have b2 : (bt s (k + 1) == 100) = true := by simp [e2]
          have HE := Lib.hid (HST.out.trans (if_pos (by rw [HT.out, decide_eq_true (show bt s k = ((117 : UInt8).toNat : Int) from e1), decide_eq_true hlt, decide_eq_true (show bt s (k + 1) = ((100 : UInt8).toNat : Int) from e2)]; rfl)))
          clear HST HT e1 e2
          generalize begL ⟨#[117, 100]⟩ s k = L at *
          go_wp2_with (at_builtin; go_must (refine wpAppInt rfl _ _ rfl w.heap.size u3 _ L rfl (World.ownsRow.alloc HOWN.out _) wr.heap.size _ _ rfl (cell_one _ _ _) (by omega) (by simp; omega) ?_); intro v' w' hown' hg')
          go_roundw
          case rel => exact ⟨k + 1, .inl (by omega), by simp, by rw [HE.out]; simpa using hown', (HB.out.alloc (by omega) _).grown hg' (by simp; omega) (fun q hq => (World.ownsRow.lt HOWN.out q hq).1)⟩
          case measure => simp [intOf]; omega
        · have b2 : (bt s (k + 1) == 100) = false := by simp [e2]
          have HE := Lib.hid (HST.out.trans (if_neg (by rw [HT.out, decide_eq_false (show ¬ bt s (k + 1) = ((100 : UInt8).toNat : Int) from e2)]; simp)))
          clear HST HT e1 e2
          generalize begL ⟨#[117, 100]⟩ s k = L at *
          go_wp2
          go_roundw
          case rel => exact ⟨k + 1, .inl (by omega), by simp, by rw [HE.out]; exact HOWN.out, HB.out⟩
          case measure => simp [intOf]; omega
      · have b1 : (bt s k == 117) = false := by simp [e1]
        have HE := Lib.hid (HST.out.trans (if_neg (by rw [HT.out, decide_eq_false (show ¬ bt s k = ((117 : UInt8).toNat : Int) from e1)]; simp)))
        clear HST HT e1
        generalize begL ⟨#[117, 100]⟩ s k = L at *
        go_wp2
        go_roundw
        case rel => exact ⟨k + 1, .inl (by omega), by simp, by rw [HE.out]; exact HOWN.out, HB.out⟩
        case measure => simp [intOf]; omega
    · have hki : ¬ (k : Int) + 1 < (s.size : Int) := by omega
      have HF := Lib.hid (show begL ⟨#[117, 100]⟩ s s.size = begL ⟨#[117, 100]⟩ s k from by
        rcases hk with hk | hk
        · obtain hz : s.size = k + 1 := by omega
          rw [hz]
          exact if_neg (by rw [hpB_two 117 100 s k (by omega), decide_eq_false hlt]; simp)
        · subst hk
          rcases Nat.eq_zero_or_pos s.size with h0 | h0
          · rw [h0]
          · obtain hz : s.size = 0 + 1 := by omega
            rw [hz]
            exact if_neg (by rw [hpB_two 117 100 s 0 (by omega), decide_eq_false hlt]; simp))
      have HOW := Lib.hid (OwnI.of_row HOWN.out)
      go_wp2
      go_ret
      exact ⟨_, rfl, by rw [HE.out, HF.out]; exact HOW.out, HB.out⟩

end Go.Proofs.Ytefbbkogfoongaa
