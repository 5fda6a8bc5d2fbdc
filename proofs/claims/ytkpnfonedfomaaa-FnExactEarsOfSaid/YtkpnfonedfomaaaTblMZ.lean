/- The marks of a table of ints. -/
import Derived.Test.YtkpnfonedfomaaaTblLZ
import Derived.Test.YtkpnfonedfomaaaMark2
namespace Go.Proofs.Ytkpnfonedfomaaa
open Go.ChangeShapes Go.WideShapes Go.ChangeAt Go.RowKit
set_option linter.unusedVariables false

def loB (u : Value) : Nat := match u.ownBlock with | none => 0 | some g => g
def hiB (u : Value) : Nat := match u.ownBlock with | none => 0 | some g => g + 1
theorem row_own {w : World} {base n : Nat} {u : Value} {xs : List Int} (h : w.ownsRow base 3 1 u n (xs.map (Value.int .i64))) : OwnI w (loB u) (hiB u) u xs := by
  obtain ⟨A, cap, rfl, h'⟩ := OwnI.of_row h
  refine ⟨A, cap, rfl, ?_⟩
  rcases h' with h0 | ⟨g, C, -, -, rfl, hh, hc⟩
  · exact .inl h0
  · exact .inr ⟨g, C, Nat.le_refl _, Nat.lt_succ_self _, rfl, hh, hc⟩
theorem apart_lohi {a b : Value} (h : a.ownBlock = none ∨ a.ownBlock ≠ b.ownBlock) : hiB a ≤ loB b ∨ hiB b ≤ loB a := by
  unfold hiB loB
  rcases ha : a.ownBlock with _ | x <;> rcases hb : b.ownBlock with _ | y <;> simp only []
  · omega
  · omega
  · omega
  · rw [ha, hb] at h
    have : x ≠ y := by
      rcases h with h | h
      · cases h
      · exact fun e => h (by rw [e])
    omega
theorem own_wide {w : World} {u : Value} {xs : List Int} {base H : Nat} (h : OwnI w (loB u) (hiB u) u xs) (hlt : ∀ b, u.ownBlock = some b → base ≤ b ∧ b < H) : OwnI w base H u xs := by
  obtain ⟨A, cap, e, h'⟩ := h
  refine ⟨A, cap, e, ?_⟩
  rcases h' with h0 | ⟨g, C, h1, h2, rfl, hh, hc⟩
  · exact .inl h0
  · have := hlt g (by rw [e]; rfl)
    exact .inr ⟨g, C, this.1, this.2, rfl, hh, hc⟩

theorem low_lohi {u : Value} {base : Nat} (h : ∀ b, u.ownBlock = some b → base ≤ b) (k : Nat) (hk : k < base) : k < loB u ∨ hiB u ≤ k := by
  unfold hiB loB
  rcases hu : u.ownBlock with _ | x <;> simp only []
  · omega
  · have := h x hu
    omega
def mkA (k : Int) (j : Nat) (ls : List (List Int)) (m : Nat) : List Int := if m < j then marks (k + (tot (ls.take m) : Int)) (ls.getD m []).length else ls.getD m []

set_option maxRecDepth 100000 in
set_option maxHeartbeats 1600000 in
theorem markSS (v : Value) (vs : List Value) (base : Nat) (ls : List (List Int)) (k : Int) (w : World) (hv : Tb w base v vs ls) (hbase : base ≤ w.heap.size) (hl : ls.length ≤ 1099511627776) (ht : tot ls ≤ 1099511627) (hk0 : 0 ≤ k) (hk : k ≤ 1099511627) :
    Calls Try.prog 16 #[v, .int .i64 k] w fun e w' => e = .returned (.int .i64 (k + tot ls)) ∧ OwnT w' base w.heap.size v (mkT k ls) ∧ Below base w w' := by
  have HV := Lib.hid hv
  obtain ⟨A, cap, rfl⟩ := hv.form
  have HR0 := Lib.hid (fun m (hm : m < ls.length) => row_own (HV.out.row m hm))
  have HC0 := Lib.hid (fun m (hm : m < ls.length) => HV.out.cell hm)
  clear hv
  go_enter Try.func16, Try.ntmps16
  go_wp2
  go_loopw [1, 5] (fun x y wr => ∃ j : Nat, j ≤ ls.length ∧ y = .int .i64 j ∧ x = .int .i64 (k + (tot (ls.take j) : Int)) ∧ Below base w wr ∧ (∀ m, m < ls.length → ∃ o, A = some ⟨o, 0, none⟩ ∧ base ≤ o ∧ o < w.heap.size ∧ wr.cell? ⟨o, m, none⟩ = some (vs.getD m nilV)) ∧ (∀ m, m < ls.length → OwnI wr (loB (vs.getD m nilV)) (hiB (vs.getD m nilV)) (vs.getD m nilV) (mkA k j ls m))) (fun _ y _ => ls.length - (intOf y).toNat)
  case atStart =>
    refine ⟨0, Nat.zero_le _, rfl, by simp [tot], Below.refl _ _, fun m hm => ?_, fun m hm => ?_⟩
    · obtain ⟨o, c, e, h1, h2, h3, -⟩ := HC0.out m hm
      simp only [Value.slice.injEq] at e
      exact ⟨o, e.1, h1, h2, h3⟩
    · rw [mkA, if_neg (Nat.not_lt_zero _)]; exact HR0.out m hm
  case round =>
    obtain ⟨j, hj, rfl, rfl, hb, hcs, hrs⟩ := hrel
    have HB := Lib.hid hb
    have HCS := Lib.hid hcs
    have HRS := Lib.hid hrs
    have hB := hb.size
    clear hb hcs hrs HR0 HC0
    by_cases hlt : j < ls.length
    · obtain ⟨o1, rfl, ho1, ho2, hc1⟩ := HCS.out j hlt
      have hrj := HRS.out j hlt
      rw [mkA, if_neg (Nat.lt_irrefl _)] at hrj
      have hji : (j : Int) < (ls.length : Int) := by omega
      have HTJ := Lib.hid (tot_take ls j hlt)
      have h3 := tot_le ls j
      have h4 := tot_le ls (j + 1)
      rw [HTJ.out] at h4
      have HAP := Lib.hid (fun m (hm : m < ls.length) (e : m ≠ j) => apart_lohi (HV.out.apart m j hm hlt e))
      have HAO := Lib.hid (apart_lohi (HV.out.ne hlt))
      have HMK := Lib.hid (show mkA k (j + 1) ls j = marks (k + (tot (ls.take j) : Int)) (ls.getD j []).length by rw [mkA, if_pos (Nat.lt_succ_self _)])
      generalize tot (ls.take j) = t at *
      generalize ls.getD j [] = l at *
      have HRJ := Lib.hid (show ∃ r, vs.getD j nilV = r from ⟨_, rfl⟩)
      obtain ⟨r, hr⟩ := HRJ.out
      have HLR := Lib.hid (fun b (hb : (vs.getD j nilV).ownBlock = some b) => (HV.out.lt hlt hb).1)
      rw [hr] at hc1 hrj HAP HAO HLR
      have HRV := Lib.hid hr
      clear hr HRJ
      have HE := Lib.hid (markO r (loB r) (hiB r) l (k + (t : Int)) wr hrj (by omega) (by omega) (by omega))
      clear hrj
      go_wp2_with fail
      (with_reducible refine HE.out.mono ?_)
      rintro e w' ⟨rfl, ho, ha⟩
      have HO := Lib.hid ho
      have HA := Lib.hid ha
      clear ho ha
      go_wp2
      refine ⟨⟨j + 1, by omega, by simp, by rw [HTJ.out]; congr 1; omega, ?_, fun m hm => ?_, fun m hm => ?_⟩, by simp [intOf]; omega⟩
      · exact HB.out.trans ⟨HA.out.os, HA.out.tape, HA.out.output, HA.out.size, fun q hq => HA.out.block q (low_lohi HLR.out q hq)⟩
      · obtain ⟨o, e, g1, g2, g3⟩ := HCS.out m hm
        simp only [Option.some.injEq, Addr.mk.injEq] at e
        obtain ⟨rfl, -⟩ := e
        refine ⟨_, rfl, g1, g2, (World.cell?_of_block (a := ⟨_, m, none⟩) (HA.out.block _ ?_)).trans g3⟩
        have h := HAO.out
        have e1 : ∀ x n c, hiB (.slice (some ⟨x, 0, none⟩) n c) = x + 1 := fun _ _ _ => rfl
        have e2 : ∀ x n c, loB (.slice (some ⟨x, 0, none⟩) n c) = x := fun _ _ _ => rfl
        rw [e1, e2] at h
        exact h.elim (fun h => .inl h) (fun h => .inr h)
      · by_cases e : m = j
        · subst e
          rw [HRV.out, HMK.out]; exact HO.out
        · have e2 : mkA k (j + 1) ls m = mkA k j ls m := by
            unfold mkA
            by_cases h : m < j
            · rw [if_pos h, if_pos (by omega)]
            · rw [if_neg h, if_neg (by omega)]
          rw [e2]
          exact (HRS.out m hm).apart HA.out (HAP.out m hm e)
    · obtain rfl : j = ls.length := by omega
      go_wp2
      go_ret
      refine ⟨by rw [List.take_length]; rfl, ⟨A, cap, by rw [mkT_len], fun m hm => ?_⟩, HB.out⟩
      rw [mkT_len] at hm
      obtain ⟨o, e, g1, g2, g3⟩ := HCS.out m hm
      have h := HRS.out m hm
      rw [mkA, if_pos hm] at h
      exact ⟨o, _, e, g1, g2, g3, by rw [mkT_at _ _ _ hm]; exact own_wide h (fun b hb => HV.out.lt hm hb)⟩

end Go.Proofs.Ytkpnfonedfomaaa
