/- The program's MultiplyPolynomials: factors and terms. -/
import Derived.Test.YtpelicepgeoopaaMul14
import Derived.Test.YtpelicepgeoopaaAdd14I
namespace Go.Proofs.Ytpelicepgeoopaa
open Go.ChangeShapes Go.WideShapes Go.ChangeAt Go.RowKit
set_option linter.unusedVariables false

set_option maxRecDepth 100000 in
theorem isFactorI (A : Option Addr) (xs : List Int) (cap lo hi : Nat) (w : World) (ho : OwnI w lo hi (.slice A xs.length cap) xs) (hhi : hi ≤ w.heap.size) (hcap : xs.length ≤ cap) (hl : xs.length ≤ 1099511627776) :
    Calls Try.prog 41 #[.slice A xs.length cap] w fun e w' => e = .returned (.bool (facB xs)) ∧ Below w.heap.size w w' := by
  have HP := Lib.hid (isPolynomialI A xs cap lo hi w ho hhi hcap hl)
  have HW := Lib.hid (fun W (h : Below w.heap.size w W) => areWithin 100000 A xs cap lo hi W (by omega) (by omega) (ho.keep h hhi) (Nat.le_trans hhi h.size) hl)
  rcases hb : plyB xs with _ | _
  · have HF := Lib.hid (show facB xs = false by unfold facB; rw [hb]; simp)
    rw [hb] at HP
    clear hb ho
    go_enter Try.func41, Try.ntmps41
    go_wp2_with fail
    (with_reducible refine HP.out.mono ?_)
    rintro e w1 ⟨rfl, hb1⟩
    go_wp2
    go_ret
    exact ⟨ret_bool HF.out.symm, hb1⟩
  · have HF := Lib.hid (show facB xs = inB 100000 xs by unfold facB; rw [hb]; simp)
    rw [hb] at HP
    generalize inB 100000 xs = r at *
    clear hb ho
    go_enter Try.func41, Try.ntmps41
    go_wp2_with fail
    (with_reducible refine HP.out.mono ?_)
    rintro e w1 ⟨rfl, hb1⟩
    have HB1 := Lib.hid hb1
    clear hb1
    go_wp2_with fail
    (with_reducible refine (HW.out _ HB1.out).mono ?_)
    rintro e w2 ⟨rfl, hb2⟩
    have HB2 := Lib.hid (HB1.out.trans (hb2.mono HB1.out.size))
    clear hb2
    go_wp2
    go_ret
    exact ⟨ret_bool HF.out.symm, HB2.out⟩

/-- A number times a power, times b. -/
def tmF (c : Int) (p : Nat) (b : List Int) (j : Nat) : Nat → Int := fun q => if p ≤ q ∧ q < p + j then c * b.getD (q - p) 0 else 0
def tmL (c : Int) (p : Nat) (b : List Int) : List Int := (List.range (p + b.length)).map (tmF c p b b.length)
theorem tmL_len (c : Int) (p : Nat) (b : List Int) : (tmL c p b).length = p + b.length := by simp [tmL]
theorem tmL_at (c : Int) (p : Nat) (b : List Int) {q : Nat} (h : q < p + b.length) : (tmL c p b).getD q 0 = tmF c p b b.length q := by simp [tmL, List.getD, h]
theorem tmF_zero (c : Int) (p : Nat) (b : List Int) : tmF c p b 0 = fun _ => 0 := by funext q; unfold tmF; rw [if_neg (by omega)]
theorem tmF_succ (c : Int) (p : Nat) (b : List Int) (j : Nat) : tmF c p b (j + 1) = upd (tmF c p b j) (p + j) (c * b.getD j 0) := by
  funext q
  by_cases e : q = p + j
  · subst e; rw [upd_at]; unfold tmF; rw [if_pos (by omega), show p + j - p = j by omega]
  · rw [upd_ne _ _ e]
    unfold tmF
    by_cases h2 : p ≤ q ∧ q < p + j
    · rw [if_pos h2, if_pos (by omega)]
    · rw [if_neg h2, if_neg (by omega)]
theorem box2 (w : World) (a b : Value) (t : TypeId) : (w.alloc (.cells #[a, b] t)).cell? ⟨w.heap.size, 0, none⟩ = some a ∧ (w.alloc (.cells #[a, b] t)).cell? ⟨w.heap.size, 1, none⟩ = some b := by
  have h : (w.alloc (.cells #[a, b] t)).heap[w.heap.size]? = some (.cells #[a, b] t) := by show (w.heap.push _)[w.heap.size]? = _; exact Array.getElem?_push_size
  exact ⟨by unfold World.cell?; rw [h]; rfl, by unfold World.cell?; rw [h]; rfl⟩

set_option maxRecDepth 100000 in
set_option maxHeartbeats 1600000 in
theorem termTimes (c : Int) (p : Nat) (A : Option Addr) (ys : List Int) (cap lo hi : Nat) (w : World) (hu : OwnI w lo hi (.slice A ys.length cap) ys) (hhi : hi ≤ w.heap.size) (hp : p ≤ 100) (hl : ys.length ≤ 100) (hc0 : -100000 ≤ c) (hc1 : c ≤ 100000) (hb : inB 100000 ys = true) :
    Calls Try.prog 32 #[.agg #[.int .i64 c, .int .i64 p], .slice A ys.length cap] w (AnsI (tmL c p ys) w) := by
  have HBY := Lib.hid (fun q => inB_at hb (by omega) q)
  obtain ⟨M, hM⟩ : ∃ M : Nat, M = p + ys.length := ⟨_, rfl⟩
  have HM := Lib.hid hM
  have HX := Lib.hid (box2 w (.int .i64 c) (.int .i64 p) 45)
  have HB1 := Lib.hid ((Below.refl w.heap.size w).alloc (Nat.le_refl _) (.cells #[.int .i64 c, .int .i64 p] 45))
  have HU := Lib.hid (hu.keep HB1.out hhi)
  have hsz : (w.alloc (.cells #[.int .i64 c, .int .i64 p] 45)).heap.size = w.heap.size + 1 := by show (w.heap.push _).size = _; simp
  have HLEN := Lib.hid (show (tmL c p ys).length = M by rw [tmL_len, hM])
  have HAT := Lib.hid (fun q (h : q < M) => tmL_at c p ys (q := q) (by omega))
  have hMi : (p : Int) + (ys.length : Int) = (M : Int) := by omega
  have hMw : IntKind.i64.wrap (M : Int) = (M : Int) := IntWalk.i64_in _ (by omega)
  obtain ⟨i0, hi0, hz0, hz1, hzb⟩ := info_parts info3
  have hMl : M ≤ 200 := by omega
  obtain ⟨hx0, hx1⟩ := HX.out
  generalize hW : w.alloc (.cells #[.int .i64 c, .int .i64 p] 45) = W at *
  have HSZ := Lib.hid hsz
  have hszl : w.heap.size ≤ W.heap.size := by omega
  clear hu hb hM hsz
  go_enter Try.func32, Try.ntmps32
  go_wp2_with (at_make; go_must (refine wpList_make_full _ rfl _ _ 22 rfl W.heap.size 3 i0 (.int .i64 0) 1 Try.underlying22 hi0 hz0 hz1 .i64 .i64 (M : Int) (M : Int) M rfl rfl rfl rfl (by rw [hzb]; omega) (by unfold maxLen; omega) (Nat.le_refl _) ?_); intro w2 hown1 hgrow1)
  have HT0 := Lib.hid (show TabI w2 W.heap.size M (tmF c p ys 0) by rw [tmF_zero]; exact TabI.made hown1)
  have HB2 := Lib.hid ((Below.refl W.heap.size W).grown hgrow1 (Nat.le_refl _) (fun k hk => by cases hk))
  clear hown1 hgrow1 hx0 hx1
  go_wp2
  go_loopw [16] (fun y wr => ∃ j : Nat, j ≤ ys.length ∧ y = .int .i64 j ∧ TabI wr W.heap.size M (tmF c p ys j) ∧ Below W.heap.size W wr) (fun y _ => ys.length - (intOf y).toNat)
  case atStart => exact ⟨0, Nat.zero_le _, rfl, HT0.out, HB2.out⟩
  case round =>
    obtain ⟨j, hj, rfl, ht, hb⟩ := hrel
    have HT := Lib.hid ht
    have HB3 := Lib.hid hb
    clear ht hb HT0 HB2
    by_cases hlt : j < ys.length
    · have hji : (j : Int) < (ys.length : Int) := by omega
      have hx0 := (HB3.out.cell (p := ⟨w.heap.size, 0, none⟩) (by show w.heap.size < _; have := HSZ.out; omega)).trans HX.out.1
      have hx1 := (HB3.out.cell (p := ⟨w.heap.size, 1, none⟩) (by show w.heap.size < _; have := HSZ.out; omega)).trans HX.out.2
      obtain ⟨g2, p2, e2, -, -, hc2, -⟩ := (HU.out.keep HB3.out (by omega)).cell hlt
      simp only [Value.slice.injEq] at e2
      obtain ⟨rfl, -, rfl⟩ := e2
      have HNX := Lib.hid (tmF_succ c p ys j)
      obtain ⟨t, ht⟩ : ∃ t, t = p + j := ⟨_, rfl⟩
      rw [← ht] at HNX
      obtain ⟨hc3, hf3⟩ := HT.out.cell (j := t) (by have := HM.out; omega)
      generalize tmF c p ys j t = y0 at hc3
      have hby := HBY.out j
      generalize ys.getD j 0 = z at *
      have hxz := mul_small hc0 hc1 hby.1 hby.2
      generalize hp' : c * z = q at *
      have v1 : IntKind.i64.wrap q = q := IntWalk.i64_in _ (by omega)
      have hti : (p : Int) + (j : Int) = (t : Int) := by omega
      have v2 : IntKind.i64.wrap (t : Int) = (t : Int) := IntWalk.i64_in _ (by have := HM.out; omega)
      have htN : t < M := by have := HM.out; omega
      have htM : (t : Int) < (M : Int) := by omega
      clear ht
      go_wp2
      exact ⟨⟨j + 1, by omega, by simp, by rw [HNX.out]; exact HT.out.set htN _, HB3.out.setCell (p := ⟨W.heap.size, t, none⟩) (Nat.le_refl _) _⟩, by simp [intOf]; omega⟩
    · obtain rfl : j = ys.length := by omega
      have HOW := Lib.hid (show OwnI wr w.heap.size wr.heap.size (.slice (some ⟨W.heap.size, 0, none⟩) M M) (tmL c p ys) from OwnI.of_tab HT.out HLEN.out (Nat.le_refl _) HAT.out hszl HT.out.lt)
      have HBF := Lib.hid (HB1.out.trans (HB3.out.mono hszl))
      go_wp2
      go_ret
      exact ⟨_, rfl, HOW.out, HBF.out⟩

end Go.Proofs.Ytpelicepgeoopaa
