/- The program's popWhile, with both of SortOnce's closures. -/
import Derived.Test.YtamepojgpeblpaaStk31
namespace Go.Proofs.Ytamepojgpeblpaa
open Go.ChangeShapes Go.WideShapes Go.ChangeAt Go.RowKit
set_option linter.unusedVariables false

theorem pw_row {w wr w2 : World} {b : Nat} {u : Value} {l : List Int} (hb : b < w.heap.size) (hrow : RowN wr w.heap.size u l) (hpop : Kx b none wr w2) : RowN w2 w.heap.size u l :=
  hrow.keep fun g h1 h2 _ => hpop.block g h2 (by omega) (by simp)
theorem pw_step {w wr w2 w3 : World} {B b : Nat} {v v2 u : Value} {S l2 l : List Int} {o : Obj} (h0 : St w B b v S) (hk : Kx b none w wr) (hpop : Kx b none wr w2) (hst : St w2 B b v2 l2) (ho : v2.ownBlock = v.ownBlock)
    (hrow : RowN wr w.heap.size u l) (hg : (w2.alloc o).grownBy w3 u.ownBlock) : St w3 B b v2 l2 ∧ Kx b none w w3 := by
  have hz := hg.size
  simp only [World.size_alloc] at hz
  have z1 := hk.below.size
  have z2 := hpop.below.size
  have hb := h0.lt
  have hur : ∀ i, i < w.heap.size → some i ≠ u.ownBlock := fun i hi e => by have := (World.ownsRow.lt hrow i e.symm).1; omega
  have hblk : ∀ i, i < w.heap.size → w3.heap[i]? = w2.heap[i]? := fun i hi => (hg.block i (by simp; omega) (hur i hi)).trans (Below.heap_alloc _ _ _ (by omega))
  refine ⟨hst.keep (by omega) (hblk b hb) fun g e => hblk g ?_, ⟨?_, fun i hi hne hn => ?_⟩⟩
  · rw [ho] at e; exact (World.ownsRow.lt h0.row g e).2
  · exact hk.below.trans (hpop.below.trans ⟨hg.os, hg.tape, hg.output, by omega, fun k hk => absurd hk (Nat.not_lt_zero _)⟩)
  · exact (hblk i hi).trans ((hpop.block i (by omega) hne hn).trans (hk.block i hi hne hn))
theorem less1 (z x : Int) (c : Nat) (w : World) (hc : w.cell? ⟨c, 0, none⟩ = some (.int .i64 x)) : Calls Try.prog 46 #[.int .i64 z, .pointer (some ⟨c, 0, none⟩)] w fun e w' => e = .returned (.bool (decide (z < x))) ∧ w = w' := by
  go_enter Try.func46, Try.ntmps46
  go_wp2
  go_ret
  exact ⟨rfl, rfl⟩
theorem less2 (z : Int) (w : World) : Calls Try.prog 49 #[.int .i64 z] w fun e w' => e = .returned (.bool true) ∧ w = w' := by
  go_enter Try.func49, Try.ntmps49
  go_wp2
  go_ret
  exact ⟨rfl, rfl⟩
theorem still31 {P : Program} {f : Nat} {args : Array Value} {w : World} {n : Nat} {v : Value} (h : Calls P f args (w.drewN n) fun e w' => e = .returned v ∧ w.drewN n = w') : Calls P f args (w.drewN n) fun e w' => e = .returned v ∧ ∃ m, w' = w.drewN m :=
  h.mono fun e w' h => ⟨h.1, n, h.2.symm⟩
theorem rtake_len (S : List Int) (j : Nat) (h : j ≤ S.length) : (S.reverse.take j).length = j := by rw [List.length_take, List.length_reverse]; omega

set_option maxRecDepth 100000 in
set_option maxHeartbeats 3200000 in
theorem popWhile1I (b B : Nat) (v : Value) (S : List Int) (x : Int) (c : Nat) (w : World) (h : St w B b v S) (hc : w.cell? ⟨c, 0, none⟩ = some (.int .i64 x)) (hcb : c ≠ b) (hclt : c < w.heap.size) (hl : S.length ≤ 1048576) (hB : B ≤ w.heap.size) :
    Calls Try.prog 47 #[.pointer (some ⟨b, 0, none⟩), .func (.func 46) #[] #[.pointer (some ⟨c, 0, none⟩)]] w fun e w' => ∃ it v', e = .returned it ∧ RowN w' w.heap.size it (S.reverse.take (tkN S x)) ∧ St w' B b v' (S.take (S.length - (tkN S x))) ∧ v'.ownBlock = v.ownBlock ∧ Kx b none w w' := by
  have H0 := Lib.hid h
  have HCC := Lib.hid (fun wr (hk : Kx b none w wr) => (World.cell?_of_block (a := ⟨c, 0, none⟩) (hk.block c hclt hcb (by simp))).trans hc)
  have htl := tk_le S x
  have HLT := Lib.hid (fun j => @tk_lt S x j)
  have HEN := Lib.hid (@tk_end S x)
  generalize tkN S x = K at *
  clear h hc hcb
  go_enter Try.func47, Try.ntmps47
  go_wp2
  go_loopw [5] (fun x5 wr => ∃ (j : Nat) (vv : Value), j ≤ K ∧ RowN wr w.heap.size x5 (S.reverse.take j) ∧ St wr B b vv (S.take (S.length - j)) ∧ vv.ownBlock = v.ownBlock ∧ Kx b none w wr) (fun x5 _ => S.length - vLen x5)
  case atStart => exact ⟨0, v, Nat.zero_le _, ⟨rfl, .inl ⟨rfl, rfl⟩⟩, by simpa using H0.out, rfl, Kx.refl _ _ _⟩
  case round =>
    obtain ⟨j, vv, hj, hr, hst, hown, hk⟩ := hrel
    have HR := Lib.hid hr
    have HST := Lib.hid hst
    have HK := Lib.hid hk
    have hzw := hk.below.size
    have hbc := hst.cell
    have hll : (S.take (S.length - j)).length = S.length - j := by rw [List.length_take]; omega
    have hrl := rtake_len S j (by omega)
    have hrw := fun k (e : some k = u5.ownBlock) => (World.ownsRow.lt hr k e.symm).1
    have HRW := Lib.hid hrw
    have HOWN := Lib.hid hown
    have hcx := HCC.out _ hk
    obtain ⟨A5, c5, e5, -⟩ := hr.form
    have HE5 := Lib.hid e5
    clear e5
    clear hr hst hk hrw hown
    obtain ⟨A2, cap, e2, hA⟩ := HST.out.row.form
    subst e2
    by_cases hjS : j < S.length
    · obtain ⟨m1, m2, m3, m4⟩ := sr_mid [] hjS
      rw [List.nil_append, List.nil_append] at m4
      obtain ⟨g2, rfl, hg2, hg3, hcp⟩ := hA (by omega)
      obtain ⟨hc2, hf2⟩ := HST.out.row.cell (j := S.length - j - 1) (by omega)
      rw [m2] at hc2
      have HM4 := Lib.hid m4
      have HM3 := Lib.hid m3
      have HM2 := Lib.hid m2
      have hz1 := fun h : j < K => (HLT.out j h).2
      have hz2 := fun h : K = j => HEN.out (by omega)
      have hz3 : K = j → x ≤ S.getD (S.length - 1 - j) 0 := fun h => by have := hz2 h; rw [h] at this; exact this
      have HZ3 := Lib.hid hz3
      have HZ1 := Lib.hid hz1
      clear hz1 hz2 hz3
      clear m2 m3 m4 hA
      generalize S.getD (S.length - 1 - j) 0 = z at *
      have HCALL := Lib.hid (fun n => less1 z x c (wr.drewN n) hcx)
      generalize hT : S.take (S.length - j) = T at *
      have HTT := Lib.hid hT
      clear hT
      obtain ⟨l, hl2⟩ : ∃ l, l = S.length - j - 1 := ⟨_, rfl⟩
      have hm : T.length = l + 1 := by omega
      rw [← hl2] at hc2 hf2
      have HPOP := Lib.hid (fun n => popI b B _ T z (wr.drewN n) (HST.out.drewN n) (by omega) (by rw [hm, show l + 1 - 1 = S.length - j - 1 by omega]; exact HM2.out) (by omega))
      rw [hm] at hbc HST HPOP HOWN
      have hli : ((l + 1 : Nat) : Int) - 1 = (l : Int) := by omega
      have hlL : (l : Int) < ((l + 1 : Nat) : Int) := by omega
      have hlc : (l : Int) ≤ (cap : Int) := by omega
      have hpos : (0 : Int) < ((l + 1 : Nat) : Int) := by omega
      have HL := Lib.hid hl2
      clear hl2
      by_cases hjk : j < K
      · have hzx := HZ1.out hjk
        go_wp2
        go_quiet ((with_reducible exact still31 (HCALL.out _)))
        go_wp2_with fail
        (with_reducible refine (HPOP.out nq).mono ?_)
        rintro e w2 ⟨rfl, v2, hst2, ho2, hk2⟩
        have HR2 := Lib.hid (pw_row H0.out.lt (show RowN (wr.drewN nq) w.heap.size u5 _ from HR.out) hk2)
        have HST2 := Lib.hid hst2
        have HO2 := Lib.hid (ho2.trans HOWN.out)
        have HK2 := Lib.hid hk2
        have hzw2 := hk2.below.size
        have hzw3 : w.heap.size ≤ w2.heap.size := Nat.le_trans hzw hzw2
        clear hst2 ho2 hk2 hzw2
        go_wp2_with (at_builtin; go_must (refine wpAppInt rfl _ _ rfl w.heap.size u5 _ (S.reverse.take j) rfl (HR2.out.allocN _) _ _ z rfl (cell_one w2 _ _) (by omega) (by simp; omega) ?_); intro v' w' hown' hg')
        obtain ⟨q1, q2⟩ := pw_step H0.out (HK.out.drewN nq) HK2.out HST2.out HO2.out (show RowN (wr.drewN nq) w.heap.size u5 _ from HR.out) hg'
        have hv' := RowN.of_app hown'
        obtain ⟨A6, c6, e6, -⟩ := hv'.form
        refine ⟨⟨j + 1, v2, by omega, by rw [HM4.out]; exact hv', by rw [← HM3.out]; exact q1, HO2.out, q2⟩, ?_⟩
        rw [e6, HE5.out]
        simp only [vLen, List.length_append, List.length_singleton]
        omega
      · obtain rfl : K = j := by omega
        have hzx : ¬ z < x := by have := HZ3.out rfl; omega
        have hzd : decide (z < x) = false := decide_eq_false hzx
        go_wp2
        go_quiet ((with_reducible exact still31 (HCALL.out _)))
        go_wp2
        go_ret
        exact ⟨_, _, rfl, HR.out, by rw [HTT.out]; exact HST.out.drewN nq, HOWN.out, HK.out.drewN nq⟩
    · obtain rfl : K = j := by omega
      have hl0 : (S.take (S.length - K)).length = 0 := by omega
      rw [hl0] at HST hbc HOWN
      generalize hT : S.take (S.length - K) = T at *
      have HTT := Lib.hid hT
      have HL0 := Lib.hid hl0
      clear hT hl0 hll
      go_wp2
      go_quiet (fail)
      go_wp2
      go_ret
      exact ⟨_, _, rfl, HR.out, by rw [HTT.out]; exact HST.out.drewN nq, HOWN.out, HK.out.drewN nq⟩

set_option maxRecDepth 100000 in
set_option maxHeartbeats 3200000 in
theorem popWhile2I (b B : Nat) (v : Value) (S : List Int) (w : World) (h : St w B b v S) (hl : S.length ≤ 1048576) (hB : B ≤ w.heap.size) :
    Calls Try.prog 47 #[.pointer (some ⟨b, 0, none⟩), .func (.func 49) #[] #[]] w fun e w' => ∃ it v', e = .returned it ∧ RowN w' w.heap.size it (S.reverse.take S.length) ∧ St w' B b v' (S.take (S.length - S.length)) ∧ v'.ownBlock = v.ownBlock ∧ Kx b none w w' := by
  have H0 := Lib.hid h
  obtain ⟨K, hK⟩ : ∃ K, K = S.length := ⟨_, rfl⟩
  have htl : K ≤ S.length := by omega
  have HKS := Lib.hid hK
  clear h
  go_enter Try.func47, Try.ntmps47
  go_wp2
  go_loopw [5] (fun x5 wr => ∃ (j : Nat) (vv : Value), j ≤ K ∧ RowN wr w.heap.size x5 (S.reverse.take j) ∧ St wr B b vv (S.take (S.length - j)) ∧ vv.ownBlock = v.ownBlock ∧ Kx b none w wr) (fun x5 _ => S.length - vLen x5)
  case atStart => exact ⟨0, v, Nat.zero_le _, ⟨rfl, .inl ⟨rfl, rfl⟩⟩, by simpa using H0.out, rfl, Kx.refl _ _ _⟩
  case round =>
    obtain ⟨j, vv, hj, hr, hst, hown, hk⟩ := hrel
    have HR := Lib.hid hr
    have HST := Lib.hid hst
    have HK := Lib.hid hk
    have hzw := hk.below.size
    have hbc := hst.cell
    have hll : (S.take (S.length - j)).length = S.length - j := by rw [List.length_take]; omega
    have hrl := rtake_len S j (by omega)
    have hrw := fun k (e : some k = u5.ownBlock) => (World.ownsRow.lt hr k e.symm).1
    have HRW := Lib.hid hrw
    have HOWN := Lib.hid hown
    obtain ⟨A5, c5, e5, -⟩ := hr.form
    have HE5 := Lib.hid e5
    clear e5
    clear hr hst hk hrw hown
    obtain ⟨A2, cap, e2, hA⟩ := HST.out.row.form
    subst e2
    by_cases hjS : j < S.length
    · obtain ⟨m1, m2, m3, m4⟩ := sr_mid [] hjS
      rw [List.nil_append, List.nil_append] at m4
      obtain ⟨g2, rfl, hg2, hg3, hcp⟩ := hA (by omega)
      obtain ⟨hc2, hf2⟩ := HST.out.row.cell (j := S.length - j - 1) (by omega)
      rw [m2] at hc2
      have HM4 := Lib.hid m4
      have HM3 := Lib.hid m3
      have HM2 := Lib.hid m2
      clear m2 m3 m4 hA
      generalize S.getD (S.length - 1 - j) 0 = z at *
      have HCALL := Lib.hid (fun W => less2 z W)
      generalize hT : S.take (S.length - j) = T at *
      have HTT := Lib.hid hT
      clear hT
      obtain ⟨l, hl2⟩ : ∃ l, l = S.length - j - 1 := ⟨_, rfl⟩
      have hm : T.length = l + 1 := by omega
      rw [← hl2] at hc2 hf2
      have HPOP := Lib.hid (fun n => popI b B _ T z (wr.drewN n) (HST.out.drewN n) (by omega) (by rw [hm, show l + 1 - 1 = S.length - j - 1 by omega]; exact HM2.out) (by omega))
      rw [hm] at hbc HST HPOP HOWN
      have hli : ((l + 1 : Nat) : Int) - 1 = (l : Int) := by omega
      have hlL : (l : Int) < ((l + 1 : Nat) : Int) := by omega
      have hlc : (l : Int) ≤ (cap : Int) := by omega
      have hpos : (0 : Int) < ((l + 1 : Nat) : Int) := by omega
      have HL := Lib.hid hl2
      clear hl2
      go_wp2
      go_quiet ((with_reducible exact still31 (HCALL.out _)))
      go_wp2_with fail
      (with_reducible refine (HPOP.out nq).mono ?_)
      rintro e w2 ⟨rfl, v2, hst2, ho2, hk2⟩
      have HR2 := Lib.hid (pw_row H0.out.lt (show RowN (wr.drewN nq) w.heap.size u5 _ from HR.out) hk2)
      have HST2 := Lib.hid hst2
      have HO2 := Lib.hid (ho2.trans HOWN.out)
      have HK2 := Lib.hid hk2
      have hzw2 := hk2.below.size
      have hzw3 : w.heap.size ≤ w2.heap.size := Nat.le_trans hzw hzw2
      clear hst2 ho2 hk2 hzw2
      go_wp2_with (at_builtin; go_must (refine wpAppInt rfl _ _ rfl w.heap.size u5 _ (S.reverse.take j) rfl (HR2.out.allocN _) _ _ z rfl (cell_one w2 _ _) (by omega) (by simp; omega) ?_); intro v' w' hown' hg')
      obtain ⟨q1, q2⟩ := pw_step H0.out (HK.out.drewN nq) HK2.out HST2.out HO2.out (show RowN (wr.drewN nq) w.heap.size u5 _ from HR.out) hg'
      have hv' := RowN.of_app hown'
      obtain ⟨A6, c6, e6, -⟩ := hv'.form
      refine ⟨⟨j + 1, v2, by omega, by rw [HM4.out]; exact hv', by rw [← HM3.out]; exact q1, HO2.out, q2⟩, ?_⟩
      rw [e6, HE5.out]
      simp only [vLen, List.length_append, List.length_singleton]
      omega
    · obtain rfl : j = K := by have := HKS.out; omega
      have hl0 : (S.take (S.length - j)).length = 0 := by omega
      rw [hl0] at HST hbc HOWN
      have HRR := Lib.hid (show RowN wr w.heap.size u5 (S.reverse.take S.length) by rw [← HKS.out]; exact HR.out)
      have HSS := Lib.hid (show S.take (S.length - j) = S.take (S.length - S.length) by rw [HKS.out])
      generalize hT : S.take (S.length - j) = T at *
      clear hT hl0 hll
      go_wp2
      go_quiet (fail)
      go_wp2
      go_ret
      exact ⟨_, _, rfl, HRR.out, by rw [← HSS.out]; exact HST.out.drewN nq, HOWN.out, HK.out.drewN nq⟩

end Go.Proofs.Ytamepojgpeblpaa
