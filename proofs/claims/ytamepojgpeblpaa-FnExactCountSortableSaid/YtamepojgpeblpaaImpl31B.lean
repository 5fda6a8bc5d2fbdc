/- The program's SortOnce, IsSortable, PassesOf. -/
import Derived.Test.YtamepojgpeblpaaPop31
import Derived.Test.YtamepojgpeblpaaApp31
import Derived.Test.YtamepojgpeblpaaImpl10A
namespace Go.Proofs.Ytamepojgpeblpaa
open Go.ChangeShapes Go.WideShapes Go.ChangeAt Go.RowKit
set_option linter.unusedVariables false

/-- A new box with a number beside the stack. -/
theorem St.boxed {w : World} {B b : Nat} {v : Value} {l : List Int} (h : St w B b v l) (o : Obj) (y : Value) : St ((w.alloc o).setCell ⟨w.heap.size, 0, none⟩ y) B b v l := by
  have hb := h.lt
  refine h.keep (by simp [World.setCell]) ?_ fun g e => ?_
  · exact (Below.heap_setCell _ _ _ _ (by show b ≠ w.heap.size; omega)).trans (Below.heap_alloc _ _ _ hb)
  · have := (World.ownsRow.lt h.row g e).2
    exact (Below.heap_setCell _ _ _ _ (by show g ≠ w.heap.size; omega)).trans (Below.heap_alloc _ _ _ this)
theorem RowN.boxed {w : World} {B : Nat} {v : Value} {l : List Int} (h : RowN w B v l) (o : Obj) (y : Value) : RowN ((w.alloc o).setCell ⟨w.heap.size, 0, none⟩ y) B v l :=
  h.keep fun g _ hlt _ => (Below.heap_setCell _ _ _ _ (by show g ≠ w.heap.size; omega)).trans (Below.heap_alloc _ _ _ hlt)
theorem Kx.out {w w' : World} {B b : Nat} {v : Value} {l : List Int} (h : Kx b none w w') (hr : RowN w B v l) (hb : v.ownBlock ≠ some b) : RowN w' B v l :=
  hr.keep fun g _ hlt e => h.block g hlt (fun e2 => hb (e2 ▸ e)) (by simp)

theorem St.new (w : World) (B : Nat) (hB : B ≤ w.heap.size) (t : TypeId) : St (w.alloc (.cells #[.slice none 0 0] t)) B w.heap.size (.slice none 0 0) [] :=
  ⟨cell_one w _ _, by simp [World.frozen?, show (w.alloc (.cells #[.slice none 0 0] t)).heap = w.heap.push (.cells #[.slice none 0 0] t) from rfl], by simp, ⟨rfl, .inl ⟨rfl, rfl⟩⟩, by simp [Value.ownBlock]⟩
theorem box_at (w : World) (x y : Value) (t : TypeId) : ((w.alloc (.cells #[x] t)).setCell ⟨w.heap.size, 0, none⟩ y).cell? ⟨w.heap.size, 0, none⟩ = some y := by
  apply World.cell?_setCell_same
  exact cell_one w x t

set_option maxRecDepth 100000 in
set_option maxHeartbeats 3200000 in
theorem sortOnceI (A1 : Option Addr) (xs : List Int) (c1 lo hi : Nat) (w : World) (hv : OwnI w lo hi (.slice A1 xs.length c1) xs) (hhi : hi ≤ w.heap.size) :
    Calls Try.prog 16 #[.slice A1 xs.length c1] w (AnsIB (sortOP xs) (permB xs) w) := by
  have HV := Lib.hid hv
  have HM := Lib.hid (isPermutationI _ xs _ lo hi w hv hhi)
  clear hv
  rcases hm : permB xs with _ | _
  · have HP := Lib.hid (show sortOP xs = [] from if_neg (by simp [hm]))
    rw [hm] at HM
    clear hm
    go_enter Try.func16, Try.ntmps16
    go_wp2_with fail
    (with_reducible refine HM.out.mono ?_)
    rintro e w' ⟨rfl, hb⟩
    go_wp2
    go_ret2
    exact ⟨_, rfl, by rw [HP.out]; exact ⟨_, _, rfl, .inl rfl⟩, hb⟩
  · have HP := Lib.hid (show sortOP xs = sortP xs from if_pos hm)
    have h8 := (perm_yes hm).1
    rw [hm] at HM
    clear hm
    go_enter Try.func16, Try.ntmps16
    go_wp2_with fail
    (with_reducible refine HM.out.mono ?_)
    rintro e w1 ⟨rfl, hb1⟩
    have HB1 := Lib.hid hb1
    have hz1 := hb1.size
    clear hb1
    go_wp2
    go_loopw [5, 15] (fun x5 x15 wr => ∃ (i : Nat) (vv : Value), i ≤ xs.length ∧ x15 = .int .i64 i ∧ RowN wr w.heap.size x5 (srO xs i) ∧ St wr w.heap.size w1.heap.size vv (srS xs i) ∧ Apt x5 vv ∧ x5.ownBlock ≠ some w1.heap.size ∧ w1.heap.size ≤ wr.heap.size ∧ Below w.heap.size w wr) (fun _ x15 _ => xs.length - (intOf x15).toNat)
    case atStart => exact ⟨0, _, Nat.zero_le _, rfl, ⟨rfl, .inl ⟨rfl, rfl⟩⟩, St.new w1 _ hz1 _, by intro k e; simp [Value.ownBlock] at e, by simp [Value.ownBlock], by simp, HB1.out.alloc hz1 _⟩
    case round =>
      obtain ⟨i, vv, hi1, rfl, hr, hst, hap, hnb, hzr, hb⟩ := hrel
      have HR := Lib.hid hr
      have HST := Lib.hid hst
      have HAP := Lib.hid hap
      have HNB := Lib.hid hnb
      have HB := Lib.hid hb
      have hln := sr_len xs i hi1
      clear hr hst hap hnb hb
      by_cases hlt : i < xs.length
      · obtain ⟨g1, p1, e1, -, -, hc1, -⟩ := (HV.out.keep HB.out hhi).cell hlt
        simp only [Value.slice.injEq] at e1
        obtain ⟨rfl, -, rfl⟩ := e1
        have hii : (i : Int) < (xs.length : Int) := by omega
        have HSO := Lib.hid (show srO xs (i + 1) = srO xs i ++ (srS xs i).reverse.take (tkN (srS xs i) (xs.getD i 0)) from rfl)
        have HSS := Lib.hid (show srS xs (i + 1) = (srS xs i).take ((srS xs i).length - tkN (srS xs i) (xs.getD i 0)) ++ [xs.getD i 0] from rfl)
        have htl := tk_le (srS xs i) (xs.getD i 0)
        generalize xs.getD i 0 = x at *
        generalize srS xs i = S at *
        generalize srO xs i = O at *
        have hbx := cell_one wr (.int .i64 x) 3
        obtain ⟨wc, hwc⟩ : ∃ wc, wc = wr.alloc (.cells #[.int .i64 x] 3) := ⟨_, rfl⟩
        have hST2 := HST.out.allocN (.cells #[.int .i64 x] 3)
        have hR2 := HR.out.allocN (.cells #[.int .i64 x] 3)
        have hB2 : Below w.heap.size w wc := by rw [hwc]; exact HB.out.alloc (by omega) _
        have hz2 : wc.heap.size = wr.heap.size + 1 := by rw [hwc]; simp
        rw [← hwc] at hbx hST2 hR2
        have hbc : wr.heap.size ≠ w1.heap.size := by have := HST.out.lt; omega
        have HPOP := Lib.hid (popWhile1I w1.heap.size w.heap.size vv S x wr.heap.size wc hST2 hbx hbc (by omega) (by omega) (by omega))
        have HR2 := Lib.hid hR2
        have HB2 := Lib.hid hB2
        have HST2 := Lib.hid hST2
        clear hST2 hR2 hB2
        have HBX := Lib.hid hbx
        have HWC := Lib.hid hwc
        have HZ2 := Lib.hid hz2
        clear hbx hwc hz2
        go_wp2_with fail
        rw [← HWC.out]
        (with_reducible refine HPOP.out.mono ?_)
        rintro e w2 ⟨it, v2, rfl, hit, hst2, ho2, hk2⟩
        have HIT := Lib.hid hit
        have HST3 := Lib.hid hst2
        have HO2 := Lib.hid ho2
        have HK2 := Lib.hid hk2
        have HR3 := Lib.hid (hk2.out HR2.out HNB.out)
        have hz3 := hk2.below.size
        have HB3 := Lib.hid (HB2.out.trans (hk2.to hz1 (fun k h => by simp at h) (by have := HZ2.out; omega)))
        have hrt := rtake_len S (tkN S x) htl
        have hzc2 : wr.heap.size < w2.heap.size := by have := HZ2.out; omega
        clear hit hst2 ho2 hk2
        have hrw := fun k (e : u5.ownBlock = some k) => World.ownsRow.lt HR.out k e
        have HRW := Lib.hid hrw
        have hcx2 := (World.cell?_of_block (a := ⟨wr.heap.size, 0, none⟩) (HK2.out.block wr.heap.size (by have := HZ2.out; omega) hbc (by simp))).trans HBX.out
        have HCX2 := Lib.hid hcx2
        clear hrw hcx2
        go_wp2_with (at_builtin; go_must (refine wpAppW rfl _ _ rfl w.heap.size u5 O rfl HR3.out _ it _ rfl HIT.out (by omega) (by omega) (by omega) ?_); intro v3 w3 hown3 hg3 hat3; go_must (have hcx3 : w3.cell? ⟨wr.heap.size, 0, none⟩ = some (.int .i64 x) := (hg3.cell_far _ (show wr.heap.size < w2.heap.size by have := HZ2.out; omega) (fun e => by have := (HRW.out wr.heap.size e.symm).2; omega)).trans HCX2.out))
        have hz4 := hg3.size
        have hST4 : St w3 w.heap.size w1.heap.size v2 (S.take (S.length - tkN S x)) := HST3.out.keep hz4 (hg3.block _ HST3.out.lt (fun e => HNB.out e.symm)) (fun g e => hg3.block g (World.ownsRow.lt HST3.out.row g e).2 (fun e2 => HAP.out g e2.symm (by rw [← HO2.out]; exact e)))
        have hHB4 : Below w.heap.size w w3 := HB3.out.grown hg3 (by omega) (fun k hk => (HRW.out k hk).1)
        have HPU := Lib.hid (pushI w1.heap.size w.heap.size v2 _ x w3 hST4 (by rw [List.length_take]; omega) (by omega))
        have HB4 := Lib.hid hHB4
        have hapt : Apt v3 v2 := fun k e e2 => by
          rcases hat3 with e3 | e3
          · rw [e3] at e; rw [HO2.out] at e2; exact HAP.out k e e2
          · rw [e3] at e; simp only [Option.some.injEq] at e; have := (World.ownsRow.lt HST3.out.row k e2).2; omega
        have hnb3 : v3.ownBlock ≠ some w1.heap.size := by
          rcases hat3 with e3 | e3
          · rw [e3]; exact HNB.out
          · rw [e3]; intro e; simp only [Option.some.injEq] at e; have := HST3.out.lt; omega
        have HAPT := Lib.hid hapt
        have HNB3 := Lib.hid hnb3
        have HR4 := Lib.hid hown3
        have hstB := fun k (e : v2.ownBlock = some k) => (World.ownsRow.lt hST4.row k e).1
        have HSTB := Lib.hid hstB
        clear hST4 hHB4 hapt hnb3 hown3 hstB hat3
        go_wp2_with fail
        (with_reducible refine HPU.out.mono ?_)
        rintro e w4 ⟨rfl, v4, hst4, ho4, hk4⟩
        have hz5 := hk4.below.size
        have hR5 := hk4.row HR4.out HAPT.out HNB3.out
        go_wp2
        go_roundw
        case rel =>
          refine ⟨i + 1, v4, by omega, by simp, by rw [HSO.out]; exact hR5, by rw [HSS.out]; exact hst4, fun k e e2 => ?_, HNB3.out, by omega, HB4.out.trans (hk4.to hz1 HSTB.out (by omega))⟩
          rcases ho4 with e3 | ⟨q, e3, hq⟩
          · rw [e3] at e2; exact HAPT.out k e e2
          · rw [e3] at e2; simp only [Option.some.injEq] at e2; have := (World.ownsRow.lt HR4.out k e).2; omega
        case measure => simp [intOf]; omega
      · obtain rfl : i = xs.length := by omega
        have HSP := Lib.hid (show sortP xs = srO xs xs.length ++ (srS xs xs.length).reverse from rfl)
        generalize srS xs xs.length = S at *
        generalize srO xs xs.length = O at *
        have HPOP := Lib.hid (popWhile2I w1.heap.size w.heap.size vv S wr HST.out (by omega) (by omega))
        go_wp2_with fail
        (with_reducible refine HPOP.out.mono ?_)
        rintro e w2 ⟨it, v2, rfl, hit, hst2, ho2, hk2⟩
        rw [List.take_of_length_le (by rw [List.length_reverse]; exact Nat.le_refl _)] at hit
        have HIT := Lib.hid hit
        have HR3 := Lib.hid (hk2.out HR.out HNB.out)
        have hz3 := hk2.below.size
        have HB3 := Lib.hid (HB.out.trans (hk2.to hz1 (fun k h => by simp at h) (by omega)))
        have hrl : S.reverse.length = S.length := List.length_reverse
        have hrw := fun k (e : u5.ownBlock = some k) => (World.ownsRow.lt HR.out k e).1
        have HRW := Lib.hid hrw
        clear hit hst2 ho2 hk2 hrw
        go_wp2_with (at_builtin; go_must (refine wpAppW rfl _ _ rfl w.heap.size u5 O rfl HR3.out _ it _ rfl HIT.out (by omega) (by omega) (by omega) ?_); intro v3 w3 hown3 hg3 hat3)
        have HO3 := Lib.hid (OwnI.of_row hown3)
        have HB4 := Lib.hid (HB3.out.grown hg3 (by omega) (fun k hk => HRW.out k hk))
        go_ret2
        exact ⟨_, rfl, by rw [HP.out, HSP.out]; exact HO3.out, HB4.out⟩

end Go.Proofs.Ytamepojgpeblpaa
