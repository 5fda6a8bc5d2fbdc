/- The program's MultiplyDiagrams: times. -/
import Derived.Test.YtcckpodpgenapaaImpl23MC
import Derived.Test.YtcckpodpgenapaaSpec23M
import Derived.Deep.OwnRows
namespace Go.Proofs.Ytcckpodpgenapaa
open Go.ChangeShapes Go.WideShapes Go.ChangeAt Go.RowKit
set_option linter.unusedVariables false

theorem ret_vz {A A' : Value} {z z' : Int} (h : A = A') (h2 : z = z') : Ending.returned (.tuple #[A, .int .i64 z]) = .returned (.tuple #[A', .int .i64 z']) := by rw [h, h2]
theorem seam3 {w : World} {B : Nat} {a b c : Value} (h : w.heap[B]? = some (.cells #[a, b, c] 54 (0, 0))) :
    w.cell? ⟨B, 0, none⟩ = some a ∧ w.cell? ⟨B, 1, none⟩ = some b ∧ w.cell? ⟨B, 2, none⟩ = some c ∧ w.frozen? ⟨B, 0, none⟩ = false ∧ w.frozen? ⟨B, 1, none⟩ = false ∧ w.frozen? ⟨B, 2, none⟩ = false := by
  refine ⟨by simp [World.cell?, h], by simp [World.cell?, h], by simp [World.cell?, h], ?_, ?_, ?_⟩ <;> simp [World.frozen?, h]

theorem heap_alloc {w : World} {B : Nat} {o : Obj} (h : w.heap[B]? = some o) (x : Obj) : (w.alloc x).heap[B]? = some o := by
  show (w.heap.push x)[B]? = _
  have hlt := (Array.getElem?_eq_some_iff.1 h).1
  rw [Array.getElem?_push, if_neg (by omega)]; exact h
abbrev zSeam : Obj := .cells #[.slice none 0 0, .slice none 0 0, .slice none 0 0] 54
theorem sa1 {w w1 : World} {n : Nat} {W : World} (e : (w.alloc zSeam).drew = W) (hb : Below n W w1) (hn : W.heap.size = n) : w1.heap[w.heap.size]? = some zSeam := by
  subst e
  have h : (w.alloc zSeam).drew.heap[w.heap.size]? = some zSeam := by show (w.heap.push zSeam)[w.heap.size]? = _; simp
  exact (hb.block _ (by have := (Array.getElem?_eq_some_iff.1 h).1; omega)).trans h
theorem sa2 {w w1 : World} {n : Nat} {W : World} {x : Obj} (e : ((w.alloc zSeam).alloc x).drew = W) (hb : Below n W w1) (hn : W.heap.size = n) : w1.heap[w.heap.size]? = some zSeam := by
  subst e
  have h : ((w.alloc zSeam).alloc x).drew.heap[w.heap.size]? = some zSeam := by show ((w.heap.push zSeam).push x)[w.heap.size]? = _; simp [Array.getElem?_push]
  exact (hb.block _ (by have := (Array.getElem?_eq_some_iff.1 h).1; omega)).trans h
theorem sa3 {w w1 : World} {n : Nat} {W : World} {x : Obj} (e : ((w.alloc x).alloc zSeam).drew = W) (hb : Below n W w1) (hn : W.heap.size = n) : w1.heap[w.heap.size + 1]? = some zSeam := by
  subst e
  have h : ((w.alloc x).alloc zSeam).drew.heap[w.heap.size + 1]? = some zSeam := by show ((w.heap.push x).push zSeam)[w.heap.size + 1]? = _; rw [show w.heap.size + 1 = (w.heap.push x).size by simp]; exact Array.getElem?_push_size
  exact (hb.block _ (by have := (Array.getElem?_eq_some_iff.1 h).1; omega)).trans h

abbrev cBool (H : Nat) : Obj := .cells (madeCells #[.bool false] H) 4
def SmAt (w WX : World) (xs : List Int) (N H : Nat) (L : Value) (B g : Nat) (A1 : Option Addr) (c1 lo1 hi1 : Nat) : Prop :=
  SmB WX B g H (.slice A1 N c1) L ∧ OwnI WX lo1 hi1 (.slice A1 N c1) xs ∧ TkB WX g H (fun _ => false) ∧ Below w.heap.size w WX ∧ w.heap.size ≤ B ∧ w.heap.size ≤ g ∧ w.heap.size ≤ lo1 ∧ hi1 ≤ WX.heap.size ∧ g ≠ B ∧ (g < lo1 ∨ hi1 ≤ g) ∧ (B < lo1 ∨ hi1 ≤ B)
theorem tkb_made {w : World} {g H : Nat} (h : w.heap[g]? = some (cBool H)) : TkB w g H (fun _ => false) := by
  refine ⟨_, h, by simp [madeCells], fun q hq => ?_⟩
  simp [madeCells, hq, Nat.mod_one]
theorem smAt {w W w1 WX : World} {xs : List Int} {N H : Nat} {L : Value} {B g : Nat} {A1 : Option Addr} {c1 n1 : Nat} (hW : Below w.heap.size w W) (hn : W.heap.size = n1) (hb : Below n1 W w1) (ho : OwnI w1 n1 w1.heap.size (.slice A1 N c1) xs)
    (h1 : WX.os = w1.os) (h2 : WX.tape = w1.tape) (h3 : WX.output = w1.output) (hsz : w1.heap.size ≤ WX.heap.size) (hk : ∀ k, k < w1.heap.size → k ≠ B → WX.heap[k]? = w1.heap[k]?)
    (hB : WX.heap[B]? = some (.cells #[.slice A1 N c1, L, .slice (some ⟨g, 0, none⟩) H H] 54 (0, 0))) (hg : WX.heap[g]? = some (cBool H)) (hBw : w.heap.size ≤ B) (hgw : w.heap.size ≤ g) (hgB : g ≠ B) (hBd : B < n1 ∨ w1.heap.size ≤ B) (hgd : g < n1 ∨ w1.heap.size ≤ g) :
    SmAt w WX xs N H L B g A1 c1 n1 w1.heap.size := by
  have z1 := hW.size
  have z2 := hb.size
  refine ⟨hB, ?_, tkb_made hg, ⟨?_, ?_, ?_, by omega, fun k hk' => ?_⟩, hBw, hgw, by omega, hsz, hgB, hgd, hBd⟩
  · obtain ⟨A, cap, e, h⟩ := ho
    refine ⟨A, cap, e, ?_⟩
    rcases h with h | ⟨gg, C, g1, g2, g3, g4, g5⟩
    · exact .inl h
    · exact .inr ⟨gg, C, g1, g2, g3, (hk gg g2 (by omega)).trans g4, g5⟩
  · rw [h1, hb.os, hW.os]
  · rw [h2, hb.tape, hW.tape]
  · rw [h3, hb.output, hW.output]
  · rw [hk k (by omega) (by omega), hb.block k (by omega), hW.block k hk']
theorem push_ne {h : Array Obj} {k : Nat} {o : Obj} (hk : k < h.size) : (h.push o)[k]? = h[k]? := by rw [Array.getElem?_push, if_neg (by omega)]
section
variable {w w1 : World} {xs : List Int} {N H : Nat} {L : Value} {A1 : Option Addr} {c1 : Nat}
abbrev mSeam (A1 : Option Addr) (N c1 : Nat) (L : Value) (g H : Nat) : Obj := .cells #[.slice A1 N c1, L, .slice (some ⟨g, 0, none⟩) H H] 54
theorem leaf1 (hb : Below w.drew.heap.size w.drew w1) (ho : OwnI w1 w.drew.heap.size w1.heap.size (.slice A1 N c1) xs) :
    SmAt w ((w1.alloc (cBool H)).alloc (mSeam A1 N c1 L w1.heap.size H)) xs N H L (w1.heap.size + 1) w1.heap.size A1 c1 w.drew.heap.size w1.heap.size :=
  smAt (Below.refl _ _).drew rfl hb ho rfl rfl rfl (by show _ ≤ ((w1.heap.push _).push _).size; simp; omega)
    (fun k hk hne => by show ((w1.heap.push _).push _)[k]? = _; rw [push_ne (by simp; omega), push_ne hk])
    (by show ((w1.heap.push (cBool H)).push _)[w1.heap.size + 1]? = _; rw [show w1.heap.size + 1 = (w1.heap.push (cBool H)).size by simp]; exact Array.getElem?_push_size)
    (by show ((w1.heap.push (cBool H)).push _)[w1.heap.size]? = _; rw [push_ne (by simp)]; exact Array.getElem?_push_size)
    (by have := hb.size; have : w.drew.heap.size = w.heap.size := rfl; omega) (by have := hb.size; have : w.drew.heap.size = w.heap.size := rfl; omega) (by omega) (.inr (by omega)) (.inr (by omega))
theorem push2_at (h : Array Obj) (o x : Obj) : ((h.push o).push x)[h.size + 1]? = some x := by rw [show h.size + 1 = (h.push o).size by simp]; exact Array.getElem?_push_size
theorem leaf2 (hb : Below w.drew.heap.size w.drew w1) (ho : OwnI w1 w.drew.heap.size w1.heap.size (.slice A1 N c1) xs) :
    SmAt w ((w1.alloc (mSeam A1 N c1 L (w1.heap.size + 1) H)).alloc (cBool H)) xs N H L w1.heap.size (w1.heap.size + 1) A1 c1 w.drew.heap.size w1.heap.size :=
  smAt (Below.refl _ _).drew rfl hb ho rfl rfl rfl (by show _ ≤ ((w1.heap.push _).push _).size; simp; omega)
    (fun k hk hne => by show ((w1.heap.push _).push _)[k]? = _; rw [push_ne (by simp; omega), push_ne hk])
    (by show ((w1.heap.push (mSeam A1 N c1 L (w1.heap.size + 1) H)).push _)[w1.heap.size]? = _; rw [push_ne (by simp)]; exact Array.getElem?_push_size)
    (push2_at _ _ _)
    (by have := hb.size; have : w.drew.heap.size = w.heap.size := rfl; omega) (by have := hb.size; have : w.drew.heap.size = w.heap.size := rfl; omega) (by omega) (.inr (by omega)) (.inr (by omega))
theorem leaf3 (hb : Below (w.alloc (cBool H)).drew.heap.size (w.alloc (cBool H)).drew w1) (ho : OwnI w1 (w.alloc (cBool H)).drew.heap.size w1.heap.size (.slice A1 N c1) xs) :
    SmAt w (w1.alloc (mSeam A1 N c1 L w.heap.size H)) xs N H L w1.heap.size w.heap.size A1 c1 (w.alloc (cBool H)).drew.heap.size w1.heap.size := by
  have hs : (w.alloc (cBool H)).drew.heap.size = w.heap.size + 1 := by show (w.heap.push _).size = _; simp
  have z := hb.size
  have hq : w1.heap[w.heap.size]? = some (cBool H) := (hb.block _ (by omega)).trans (by show (w.heap.push _)[w.heap.size]? = _; exact Array.getElem?_push_size)
  exact smAt ((Below.refl _ _).alloc (Nat.le_refl _) _).drew rfl hb ho rfl rfl rfl (by show _ ≤ (w1.heap.push _).size; simp)
    (fun k hk hne => by show (w1.heap.push _)[k]? = _; rw [push_ne hk])
    (by show (w1.heap.push _)[w1.heap.size]? = _; exact Array.getElem?_push_size)
    (by show (w1.heap.push _)[w.heap.size]? = _; rw [push_ne (by omega)]; exact hq)
    (by omega) (Nat.le_refl _) (by omega) (.inr (by omega)) (.inl (by omega))
theorem set3 {W : World} {B : Nat} (hz : W.heap[B]? = some zSeam) (a b c : Value) : (((W.setCell ⟨B, 0, none⟩ a).setCell ⟨B, 1, none⟩ b).setCell ⟨B, 2, none⟩ c).heap[B]? = some (.cells #[a, b, c] 54 (0, 0)) := by
  simp [World.setCell, Array.getElem?_modify, hz]
theorem set3_ne {W : World} {B k : Nat} (hne : k ≠ B) (a b c : Value) : (((W.setCell ⟨B, 0, none⟩ a).setCell ⟨B, 1, none⟩ b).setCell ⟨B, 2, none⟩ c).heap[k]? = W.heap[k]? := by
  rw [Below.heap_setCell _ ⟨B, 2, none⟩ _ k hne, Below.heap_setCell _ ⟨B, 1, none⟩ _ k hne, Below.heap_setCell _ ⟨B, 0, none⟩ _ k hne]
theorem set3_size {W : World} {B : Nat} (a b c : Value) : (((W.setCell ⟨B, 0, none⟩ a).setCell ⟨B, 1, none⟩ b).setCell ⟨B, 2, none⟩ c).heap.size = W.heap.size := by
  simp [World.setCell]
theorem leaf4 (hb : Below ((w.alloc (cBool H)).alloc zSeam).drew.heap.size ((w.alloc (cBool H)).alloc zSeam).drew w1) (hz : w1.heap[w.heap.size + 1]? = some zSeam) (ho : OwnI w1 ((w.alloc (cBool H)).alloc zSeam).drew.heap.size w1.heap.size (.slice A1 N c1) xs) :
    SmAt w (((w1.setCell ⟨w.heap.size + 1, 0, none⟩ (.slice A1 N c1)).setCell ⟨w.heap.size + 1, 1, none⟩ L).setCell ⟨w.heap.size + 1, 2, none⟩ (.slice (some ⟨w.heap.size, 0, none⟩) H H)) xs N H L (w.heap.size + 1) w.heap.size A1 c1 ((w.alloc (cBool H)).alloc zSeam).drew.heap.size w1.heap.size := by
  have hs : ((w.alloc (cBool H)).alloc zSeam).drew.heap.size = w.heap.size + 2 := by show ((w.heap.push _).push _).size = _; simp
  have z := hb.size
  have hq : w1.heap[w.heap.size]? = some (cBool H) := (hb.block _ (by omega)).trans (by show ((w.heap.push _).push _)[w.heap.size]? = _; rw [push_ne (by simp)]; exact Array.getElem?_push_size)
  exact smAt (((Below.refl _ _).alloc (Nat.le_refl _) _).alloc (by show _ ≤ (w.heap.push _).size; simp) _).drew rfl hb ho rfl rfl rfl (by rw [set3_size]; exact Nat.le_refl _)
    (fun k hk hne => set3_ne hne _ _ _) (set3 hz _ _ _) (by rw [set3_ne (by omega)]; exact hq) (by omega) (Nat.le_refl _) (by omega) (.inl (by omega)) (.inl (by omega))
theorem leaf5 (hb : Below (w.alloc zSeam).drew.heap.size (w.alloc zSeam).drew w1) (hz : w1.heap[w.heap.size]? = some zSeam) (ho : OwnI w1 (w.alloc zSeam).drew.heap.size w1.heap.size (.slice A1 N c1) xs) :
    SmAt w ((((w1.alloc (cBool H)).setCell ⟨w.heap.size, 0, none⟩ (.slice A1 N c1)).setCell ⟨w.heap.size, 1, none⟩ L).setCell ⟨w.heap.size, 2, none⟩ (.slice (some ⟨w1.heap.size, 0, none⟩) H H)) xs N H L w.heap.size w1.heap.size A1 c1 (w.alloc zSeam).drew.heap.size w1.heap.size := by
  have hs : (w.alloc zSeam).drew.heap.size = w.heap.size + 1 := by show (w.heap.push _).size = _; simp
  have z := hb.size
  exact smAt ((Below.refl _ _).alloc (Nat.le_refl _) _).drew rfl hb ho rfl rfl rfl (by rw [set3_size]; show _ ≤ (w1.heap.push _).size; simp)
    (fun k hk hne => by rw [set3_ne hne]; exact push_ne hk) (set3 (heap_alloc hz _) _ _ _) (by rw [set3_ne (by omega)]; exact Array.getElem?_push_size) (Nat.le_refl _) (by omega) (by omega) (.inl (by omega)) (.inr (by omega))
theorem leaf6 (hb : Below ((w.alloc zSeam).alloc (cBool H)).drew.heap.size ((w.alloc zSeam).alloc (cBool H)).drew w1) (hz : w1.heap[w.heap.size]? = some zSeam) (ho : OwnI w1 ((w.alloc zSeam).alloc (cBool H)).drew.heap.size w1.heap.size (.slice A1 N c1) xs) :
    SmAt w (((w1.setCell ⟨w.heap.size, 0, none⟩ (.slice A1 N c1)).setCell ⟨w.heap.size, 1, none⟩ L).setCell ⟨w.heap.size, 2, none⟩ (.slice (some ⟨w.heap.size + 1, 0, none⟩) H H)) xs N H L w.heap.size (w.heap.size + 1) A1 c1 ((w.alloc zSeam).alloc (cBool H)).drew.heap.size w1.heap.size := by
  have hs : ((w.alloc zSeam).alloc (cBool H)).drew.heap.size = w.heap.size + 2 := by show ((w.heap.push _).push _).size = _; simp
  have z := hb.size
  have hq : w1.heap[w.heap.size + 1]? = some (cBool H) := (hb.block _ (by omega)).trans (by show ((w.heap.push zSeam).push _)[w.heap.size + 1]? = _; rw [show w.heap.size + 1 = (w.heap.push zSeam).size by simp]; exact Array.getElem?_push_size)
  exact smAt (((Below.refl _ _).alloc (Nat.le_refl _) _).alloc (by show _ ≤ (w.heap.push _).size; simp) _).drew rfl hb ho rfl rfl rfl (by rw [set3_size]; exact Nat.le_refl _)
    (fun k hk hne => set3_ne hne _ _ _) (set3 hz _ _ _) (by rw [set3_ne (by omega)]; exact hq) (Nat.le_refl _) (by omega) (by omega) (.inl (by omega)) (.inl (by omega))
end

set_option maxRecDepth 100000 in
set_option maxHeartbeats 3200000 in
theorem timesI (A A' : Option Addr) (xs ys : List Int) (N cap cap' lo hi lo' hi' : Nat) (w : World) (hv : OwnI w lo hi (.slice A N cap) xs) (hu : OwnI w lo' hi' (.slice A' N cap') ys) (hhi : hi ≤ w.heap.size) (hhu : hi' ≤ w.heap.size) (hok : mdOk xs ys = true) (hN : N = xs.length) :
    Calls Try.prog 47 #[.slice A N cap, .slice A' N cap'] w fun e w' => ∃ v, e = .returned (.tuple #[v, .int .i64 (mdN xs ys)]) ∧ OwnI w' w.heap.size w'.heap.size v (mdP xs ys) ∧ Below w.heap.size w w' := by
  obtain ⟨hmx, hmy, hlen, h2, h16, hdx, hdy⟩ := mdOk_yes hok
  have HUP := Lib.hid (fun W (h : OwnI W lo hi (.slice A N cap) xs) (hh : hi ≤ W.heap.size) => upsideDownI A xs cap lo hi W (by rw [← hN]; exact h) hh hmx)
  rw [← hN] at HUP
  have hev := match_even hmx
  have HHN := Lib.hid (show xs.length = 2 * (xs.length / 2) from hev)
  have HP := Lib.hid (show mdP xs ys = mdL (nx (flL xs)) (nx ys) (xs.length / 2) (2 * (xs.length / 2)) from if_pos hok)
  have HZ := Lib.hid (show mdN xs ys = ((ccO (flL xs) ys (xs.length / 2) (wkS (nx (flL xs)) (nx ys) (xs.length / 2) (2 * (xs.length / 2))) (xs.length / 2)).2 : Int) from if_pos hok)
  have HIN := Lib.hid (show InD (flL xs) (xs.length / 2) (wkS (nx (flL xs)) (nx ys) (xs.length / 2) (2 * (xs.length / 2))) ∧ InD ys (xs.length / 2) (wkS (nx (flL xs)) (nx ys) (xs.length / 2) (2 * (xs.length / 2))) from inD_fl (by omega) (by omega) hmx hmy)
  have HIU := Lib.hid (show Inv N (nx (flL xs)) by rw [hN]; exact inv_fl hmx)
  have HIB := Lib.hid (show Inv N (nx ys) by rw [hN, hlen]; exact inv_match hmy)
  have HUA := Lib.hid (fun q (h : q < N) => show (flL xs).getD q 0 = (nx (flL xs) q : Int) from (nx_fl hmx (by omega)).2)
  have HBA := Lib.hid (fun q (h : q < N) => show ys.getD q 0 = (nx ys q : Int) from (nx_match hmy (by omega)).2.2.2)
  rw [← hN] at HHN HP HZ HIN
  have HFL := Lib.hid (show (flL xs).length = N by rw [hN]; exact flL_len xs)
  have HV := Lib.hid hv
  have HU := Lib.hid hu
  have HE := Lib.hid hN
  have HE2 := Lib.hid (hN.trans hlen)
  have hN16 : N ≤ 16 := by omega
  obtain ⟨H, hH⟩ : ∃ H, H = N / 2 := ⟨_, rfl⟩
  rw [← hH] at HHN HP HZ HIN
  have h1H : 1 ≤ H := by omega
  obtain ⟨j0, hj0, hy0, hy1, hy2⟩ := info_parts infoB
  have hmk : ∀ W : World, (Instr.makeSlice 44 (.int .i64 (H : Int)) (.int .i64 (H : Int))).run Try.prog W = .ok (.slice (some ⟨W.heap.size, 0, none⟩) H H) (W.alloc (.cells (madeCells #[.bool false] H) 4)) := fun W =>
    run_make_row (P := Try.prog) 44 4 j0 (.bool false) Try.underlying44 hj0 hy0 hy1 rfl .i64 .i64 H (by rw [hy2]; omega) (by omega) W
  have q1 : ((N : Int)).tdiv 2 = (H : Int) := by rw [Int.tdiv_eq_ediv_of_nonneg (by omega)]; omega
  have q2 : (N : Int) / 2 = (H : Int) := by omega
  have q3 : IntKind.i64.wrap (H : Int) = (H : Int) := IntWalk.i64_in _ (by omega)
  clear hlen hN hv hu hH h2 h16 hdx hdy hev hok hmx hmy
  go_enter Try.func47, Try.ntmps47
  go_upto_region 1 with fail
  go_cut [6] (fun p wx => ∃ (B g : Nat) (A1 : Option Addr) (c1 lo1 hi1 : Nat), p = .pointer (some ⟨B, 0, none⟩) ∧ SmAt w wx (flL xs) N H (.slice A' N cap') B g A1 c1 lo1 hi1)
  case first =>
    go_region_law (go_simp; go_at_call 49; (with_reducible refine (HUP.out _ (HV.out.keep (by first | exact (Below.refl _ _).drew | exact ((Below.refl _ _).alloc (Nat.le_refl _) _).drew | exact (((Below.refl _ _).alloc (Nat.le_refl _) _).alloc (by simp) _).drew) hhi) (by first | exact hhi | (simp; omega))).mono ?_); rintro e w1 ⟨v1, rfl, ho1, hb1⟩; have HO1 := Lib.hid ho1; have HB1 := Lib.hid hb1; (first | (have hz := sa1 (w := w) rfl hb1 rfl; obtain ⟨hA0, hA1, hA2, hA3, hA4, hA5⟩ := seam3 hz; have hC0 := fun x => (seam3 (heap_alloc hz x)).1; have hC1 := fun x => (seam3 (heap_alloc hz x)).2.1; have hC2 := fun x => (seam3 (heap_alloc hz x)).2.2.1; have hC3 := fun x => (seam3 (heap_alloc hz x)).2.2.2.1; have hC4 := fun x => (seam3 (heap_alloc hz x)).2.2.2.2.1; have hC5 := fun x => (seam3 (heap_alloc hz x)).2.2.2.2.2; have HZ := Lib.hid hz; clear hz) | (have hz := sa2 (w := w) rfl hb1 rfl; obtain ⟨hA0, hA1, hA2, hA3, hA4, hA5⟩ := seam3 hz; have hC0 := fun x => (seam3 (heap_alloc hz x)).1; have hC1 := fun x => (seam3 (heap_alloc hz x)).2.1; have hC2 := fun x => (seam3 (heap_alloc hz x)).2.2.1; have hC3 := fun x => (seam3 (heap_alloc hz x)).2.2.2.1; have hC4 := fun x => (seam3 (heap_alloc hz x)).2.2.2.2.1; have hC5 := fun x => (seam3 (heap_alloc hz x)).2.2.2.2.2; have HZ := Lib.hid hz; clear hz) | (have hz := sa3 (w := w) rfl hb1 rfl; obtain ⟨hA0, hA1, hA2, hA3, hA4, hA5⟩ := seam3 hz; have hC0 := fun x => (seam3 (heap_alloc hz x)).1; have hC1 := fun x => (seam3 (heap_alloc hz x)).2.1; have hC2 := fun x => (seam3 (heap_alloc hz x)).2.2.1; have hC3 := fun x => (seam3 (heap_alloc hz x)).2.2.2.1; have hC4 := fun x => (seam3 (heap_alloc hz x)).2.2.2.2.1; have hC5 := fun x => (seam3 (heap_alloc hz x)).2.2.2.2.2; have HZ := Lib.hid hz; clear hz) | skip); clear hb1; obtain ⟨A1, c1, ev, -⟩ := ho1; rw [HFL.out] at ev; subst ev)
    all_goals (go_wp2_with fail; go_meet)
    · exact ⟨_, _, _, _, _, _, rfl, leaf1 HB1.out HO1.out⟩
    · exact ⟨_, _, _, _, _, _, rfl, leaf2 HB1.out HO1.out⟩
    · exact ⟨_, _, _, _, _, _, rfl, leaf3 HB1.out HO1.out⟩
    · exact ⟨_, _, _, _, _, _, rfl, leaf4 HB1.out HZ.out HO1.out⟩
    · exact ⟨_, _, _, _, _, _, rfl, leaf5 HB1.out HZ.out HO1.out⟩
    · exact ⟨_, _, _, _, _, _, rfl, leaf6 HB1.out HZ.out HO1.out⟩
  case rest =>
    obtain ⟨B, g, A1, c1, lo1, hi1, rfl, hs1, hs2, hs3, hs4, hs5, hs6, hs7, hs8, hs9, hs10, hs11⟩ := hcut
    have HS1 := Lib.hid hs1
    have HS2 := Lib.hid hs2
    have HS3 := Lib.hid hs3
    have HS4 := Lib.hid hs4
    have HU1 := Lib.hid (HU.out.keep hs4 hhu)
    have zB := hs1.lt
    have zg := hs3.lt
    clear hs1 hs2 hs3 hs4 hmk q1 q2 q3 HUP
    obtain ⟨i0, hi0, hz0, hz1, hz2⟩ := info_parts info3
    go_wp2_with (at_make; refine wpList_make_full _ rfl _ _ 42 rfl wc.heap.size 3 i0 (.int .i64 0) 1 Try.underlying42 hi0 hz0 hz1 .i64 .i64 (N : Int) (N : Int) N rfl rfl (by omega) (by omega) (by rw [hz2]; omega) (by unfold maxLen; omega) (Nat.le_refl _) ?_; intro w3 hown1 hgrow1; have HT0 := Lib.hid (TabI.made hown1); have HB3 := Lib.hid ((Below.refl wc.heap.size wc).grown hgrow1 (Nat.le_refl _) (fun k hk => by cases hk)); clear hown1 hgrow1)
    have z3 := HB3.out.size
    have HT1 := Lib.hid (show TabI w3 wc.heap.size N (mdF (nx (flL xs)) (nx ys) H 0) by rw [mdF_zero]; exact HT0.out)
    have HS5 := Lib.hid (show SmB w3 B g H (.slice A1 N c1) (.slice A' N cap') from (HB3.out.block B zB).trans HS1.out)
    have HS6 := Lib.hid (HS2.out.keep HB3.out hs8)
    have HS7 := Lib.hid (show TkB w3 g H (wkS (nx (flL xs)) (nx ys) H 0) from HS3.out.keep (HB3.out.block g zg))
    have HS8 := Lib.hid (HS4.out.trans (HB3.out.mono HS4.out.size))
    have HU2 := Lib.hid (HU1.out.keep HB3.out (by have := HS4.out.size; omega))
    have z4 := HS4.out.size
    generalize hgu : nx (flL xs) = u at *
    generalize hgb : nx ys = b at *
    clear hgu hgb
    go_wp2
    go_loopw [24] (fun y wr => ∃ i : Nat, i ≤ N ∧ y = .int .i64 i ∧ TabI wr wc.heap.size N (mdF u b H i) ∧ TkB wr g H (wkS u b H i) ∧ SmB wr B g H (.slice A1 N c1) (.slice A' N cap') ∧ OwnI wr lo1 hi1 (.slice A1 N c1) (flL xs) ∧ OwnI wr lo' hi' (.slice A' N cap') ys ∧ w3.heap.size ≤ wr.heap.size ∧ Below w.heap.size w wr) (fun y _ => N - (intOf y).toNat)
    case atStart => exact ⟨0, Nat.zero_le _, rfl, HT1.out, HS7.out, HS5.out, HS6.out, HU2.out, Nat.le_refl _, HS8.out⟩
    case round =>
      obtain ⟨i, hi, rfl, ht, hk, hm, ho, hu, hz, hb⟩ := hrel
      have HT := Lib.hid ht
      have HK := Lib.hid hk
      have HM := Lib.hid hm
      have HO := Lib.hid ho
      have HUR := Lib.hid hu
      have HBR := Lib.hid hb
      clear ht hk hm ho hu hb
      have zT := HT.out.lt
      by_cases hlt : i < N
      · have hii : (i : Int) < (N : Int) := by omega
        by_cases hiH : i < H
        · have HSE := Lib.hid (isSewn B g H i (.slice A1 N c1) (.slice A' N cap') wr HM.out)
          rw [show decide (i < H) = true from decide_eq_true hiH] at HSE
          have hstT : stT H i = true := decide_eq_true hiH
          have hstP : stP H i = N - 1 - i := by have := HHN.out; unfold stP; rw [if_pos hiH]; omega
          have HNO := Lib.hid (show wkO u b H i = (wk u b N H (2 * H + 1) true (N - 1 - i) (wkS u b H i)).1 by unfold wkO; rw [hstT, hstP, HHN.out])
          have HNS := Lib.hid (show wkS u b H (i + 1) = (wk u b N H (2 * H + 1) true (N - 1 - i) (wkS u b H i)).2 by rw [wkS, hstT, hstP, HHN.out])
          have hst := stP_lt (n := H) (i := i) (by have := HHN.out; omega)
          have HEN := Lib.hid (en_all HIU.out HIB.out (stT H i) (p := stP H i) (by have := HHN.out; omega) hst.2)
          rw [hstT, hstP] at HEN
          have HTH := Lib.hid (through B g H N A1 A' c1 cap' lo1 hi1 lo' hi' (flL xs) ys u b (by have := HHN.out; omega) hN16 hs9 hs10 (.inr (by omega)) HFL.out HE2.out.symm HUA.out HBA.out HIU.out HIB.out (2 * H + 1) true (N - 1 - i) (wkS u b H i) wr HEN.out (by omega) HM.out HO.out HUR.out HK.out)
          rw [show thN' true = 60 from rfl] at HTH
          generalize wk u b N H (2 * H + 1) true (N - 1 - i) (wkS u b H i) = R at *
          have HNX := Lib.hid (mdF_succ u b H i)
          clear hstT hstP hst
          have HOP := Lib.hid (oppositeI (some ⟨wc.heap.size, 0, none⟩) N N (i : Int) wr (by omega) (by omega) (by omega))
          rw [show (N : Int) - 1 - (i : Int) = ((N - 1 - i : Nat) : Int) by omega] at HOP
          generalize N - 1 - i = c0 at *
          go_wp2_with fail
          (with_reducible refine HSE.out.mono ?_)
          rintro e' w' ⟨rfl, rfl⟩
          go_wp2_with fail
          (with_reducible refine HOP.out.mono ?_)
          rintro e' w' ⟨rfl, rfl⟩
          go_wp2_with fail
          (with_reducible refine HTH.out.mono ?_)
          rintro e' w5 ⟨rfl, ht5, hg5⟩
          have HT5 := Lib.hid (HT.out.keep (w' := w5) (hg5.block _ (by omega) (by simp; omega)))
          have HK5 := Lib.hid ht5
          have HM5 := Lib.hid (HM.out.far hg5 (Ne.symm hs9))
          have HO5 := Lib.hid (HO.out.far hg5 hs10)
          have HU5 := Lib.hid (HUR.out.far hg5 (.inr (by omega)))
          have HB5 := Lib.hid (HBR.out.grown hg5 (by omega) (fun k hk => by cases hk; exact hs6))
          have hz5 := hg5.size
          have hG5 := grown_set w5 wc.heap.size i (.int .i64 (R.1 : Int))
          have HM6 := Lib.hid (HM5.out.far hG5 (by omega))
          have HO6 := Lib.hid (HO5.out.far hG5 (.inr hs8))
          have HU6 := Lib.hid (HU5.out.far hG5 (.inr (by omega)))
          have HB6 := Lib.hid (HB5.out.setCell (p := ⟨wc.heap.size, i, none⟩) z4 (.int .i64 (R.1 : Int)))
          obtain ⟨hc6, hf6⟩ := HT5.out.cell (j := i) hlt
          generalize mdF u b H i i = y0 at hc6
          clear ht5 hg5 hG5
          go_wp2
          refine ⟨⟨i + 1, by omega, by simp, ?_, ?_, HM6.out, HO6.out, HU6.out, by simp [World.setCell]; omega, HB6.out⟩, by simp [intOf]; omega⟩
          · rw [HNX.out, HNO.out]; exact HT5.out.set hlt _
          · rw [HNS.out]; exact HK5.out.off (by omega) _
        · have HSE := Lib.hid (isSewn B g H i (.slice A1 N c1) (.slice A' N cap') wr HM.out)
          rw [show decide (i < H) = false from decide_eq_false hiH] at HSE
          have hstT : stT H i = false := decide_eq_false hiH
          have hstP : stP H i = i := by have := HHN.out; unfold stP; rw [if_neg hiH]
          have HNO := Lib.hid (show wkO u b H i = (wk u b N H (2 * H + 1) false (i) (wkS u b H i)).1 by unfold wkO; rw [hstT, hstP, HHN.out])
          have HNS := Lib.hid (show wkS u b H (i + 1) = (wk u b N H (2 * H + 1) false (i) (wkS u b H i)).2 by rw [wkS, hstT, hstP, HHN.out])
          have hst := stP_lt (n := H) (i := i) (by have := HHN.out; omega)
          have HEN := Lib.hid (en_all HIU.out HIB.out (stT H i) (p := stP H i) (by have := HHN.out; omega) hst.2)
          rw [hstT, hstP] at HEN
          have HTH := Lib.hid (through B g H N A1 A' c1 cap' lo1 hi1 lo' hi' (flL xs) ys u b (by have := HHN.out; omega) hN16 hs9 hs10 (.inr (by omega)) HFL.out HE2.out.symm HUA.out HBA.out HIU.out HIB.out (2 * H + 1) false (i) (wkS u b H i) wr HEN.out (by omega) HM.out HO.out HUR.out HK.out)
          rw [show thN' false = 58 from rfl] at HTH
          generalize wk u b N H (2 * H + 1) false (i) (wkS u b H i) = R at *
          have HNX := Lib.hid (mdF_succ u b H i)
          clear hstT hstP hst
          go_wp2_with fail
          (with_reducible refine HSE.out.mono ?_)
          rintro e' w' ⟨rfl, rfl⟩
          go_wp2_with fail
          (with_reducible refine HTH.out.mono ?_)
          rintro e' w5 ⟨rfl, ht5, hg5⟩
          have HT5 := Lib.hid (HT.out.keep (w' := w5) (hg5.block _ (by omega) (by simp; omega)))
          have HK5 := Lib.hid ht5
          have HM5 := Lib.hid (HM.out.far hg5 (Ne.symm hs9))
          have HO5 := Lib.hid (HO.out.far hg5 hs10)
          have HU5 := Lib.hid (HUR.out.far hg5 (.inr (by omega)))
          have HB5 := Lib.hid (HBR.out.grown hg5 (by omega) (fun k hk => by cases hk; exact hs6))
          have hz5 := hg5.size
          have hG5 := grown_set w5 wc.heap.size i (.int .i64 (R.1 : Int))
          have HM6 := Lib.hid (HM5.out.far hG5 (by omega))
          have HO6 := Lib.hid (HO5.out.far hG5 (.inr hs8))
          have HU6 := Lib.hid (HU5.out.far hG5 (.inr (by omega)))
          have HB6 := Lib.hid (HB5.out.setCell (p := ⟨wc.heap.size, i, none⟩) z4 (.int .i64 (R.1 : Int)))
          obtain ⟨hc6, hf6⟩ := HT5.out.cell (j := i) hlt
          generalize mdF u b H i i = y0 at hc6
          clear ht5 hg5 hG5
          go_wp2
          refine ⟨⟨i + 1, by omega, by simp, ?_, ?_, HM6.out, HO6.out, HU6.out, by simp [World.setCell]; omega, HB6.out⟩, by simp [intOf]; omega⟩
          · rw [HNX.out, HNO.out]; exact HT5.out.set hlt _
          · rw [HNS.out]; exact HK5.out.off (by omega) _
      · obtain rfl : i = N := by omega
        have HOW := Lib.hid (show OwnI wr wc.heap.size wr.heap.size (.slice (some ⟨wc.heap.size, 0, none⟩) i i) (mdL u b H i) from OwnI.of_tab HT.out (mdL_len u b H i) (Nat.le_refl _) (fun q hq => mdL_at u b H hq) (Nat.le_refl _) HT.out.lt)
        have HNN := HHN.out
        rw [← HNN] at HP HZ HIN
        have hc0 := HM.out.c0
        have hc1 := HM.out.c1
        have hc2 := HM.out.c2
        have HCD := Lib.hid (countLoopsD A1 A' (flL xs) ys i H c1 cap' lo1 hi1 lo' hi' wr g (wkS u b H i) HO.out HUR.out hs10 (.inr (by omega)) HFL.out HE2.out.symm HIN.out.1 HIN.out.2 HK.out (by omega) hN16)
        clear HNN
        go_wp2_with fail
        (with_reducible refine HCD.out.mono ?_)
        rintro e' w5 ⟨rfl, hg5⟩
        have HO5 := Lib.hid ((HOW.out.far hg5 (.inl zg)).wide z4 hg5.size)
        have HB5 := Lib.hid (HBR.out.grown hg5 (by omega) (fun k hk => by cases hk; exact hs6))
        clear hg5
        go_wp2
        go_ret2
        exact ⟨_, ret_vz rfl (by rw [HZ.out]), by rw [HP.out]; exact HO5.out, HB5.out⟩

end Go.Proofs.Ytcckpodpgenapaa
