/- Alphabets: letters with a rise and a width; the program's kindOf and spells. -/
import Derived.Test.YtbnhjecapodflaaImpl2A
import Derived.Test.YtbnhjecapodflaaStrB
import Derived.WalkSmall
import Derived.Laws.ResultCell
namespace Go.Proofs.Ytbnhjecapodflaa
open Go.ChangeShapes Go.WideShapes Go.ChangeAt Go.RowKit
open Go.PlainAid (bt bt_nonneg bt_le get_bt bt_end)
set_option linter.unusedVariables false

abbrev Kd := Int × Int × Int
def kd0 : Kd := (0, 0, 0)
def fnd (ks : List Kd) (x : Int) : Option Kd := ks.find? fun k => k.1 == x
theorem fnd_no {ks : List Kd} {x : Int} (h : ∀ j, j < ks.length → (ks.getD j kd0).1 ≠ x) : fnd ks x = none := by
  unfold fnd
  rw [List.find?_eq_none]
  intro k hk
  obtain ⟨j, hj, rfl⟩ := List.mem_iff_getElem.1 hk
  have := h j hj
  rw [List.getD_eq_getElem?_getD, List.getElem?_eq_getElem hj] at this
  simpa using this
theorem fnd_yes {ks : List Kd} {x : Int} {i : Nat} (hi : i < ks.length) (h : (ks.getD i kd0).1 = x) (hn : ∀ j, j < i → (ks.getD j kd0).1 ≠ x) : fnd ks x = some (ks.getD i kd0) := by
  unfold fnd
  rw [List.find?_eq_some_iff_getElem]
  rw [List.getD_eq_getElem?_getD, List.getElem?_eq_getElem hi] at h ⊢
  refine ⟨by simpa using h, i, hi, rfl, fun j hj => ?_⟩
  have := hn j hj
  rw [List.getD_eq_getElem?_getD, List.getElem?_eq_getElem (by omega)] at this
  simpa using this
def kdV (k : Kd) : Value := .agg #[.int .i32 k.1, .int .i64 k.2.1, .int .i64 k.2.2]
/-- Block g is an alphabet. -/
def Alph (w : World) (g : Nat) (ks : List Kd) : Prop := g < w.heap.size ∧ ∀ i, i < ks.length → w.cell? ⟨g, i * 3, none⟩ = some (.int .i32 (ks.getD i kd0).1) ∧ w.cell? ⟨g, i * 3 + 1, none⟩ = some (.int .i64 (ks.getD i kd0).2.1) ∧ w.cell? ⟨g, i * 3 + 2, none⟩ = some (.int .i64 (ks.getD i kd0).2.2)
theorem Alph.keep {w w' : World} {g : Nat} {ks : List Kd} (h : Alph w g ks) (hb : Below w.heap.size w w') : Alph w' g ks := by
  refine ⟨Nat.lt_of_lt_of_le h.1 hb.size, fun i hi => ?_⟩
  obtain ⟨h1, h2, h3⟩ := h.2 i hi
  exact ⟨(hb.cell (p := ⟨g, i * 3, none⟩) h.1).trans h1, (hb.cell (p := ⟨g, i * 3 + 1, none⟩) h.1).trans h2, (hb.cell (p := ⟨g, i * 3 + 2, none⟩) h.1).trans h3⟩

set_option maxRecDepth 100000 in
theorem kindOf1 (c r q x : Int) (b : Nat) (w : World) (hc : w.cell? ⟨b, 0, none⟩ = some (.int .i32 x)) :
    Calls Try.prog 44 #[.agg #[.int .i32 c, .int .i64 r, .int .i64 q], .pointer (some ⟨b, 0, none⟩)] w fun e w' => e = .returned (.bool (c == x)) ∧ Below w.heap.size w w' := by
  have hlt : b < w.heap.size := by
    rcases Nat.lt_or_ge b w.heap.size with h | h
    · exact h
    · have hnn : w.heap[b]? = none := Array.getElem?_eq_none h
      simp [World.cell?, hnn] at hc
  have HB := Lib.hid ((Below.refl w.heap.size w).alloc (Nat.le_refl _) (.cells #[.int .i32 c, .int .i64 r, .int .i64 q] 46))
  have hc2 := (HB.out.cell (p := ⟨b, 0, none⟩) hlt).trans hc
  go_enter Try.func44, Try.ntmps44
  go_wp2
  go_ret
  exact ⟨ret_bool rfl, HB.out⟩

set_option maxRecDepth 100000 in
set_option maxHeartbeats 1600000 in
theorem indexKind (ks : List Kd) (g b n : Nat) (x : Int) (w : World) (hA : Alph w g ks) (hn : ks.length = n) (h3 : n ≤ 3) (hc : w.cell? ⟨b, 0, none⟩ = some (.int .i32 x)) :
    Calls Try.prog 43 #[.slice (some ⟨g, 0, none⟩) n n, .func (.func 44) #[] #[.pointer (some ⟨b, 0, none⟩)]] w
      fun e w' => (∃ r : Int, e = .returned (.int .i64 r) ∧ ((r = -1 ∧ fnd ks x = none) ∨ ∃ i : Nat, r = i ∧ i < n ∧ fnd ks x = some (ks.getD i kd0))) ∧ Below w.heap.size w w' := by
  have hlt : b < w.heap.size := by
    rcases Nat.lt_or_ge b w.heap.size with h | h
    · exact h
    · have hnn : w.heap[b]? = none := Array.getElem?_eq_none h
      simp [World.cell?, hnn] at hc
  have HC := Lib.hid hc
  have HAL := Lib.hid hA
  have HN := Lib.hid hn
  have HLT := Lib.hid hlt
  clear hc hA hn
  go_enter Try.func43, Try.ntmps43
  go_wp2
  go_loopw [8] (fun y wr => ∃ i : Nat, i ≤ n ∧ y = .int .i64 i ∧ Below w.heap.size w wr ∧ ∀ j, j < i → (ks.getD j kd0).1 ≠ x) (fun y _ => n - (intOf y).toNat)
  case atStart => exact ⟨0, Nat.zero_le _, rfl, Below.refl _ _, fun j h => absurd h (Nat.not_lt_zero _)⟩
  case round =>
    obtain ⟨i, hi, rfl, hb, hle⟩ := hrel
    have HLE := Lib.hid hle
    have HB := Lib.hid hb
    have hB := hb.size
    clear hle hb
    by_cases hlti : i < n
    · have hii : (i : Int) < (n : Int) := by omega
      have hcb := (HB.out.cell (p := ⟨b, 0, none⟩) HLT.out).trans HC.out
      obtain ⟨k1, k2, k3⟩ := (HAL.out.keep HB.out).2 i (by rw [HN.out]; exact hlti)
      have HK := Lib.hid (fun W (h : W.cell? ⟨b, 0, none⟩ = some (.int .i32 x)) => kindOf1 (ks.getD i kd0).1 (ks.getD i kd0).2.1 (ks.getD i kd0).2.2 x b W h)
      by_cases e : (ks.getD i kd0).1 = x
      · have HF := Lib.hid (fnd_yes (by rw [HN.out]; exact hlti) e HLE.out)
        have he : ((ks.getD i kd0).1 == x) = true := by simpa using e
        rw [he] at HK
        clear e he
        generalize (ks.getD i kd0).1 = c at *
        generalize (ks.getD i kd0).2.1 = r at *
        generalize (ks.getD i kd0).2.2 = q at *
        go_wp2_with fail
        (with_reducible refine (HK.out _ ?h).mono ?_)
        case h => exact hcb
        rintro e w1 ⟨rfl, hb1⟩
        go_wp2
        go_ret
        exact ⟨⟨_, rfl, .inr ⟨i, rfl, hlti, HF.out⟩⟩, HB.out.trans (hb1.mono hB)⟩
      · have HST := Lib.hid (show ∀ j, j < i + 1 → (ks.getD j kd0).1 ≠ x from fun j hj => by
          by_cases ej : j = i
          · subst ej; exact e
          · exact HLE.out j (by omega))
        have he : ((ks.getD i kd0).1 == x) = false := beq_eq_false_iff_ne.2 e
        rw [he] at HK
        clear e he
        generalize (ks.getD i kd0).1 = c at *
        generalize (ks.getD i kd0).2.1 = r at *
        generalize (ks.getD i kd0).2.2 = q at *
        go_wp2_with fail
        (with_reducible refine (HK.out _ ?h).mono ?_)
        case h => exact hcb
        rintro e w1 ⟨rfl, hb1⟩
        go_wp2
        exact ⟨⟨i + 1, by omega, by simp, HB.out.trans (hb1.mono hB), HST.out⟩, by simp [intOf]; omega⟩
    · obtain rfl : i = n := by omega
      have HF := Lib.hid (fnd_no (by rw [HN.out]; exact HLE.out))
      go_wp2
      go_ret
      exact ⟨⟨_, rfl, .inl ⟨rfl, HF.out⟩⟩, HB.out⟩

set_option maxRecDepth 100000 in
set_option maxHeartbeats 1600000 in
theorem kindOfI (ks : List Kd) (g n : Nat) (x : Int) (w : World) (hA : Alph w g ks) (hn : ks.length = n) (h3 : n ≤ 3) :
    Calls Try.prog 35 #[.slice (some ⟨g, 0, none⟩) n n, .int .i32 x] w
      fun e w' => e = .returned (.tuple #[kdV ((fnd ks x).getD kd0), .bool (fnd ks x).isSome]) ∧ Below w.heap.size w w' := by
  have HB1 := Lib.hid ((Below.refl w.heap.size w).alloc (Nat.le_refl _) (.cells #[.int .i32 x] 21))
  have HB2 := Lib.hid (HB1.out.alloc HB1.out.size (.cells #[.int .i32 0, .int .i64 0, .int .i64 0] 46))
  have hAk := Lib.hid (hA.keep HB2.out)
  have HX := Lib.hid (indexKind ks g w.heap.size n x ((w.alloc (.cells #[.int .i32 x] 21)).alloc (.cells #[.int .i32 0, .int .i64 0, .int .i64 0] 46)) hAk.out hn h3 (by rw [World.cell?_alloc_lt _ _ _ (by simp)]; exact cell_one w _ _))
  have HBX := Lib.hid (show w.heap.size + 2 ≤ ((w.alloc (.cells #[.int .i32 x] 21)).alloc (.cells #[.int .i32 0, .int .i64 0, .int .i64 0] 46)).heap.size by simp)
  have HW := Lib.hid (show ((w.alloc (.cells #[.int .i32 x] 21)).alloc (.cells #[.int .i32 0, .int .i64 0, .int .i64 0] 46)).heap[w.heap.size + 1]? = some (.cells #[.int .i32 0, .int .i64 0, .int .i64 0] 46 (0, 0)) by
    have h : (w.alloc (.cells #[.int .i32 x] 21)).heap.size = w.heap.size + 1 := by simp
    rw [← h]; exact Array.getElem?_push_size)
  have HA := Lib.hid hA
  have HN := Lib.hid hn
  clear hA hn
  go_enter Try.func35, Try.ntmps35
  go_wp2_with fail
  (with_reducible refine HX.out.mono ?_)
  generalize (w.alloc (.cells #[.int .i32 x] 21)).alloc (.cells #[.int .i32 0, .int .i64 0, .int .i64 0] 46) = W0 at *
  rintro e w1 ⟨⟨r, rfl, hr⟩, hb⟩
  have HB3 := Lib.hid (HB2.out.trans (hb.mono HB2.out.size))
  have HBK := Lib.hid ((hb.block (w.heap.size + 1) (by have := HBX.out; omega)).trans HW.out)
  have HA1 := Lib.hid (HA.out.keep HB3.out)
  have c0 : w1.cell? ⟨w.heap.size + 1, 0, none⟩ = some (.int .i32 0) := by rw [cell_of_row w1 _ 0 _ _ (0, 0) HBK.out]; rfl
  have c1 : w1.cell? ⟨w.heap.size + 1, 1, none⟩ = some (.int .i64 0) := by rw [cell_of_row w1 _ 1 _ _ (0, 0) HBK.out]; rfl
  have c2 : w1.cell? ⟨w.heap.size + 1, 2, none⟩ = some (.int .i64 0) := by rw [cell_of_row w1 _ 2 _ _ (0, 0) HBK.out]; rfl
  have f0 : w1.frozen? ⟨w.heap.size + 1, 0, none⟩ = false := by unfold World.frozen?; rw [HBK.out]; rfl
  have f1 : w1.frozen? ⟨w.heap.size + 1, 1, none⟩ = false := by unfold World.frozen?; rw [HBK.out]; rfl
  have f2 : w1.frozen? ⟨w.heap.size + 1, 2, none⟩ = false := by unfold World.frozen?; rw [HBK.out]; rfl
  clear hb
  rcases hr with ⟨rfl, hf⟩ | ⟨i, rfl, hi, hf⟩
  · have HE := Lib.hid hf
    clear hf
    go_wp2
    (try simp only [Exit.inBlock, Exit.then])
    refine bodyPost_ret (v := .tuple #[kdV kd0, .bool false]) ?_ rfl ⟨by rw [HE.out]; rfl, ?_⟩
    · rw [results_cell_tmp rfl]
      unfold kdV kd0
      go_simp
    · exact ((HB3.out.setCell (p := ⟨w.heap.size + 1, 0, none⟩) (Nat.le_succ _) _).setCell (p := ⟨w.heap.size + 1, 1, none⟩) (Nat.le_succ _) _).setCell (p := ⟨w.heap.size + 1, 2, none⟩) (Nat.le_succ _) _
  · have HE := Lib.hid hf
    obtain ⟨k1, k2, k3⟩ := HA1.out.2 i (by rw [HN.out]; exact hi)
    have hii : (i : Int) < (n : Int) := by omega
    have hin : ¬ (i : Int) < 0 := by omega
    have hind : decide ((i : Int) < 0) = false := decide_eq_false hin
    clear hf
    generalize hkk : ks.getD i kd0 = kk at *
    obtain ⟨c, r, q⟩ := kk
    clear hkk
    dsimp only at k1 k2 k3
    go_wp2
    (try simp only [Exit.inBlock, Exit.then])
    refine bodyPost_ret (v := .tuple #[kdV (c, r, q), .bool true]) ?_ rfl ⟨by rw [HE.out]; rfl, ?_⟩
    · rw [results_cell_tmp rfl]
      unfold kdV
      go_simp
    · exact ((HB3.out.setCell (p := ⟨w.heap.size + 1, 0, none⟩) (Nat.le_succ _) _).setCell (p := ⟨w.heap.size + 1, 1, none⟩) (Nat.le_succ _) _).setCell (p := ⟨w.heap.size + 1, 2, none⟩) (Nat.le_succ _) _

/-- A word of an alphabet from a height on. -/
def spG (ks : List Kd) : Int → List UInt8 → Bool
  | h, [] => h == 0
  | h, c :: l => match fnd ks (c.toNat : Int) with | none => false | some k => if h + k.2.1 < 0 then false else spG ks (h + k.2.1) l
/-- Its width. -/
def wdG (ks : List Kd) : List UInt8 → Int
  | [] => 0
  | c :: l => ((fnd ks (c.toNat : Int)).getD kd0).2.2 + wdG ks l
theorem spG_nil (ks : List Kd) (h : Int) : spG ks h [] = (h == 0) := by rw [spG]
theorem spG_no {ks : List Kd} {c : UInt8} (h : Int) (l : List UInt8) (e : fnd ks (c.toNat : Int) = none) : spG ks h (c :: l) = false := by rw [spG, e]
theorem spG_low {ks : List Kd} {c : UInt8} {k : Kd} (h : Int) (l : List UInt8) (e : fnd ks (c.toNat : Int) = some k) (h1 : h + k.2.1 < 0) : spG ks h (c :: l) = false := by rw [spG, e]; exact if_pos h1
theorem spG_on {ks : List Kd} {c : UInt8} {k : Kd} (h : Int) (l : List UInt8) (e : fnd ks (c.toNat : Int) = some k) (h1 : ¬ h + k.2.1 < 0) : spG ks h (c :: l) = spG ks (h + k.2.1) l := by rw [spG, e]; exact if_neg h1
theorem wdG_on {ks : List Kd} {c : UInt8} {k : Kd} (l : List UInt8) (e : fnd ks (c.toNat : Int) = some k) : wdG ks (c :: l) = k.2.2 + wdG ks l := by rw [wdG, e]; rfl
/-- No letter is longer than 2, higher than 3 or lower than -1. -/
def Mod (ks : List Kd) : Prop := ∀ x k, fnd ks x = some k → 0 ≤ k.2.2 ∧ k.2.2 ≤ 2 ∧ -1 ≤ k.2.1 ∧ k.2.1 ≤ 3 ∧ x < 128
theorem wdG_nn {ks : List Kd} (hm : Mod ks) : ∀ l, 0 ≤ wdG ks l
  | [] => Int.le_refl _
  | c :: l => by
    rw [wdG]
    have := wdG_nn hm l
    cases e : fnd ks (c.toNat : Int) with
    | none => show 0 ≤ kd0.2.2 + _; show (0 : Int) ≤ 0 + _; omega
    | some k => have := hm _ _ e; show 0 ≤ k.2.2 + _; omega
/-- A word of an alphabet of at most a width. -/
def alB (ks : List Kd) (most : Int) (s : ByteArray) : Bool := spG ks 0 s.data.toList && decide (wdG ks s.data.toList ≤ most)

set_option maxRecDepth 100000 in
set_option maxHeartbeats 3200000 in
theorem spellsI (ks : List Kd) (g n : Nat) (most : Int) (s : ByteArray) (w : World) (hA : Alph w g ks) (hn : ks.length = n) (h3 : n ≤ 3) (hm : Mod ks) (h0 : 0 ≤ most) (hmo : most ≤ 1000) (hs : s.size ≤ 1048577) :
    Calls Try.prog 31 #[.slice (some ⟨g, 0, none⟩) n n, .string s, .int .i64 most] w fun e w' => e = .returned (.bool (alB ks most s)) ∧ Below w.heap.size w w' := by
  have HA := Lib.hid hA
  have HN := Lib.hid hn
  have HM := Lib.hid hm
  have HNN := Lib.hid (fun l => wdG_nn hm l)
  clear hA hn hm
  go_enter Try.func31, Try.ntmps31
  go_wp2
  go_loopw [7, 8] (fun x y wr => ∃ (i : Nat) (h v : Int), i ≤ s.size ∧ 0 ≤ h ∧ h ≤ 3 * (i : Int) ∧ 0 ≤ v ∧ v ≤ most ∧ x = .int .i64 h ∧ y = .int .i64 v ∧ wr.heap[w.heap.size]? = some (.stringIter s i) ∧ Below w.heap.size w wr ∧ spG ks 0 s.data.toList = spG ks h (rest s i) ∧ wdG ks s.data.toList = v + wdG ks (rest s i)) (fun _ _ wr => s.size - wr.iterPos w.heap.size)
  case atStart => exact ⟨0, 0, 0, Nat.zero_le _, by omega, by omega, by omega, h0, rfl, rfl, World.iter_heap w s 0, (Below.refl _ _).alloc (Nat.le_refl _) _, rfl, by rw [rest_zero]; omega⟩
  case round =>
    obtain ⟨i, h, v, hi, h1, h2, v0, v1, rfl, rfl, hit, hb, hu, hw⟩ := hrel
    have HU := Lib.hid hu
    have HWD := Lib.hid hw
    have HIT := Lib.hid hit
    have HB := Lib.hid hb
    clear hu hw hb
    by_cases hlt : i < s.size
    · have HR := Lib.hid (rest_cons s i hlt)
      -- the next rune, and what kindOf answers of it
      obtain ⟨x, j, hnx, hxf⟩ : ∃ (x : Int) (j : Nat), (∀ ty, (Instr.next (.pointer (some ⟨w.heap.size, 0, none⟩)) true ty).run Try.prog wr = .ok (.tuple #[.bool true, .int .i64 i, .int .i32 x]) (wr.iterAt w.heap.size s j)) ∧ Hid ((fnd ks x = fnd ks (s[i].toNat : Int)) ∧ ((fnd ks x).isSome = true → j = i + 1)) := by
        by_cases ha : s[i].toNat < 128
        · exact ⟨(s[i].toNat : Int), i + 1, fun ty => Lib.run_next_ascii_at wr _ s i ty hit hlt ha, Lib.hid ⟨rfl, fun _ => rfl⟩⟩
        · have hd := (decode_high s i hlt (by omega)).1
          have q1 : fnd ks ((Utf8.decode s i).1 : Int) = none := by
            cases e : fnd ks ((Utf8.decode s i).1 : Int) with
            | none => rfl
            | some k => have := (HM.out _ _ e).2.2.2.2; omega
          have q2 : fnd ks (s[i].toNat : Int) = none := by
            cases e : fnd ks (s[i].toNat : Int) with
            | none => rfl
            | some k => have := (HM.out _ _ e).2.2.2.2; omega
          exact ⟨((Utf8.decode s i).1 : Int), i + (Utf8.decode s i).2, fun ty => Lib.run_next_any_at wr _ s i ty hit hlt, Lib.hid ⟨by rw [q1, q2], fun h => by rw [q1] at h; cases h⟩⟩
      have hBW := Lib.hid (Lib.below_iterAt HB.out (Nat.le_refl _) s j)
      obtain ⟨W, hW⟩ : ∃ W, Hid (W = wr.iterAt w.heap.size s j) := ⟨_, Lib.hid rfl⟩
      have HIW := Lib.hid (show W.heap[w.heap.size]? = some (.stringIter s j) by rw [hW.out]; exact Lib.iterAt_heap _ _ _ _ _ HIT.out)
      simp only [← hW.out] at hnx
      rw [← hW.out] at hBW
      have HK := Lib.hid (kindOfI ks g n x W (HA.out.keep hBW.out) HN.out h3)
      have hBz := hBW.out.size
      clear hit
      rcases hk : fnd ks x with _ | ⟨c, r, q⟩
      · rw [hk] at HK
        have HF := Lib.hid (show alB ks most s = false by unfold alB; rw [HU.out, HR.out, spG_no _ _ (hxf.out.1 ▸ hk)]; rfl)
        clear hk
        unfold kdV kd0 at HK
        go_wp2_with fail
        (with_reducible refine HK.out.mono ?_)
        rintro e w1 ⟨rfl, hb1⟩
        have HB1 := Lib.hid (hBW.out.trans (hb1.mono hBz))
        have hB1 := HB1.out.size
        clear hb1
        go_wp2
        go_ret
        exact ⟨ret_bool HF.out.symm, HB1.out.alloc hB1 _⟩
      · rw [hk] at HK
        have hmod := HM.out _ _ hk
        dsimp only at hmod
        have hj := hxf.out.2 (by rw [hk]; rfl)
        have hkc : fnd ks (s[i].toNat : Int) = some (c, r, q) := hxf.out.1 ▸ hk
        have HWN := Lib.hid (show wdG ks (rest s i) = q + wdG ks (rest s (i + 1)) by rw [HR.out, wdG_on _ hkc])
        have HLO := Lib.hid (fun (e : h + r < 0) => show spG ks 0 s.data.toList = false by rw [HU.out, HR.out]; exact spG_low _ _ hkc e)
        have HON := Lib.hid (fun (e : ¬ h + r < 0) => show spG ks 0 s.data.toList = spG ks (h + r) (rest s (i + 1)) by rw [HU.out, HR.out]; exact spG_on _ _ hkc e)
        clear hk hkc
        unfold kdV at HK
        dsimp only [Option.getD_some, Option.isSome_some] at HK
        have hw1 : IntKind.i64.wrap (h + r) = h + r := IntWalk.i64_in _ (by omega)
        have hw2 : IntKind.i64.wrap (v + q) = v + q := IntWalk.i64_in _ (by omega)
        subst hj
        go_wp2_with fail
        (with_reducible refine HK.out.mono ?_)
        rintro e w1 ⟨rfl, hb1⟩
        have HB1 := Lib.hid (hBW.out.trans (hb1.mono hBz))
        have hB1 := HB1.out.size
        have HI1 := Lib.hid ((hb1.block _ (Array.getElem?_eq_some_iff.1 HIW.out).1).trans HIW.out)
        clear hb1
        by_cases e1 : h + r < 0
        · have HF := Lib.hid (show alB ks most s = false by unfold alB; rw [HLO.out (by omega)]; rfl)
          have d1 : decide (h + r < 0) = true := decide_eq_true e1
          go_wp2
          go_ret
          exact ⟨ret_bool HF.out.symm, HB1.out.alloc hB1 _⟩
        · have d1 : decide (h + r < 0) = false := decide_eq_false e1
          by_cases e2 : most < v + q
          · have HF := Lib.hid (show alB ks most s = false by
              unfold alB
              have := HNN.out (rest s (i + 1))
              rw [HWD.out, HWN.out, decide_eq_false (by omega)]; simp)
            have d2 : decide (most < v + q) = true := decide_eq_true e2
            go_wp2
            go_ret
            exact ⟨ret_bool HF.out.symm, HB1.out.alloc hB1 _⟩
          · have d2 : decide (most < v + q) = false := decide_eq_false e2
            have HST := Lib.hid (HON.out (by omega))
            go_wp2
            go_roundw
            case rel => exact ⟨i + 1, h + r, v + q, by omega, by omega, by omega, by omega, by omega, rfl, rfl, (Below.heap_alloc _ _ _ (Array.getElem?_eq_some_iff.1 HI1.out).1).trans HI1.out, HB1.out.alloc hB1 _, HST.out, by rw [HWD.out, HWN.out]; omega⟩
            case measure =>
              have hq : (w1.alloc (.cells #[.int .i32 c, .int .i64 r, .int .i64 q] 46)).heap[w.heap.size]? = some (.stringIter s (i + 1)) := (Below.heap_alloc _ _ _ (Array.getElem?_eq_some_iff.1 HI1.out).1).trans HI1.out
              simp only [World.iterPos, hq, HIT.out]; omega
    · have hnx := fun ty => Lib.run_next_end_at (P := Try.prog) wr _ s i ty hit hlt
      have HE := Lib.hid (rest_end s i (by omega))
      have HF := Lib.hid (show alB ks most s = (h == 0) by unfold alB; rw [HU.out, HWD.out, HE.out, spG_nil, wdG, decide_eq_true (by omega), Bool.and_true])
      clear hit
      go_wp2
      go_ret
      exact ⟨ret_bool HF.out.symm, HB.out⟩

end Go.Proofs.Ytbnhjecapodflaa
