/- Avoiders: plain, and the contract of the model's. -/
import Derived.Test.YtamepojgpeblpaaAllS31
import Derived.Test.YtamepojgpeblpaaTblLZ
import Derived.Test.YtamepojgpeblpaaSpec10B
namespace Go.Proofs.Ytamepojgpeblpaa
open Go.ChangeShapes Go.WideShapes Go.ChangeAt Go.RowKit
set_option linter.unusedVariables false

/-- Those of the first k lists that c does not catch. -/
def avS (L : List (List Int)) (c : List Int → Bool) : Nat → List (List Int)
  | 0 => []
  | k + 1 => avS L c k ++ if c (L.getD k []) = true then [] else [L.getD k []]
theorem avS_len (L : List (List Int)) (c : List Int → Bool) (k : Nat) : (avS L c k).length ≤ k := by
  induction k with
  | zero => exact Nat.le_refl _
  | succ k ih => rw [avS, List.length_append]; split <;> simp <;> omega
def avP (n : Int) (s : ByteArray) : List (List Int) :=
  if 0 ≤ n ∧ n ≤ 5 then if (s.toList == [50, 51, 49]) = true then avS (pmLs n.toNat) (conB r231) (pmLs n.toNat).length else if (s.toList == [51, 50, 49]) = true then avS (pmLs n.toNat) (conB r321) (pmLs n.toNat).length else [] else []
def avOk (n : Int) (s : ByteArray) : Bool := decide (0 ≤ n ∧ n ≤ 5) && ((s.toList == [50, 51, 49]) || (s.toList == [51, 50, 49]))
theorem TbX.grown {w w' : World} {base lo b2 m : Nat} {v u : Value} {vs xs : List Value} {ls : List (List Int)} (h : TbX w base lo v vs ls) (hu : w.ownsRow b2 22 1 u m xs) (hg : w.grownBy w' u.ownBlock) (h1 : v.ownBlock = none ∨ v.ownBlock ≠ u.ownBlock) : TbX w' base lo v vs ls :=
  ⟨h.len, h.own.kept hg h1, fun j hj => ownI_grown (h.row j hj) hu hg⟩
theorem OwnT.ofX {w : World} {base lo : Nat} {v : Value} {vs : List Value} {ls : List (List Int)} (h : TbX w base lo v vs ls) (hlo : lo ≤ base) : OwnT w lo w.heap.size v ls := by
  obtain ⟨A, cap, e⟩ := h.form
  refine ⟨A, cap, e, fun j hj => ?_⟩
  obtain ⟨o, c, e2, h1, h2, h3⟩ := h.cell hj
  rw [e] at e2
  simp only [Value.slice.injEq] at e2
  exact ⟨o, _, e2.1, by omega, h2, h3, h.row j hj⟩
theorem own_lower {w : World} {base base' n size : Nat} {e : TypeId} {v : Value} {xs : List Value} (h : w.ownsRow base e size v n xs) (hb : base' ≤ base) : w.ownsRow base' e size v n xs := by
  refine ⟨h.1, ?_⟩
  rcases h.2 with e1 | ⟨g, cap, cur, e1, h1, h2⟩
  · exact .inl e1
  · exact .inr ⟨g, cap, cur, e1, Nat.le_trans hb h1, h2⟩
theorem OwnT.nil (w : World) (lo hi : Nat) (A : Option Addr) (c : Nat) : OwnT w lo hi (.slice A 0 c) [] := ⟨A, c, rfl, fun j h => by simp at h⟩
theorem ret_tb {v : Value} {a b : Bool} (h : a = b) : Ending.returned (.tuple #[v, .bool a]) = .returned (.tuple #[v, .bool b]) := by rw [h]

set_option maxRecDepth 100000 in
set_option maxHeartbeats 3200000 in
theorem avoiders231 (a : Nat) (s : ByteArray) (w : World) (ha5 : a ≤ 5) (b1 : (s.toList == [50, 51, 49]) = true) : Calls Try.prog 38 #[.int .i64 (a : Int), .string s] w fun e w' => ∃ v, e = .returned (.tuple #[v, .bool true]) ∧ OwnT w' w.heap.size w'.heap.size v (avS (pmLs a) (conB r231) (pmLs a).length) ∧ Below w.heap.size w w' := by
  have b2 : (s.toList = [50, 51, 49]) = True := eq_true (by simpa using b1)
  have b3 : ¬ s.toList = [51, 50, 49] := fun h => by rw [of_eq_true b2] at h; simp at h
  have b4 : (s.toList == [51, 50, 49]) = false := beq_eq_false_iff_ne.2 b3
  have HA := Lib.hid (fun (W : World) (A : Option Addr) (c : Nat) (hW : w.heap.size ≤ W.heap.size) => show Calls Try.prog 60 #[.int .i64 (a : Int), .slice A 0 c] W fun e w' => ∃ v' vs, e = .returned v' ∧ TbX w' W.heap.size w.heap.size v' vs (pmLs a) ∧ Below W.heap.size W w' from l10All a ha5 a [] (by simp) _ w.heap.size w.heap.size W ⟨_, _, rfl, .inl rfl⟩ hW hW)
  obtain ⟨f1, f2, f3⟩ := al_first a (by omega)
  have HLE := Lib.hid (al_len a (by omega))
  have HCN := Lib.hid (fun k => avS_len (pmLs a) (conB r231) k)
  have HCS := Lib.hid (fun k => show avS (pmLs a) (conB r231) (k + 1) = avS (pmLs a) (conB r231) k ++ if conB r231 ((pmLs a).getD k []) = true then [] else [(pmLs a).getD k []] from rfl)
  clear f1
  generalize pmLs a = L at *
  go_enter Try.func38, Try.ntmps38
  go_wp2_with fail
  (with_reducible refine (l1In_yes _ _ _ _ (by omega) (by omega)).mono ?_)
  rintro e w0 ⟨rfl, rfl⟩
  go_wp2_with fail
  (with_reducible refine (HA.out _ _ _ (by simp; omega)).mono ?_)
  rintro e w1 ⟨v1, vs, rfl, ht, hb⟩
  obtain ⟨o, cap, rfl, ho1, ho2, -⟩ := ht.cell f2
  have HT := Lib.hid ht
  have HM0 := Lib.hid ((TbX.made w w.heap.size w.heap.size (Nat.le_refl _)).below ((Below.refl _ _).alloc (Nat.le_refl _) (.cells #[] 3)))
  have HB1 := Lib.hid (show Below w.heap.size w w1 from (((Below.refl w.heap.size w).alloc (Nat.le_refl _) _).alloc (by simp) _).trans (hb.mono (by simp; omega)))
  have HM := Lib.hid (TbX.below HM0.out hb)
  have hz1 := HB1.out.size
  have ho3 : w.heap.size < o := by simp at ho1; omega
  clear ht hb HM0 ho1
  go_wp2
  go_loopw [6, 8] (fun x6 x8 wr => ∃ (k : Nat) (us : List Value), x8 = .int .i64 (k : Int) ∧ k ≤ L.length ∧ TbX wr w.heap.size w.heap.size (.slice (some ⟨o, 0, none⟩) L.length cap) vs L ∧ TbX wr w.heap.size w.heap.size x6 us (avS L (conB r231) k) ∧ x6.ownBlock ≠ some o ∧ Below w.heap.size w wr) (fun _ x8 _ => L.length - (intOf x8).toNat)
  case atStart => exact ⟨0, [], rfl, Nat.zero_le _, ⟨HT.out.len, own_lower HT.out.own (by simp; omega), HT.out.row⟩, HM.out, by simp [Value.ownBlock]; omega, HB1.out⟩
  case round =>
    obtain ⟨k, us, rfl, hk, ht, hm, hne, hb⟩ := hrel
    have HT2 := Lib.hid ht
    have HM2 := Lib.hid hm
    have HNE := Lib.hid hne
    have HB := Lib.hid hb
    have hzB := hb.size
    clear ht hm hne hb HT HM HB1
    by_cases hlt : k < L.length
    · have hki : (k : Int) < (L.length : Int) := by omega
      obtain ⟨o2, c2, e2, -, -, hc⟩ := HT2.out.cell hlt
      simp only [Value.slice.injEq, Option.some.injEq, Addr.mk.injEq] at e2
      obtain ⟨⟨rfl, -⟩, -, rfl⟩ := e2
      have HR := Lib.hid (HT2.out.row k hlt)
      have hl := HLE.out k hlt
      generalize vs.getD k nilX = rv at *
      have HS := Lib.hid (HCS.out k)
      have hc1 := HCN.out k
      have HCA := Lib.hid (contains231 rv (L.getD k []) _ _ wr HR.out (by omega))
      have HCC := Lib.hid hc
      clear hl
      generalize hP : conB r231 (L.getD k []) = z at *
      generalize L.getD k [] = P at *
      obtain ⟨A3, c3, rfl, k3⟩ := id HR.out
      clear k3
      rcases z with _ | _
      · have HS1 := Lib.hid (show avS L (conB r231) (k + 1) = avS L (conB r231) k ++ [P] from HS.out)
        go_wp2_with fail
        (with_reducible refine HCA.out.mono ?_)
        rintro e w2 ⟨rfl, hb2⟩
        have hc2 : w2.cell? ⟨o, k, none⟩ = some (.slice A3 P.length c3) := (hb2.cell (p := ⟨o, k, none⟩) (by have := HT2.out.own.lt o rfl; show o < wr.heap.size; omega)).trans HCC.out
        have HT3 := Lib.hid (HT2.out.below hb2)
        have HM3 := Lib.hid (HM2.out.below hb2)
        have HR3 := Lib.hid ((HR.out.keep hb2 (Nat.le_refl _)).wide (Nat.le_refl _) hb2.size)
        have HB2 := Lib.hid (HB.out.trans (hb2.mono hzB))
        have hz2 := HB2.out.size
        have hol := (HT3.out.own.lt o rfl).2
        clear hb2
        go_wp2_with (at_builtin; go_must (refine wpAppTX rfl _ _ rfl w.heap.size w.heap.size _ us _ rfl (HM3.out.below ((Below.refl w2.heap.size w2).alloc (Nat.le_refl _) _)) w2.heap.size _ [.slice A3 P.length c3] [P] rfl (TbX.one HR3.out (Nat.le_refl _) (Nat.le_refl _)) (by omega) (by simp) (base_up hz2) ?_); intro v4 w4 ht4 hg4 hat4)
        have HM4 := Lib.hid ht4
        have HT4 := Lib.hid ((HT3.out.below ((Below.refl w2.heap.size w2).alloc (Nat.le_refl _) _)).grown (HM3.out.below ((Below.refl w2.heap.size w2).alloc (Nat.le_refl _) (.cells #[.slice A3 P.length c3] 22))).own hg4 (.inr fun e => HNE.out e.symm))
        have HB4 := Lib.hid (show Below w.heap.size w w4 from (HB2.out.alloc hz2 _).grown hg4 (by simp; omega) (fun q hq => (World.ownsRow.lt HM3.out.own q hq).1))
        have HN4 := Lib.hid (show v4.ownBlock ≠ some o from by
          rcases hat4 with h | h
          · rw [h]; exact HNE.out
          · rw [h]; simp; omega)
        clear ht4 hg4 hat4
        go_roundw
        case rel => exact ⟨k + 1, _, by simp, by omega, HT4.out, by rw [HS1.out]; exact HM4.out, HN4.out, HB4.out⟩
        case measure => simp [intOf]; omega
      · have HS1 := Lib.hid (show avS L (conB r231) (k + 1) = avS L (conB r231) k by rw [HS.out]; exact List.append_nil _)
        go_wp2_with fail
        (with_reducible refine HCA.out.mono ?_)
        rintro e w2 ⟨rfl, hb2⟩
        have HT3 := Lib.hid (HT2.out.below hb2)
        have HM3 := Lib.hid (HM2.out.below hb2)
        have HB2 := Lib.hid (HB.out.trans (hb2.mono hzB))
        clear hb2
        go_wp2
        go_roundw
        case rel => exact ⟨k + 1, us, by simp, by omega, HT3.out, by rw [HS1.out]; exact HM3.out, HNE.out, HB2.out⟩
        case measure => simp [intOf]; omega
    · obtain rfl : k = L.length := by omega
      go_wp2
      go_ret2
      exact ⟨_, rfl, OwnT.ofX HM2.out (Nat.le_refl _), HB.out⟩

set_option maxRecDepth 100000 in
set_option maxHeartbeats 3200000 in
theorem avoiders321 (a : Nat) (s : ByteArray) (w : World) (ha5 : a ≤ 5) (b1 : (s.toList == [51, 50, 49]) = true) : Calls Try.prog 38 #[.int .i64 (a : Int), .string s] w fun e w' => ∃ v, e = .returned (.tuple #[v, .bool true]) ∧ OwnT w' w.heap.size w'.heap.size v (avS (pmLs a) (conB r321) (pmLs a).length) ∧ Below w.heap.size w w' := by
  have b2 : (s.toList = [51, 50, 49]) = True := eq_true (by simpa using b1)
  have b3 : ¬ s.toList = [50, 51, 49] := fun h => by rw [of_eq_true b2] at h; simp at h
  have b4 : (s.toList == [50, 51, 49]) = false := beq_eq_false_iff_ne.2 b3
  have HA := Lib.hid (fun (W : World) (A : Option Addr) (c : Nat) (hW : w.heap.size ≤ W.heap.size) => show Calls Try.prog 60 #[.int .i64 (a : Int), .slice A 0 c] W fun e w' => ∃ v' vs, e = .returned v' ∧ TbX w' W.heap.size w.heap.size v' vs (pmLs a) ∧ Below W.heap.size W w' from l10All a ha5 a [] (by simp) _ w.heap.size w.heap.size W ⟨_, _, rfl, .inl rfl⟩ hW hW)
  obtain ⟨f1, f2, f3⟩ := al_first a (by omega)
  have HLE := Lib.hid (al_len a (by omega))
  have HCN := Lib.hid (fun k => avS_len (pmLs a) (conB r321) k)
  have HCS := Lib.hid (fun k => show avS (pmLs a) (conB r321) (k + 1) = avS (pmLs a) (conB r321) k ++ if conB r321 ((pmLs a).getD k []) = true then [] else [(pmLs a).getD k []] from rfl)
  clear f1
  generalize pmLs a = L at *
  go_enter Try.func38, Try.ntmps38
  go_wp2_with fail
  (with_reducible refine (l1In_yes _ _ _ _ (by omega) (by omega)).mono ?_)
  rintro e w0 ⟨rfl, rfl⟩
  go_wp2_with fail
  (with_reducible refine (HA.out _ _ _ (by simp; omega)).mono ?_)
  rintro e w1 ⟨v1, vs, rfl, ht, hb⟩
  obtain ⟨o, cap, rfl, ho1, ho2, -⟩ := ht.cell f2
  have HT := Lib.hid ht
  have HM0 := Lib.hid ((TbX.made w w.heap.size w.heap.size (Nat.le_refl _)).below ((Below.refl _ _).alloc (Nat.le_refl _) (.cells #[] 3)))
  have HB1 := Lib.hid (show Below w.heap.size w w1 from (((Below.refl w.heap.size w).alloc (Nat.le_refl _) _).alloc (by simp) _).trans (hb.mono (by simp; omega)))
  have HM := Lib.hid (TbX.below HM0.out hb)
  have hz1 := HB1.out.size
  have ho3 : w.heap.size < o := by simp at ho1; omega
  clear ht hb HM0 ho1
  go_wp2
  go_loopw [6, 8] (fun x6 x8 wr => ∃ (k : Nat) (us : List Value), x8 = .int .i64 (k : Int) ∧ k ≤ L.length ∧ TbX wr w.heap.size w.heap.size (.slice (some ⟨o, 0, none⟩) L.length cap) vs L ∧ TbX wr w.heap.size w.heap.size x6 us (avS L (conB r321) k) ∧ x6.ownBlock ≠ some o ∧ Below w.heap.size w wr) (fun _ x8 _ => L.length - (intOf x8).toNat)
  case atStart => exact ⟨0, [], rfl, Nat.zero_le _, ⟨HT.out.len, own_lower HT.out.own (by simp; omega), HT.out.row⟩, HM.out, by simp [Value.ownBlock]; omega, HB1.out⟩
  case round =>
    obtain ⟨k, us, rfl, hk, ht, hm, hne, hb⟩ := hrel
    have HT2 := Lib.hid ht
    have HM2 := Lib.hid hm
    have HNE := Lib.hid hne
    have HB := Lib.hid hb
    have hzB := hb.size
    clear ht hm hne hb HT HM HB1
    by_cases hlt : k < L.length
    · have hki : (k : Int) < (L.length : Int) := by omega
      obtain ⟨o2, c2, e2, -, -, hc⟩ := HT2.out.cell hlt
      simp only [Value.slice.injEq, Option.some.injEq, Addr.mk.injEq] at e2
      obtain ⟨⟨rfl, -⟩, -, rfl⟩ := e2
      have HR := Lib.hid (HT2.out.row k hlt)
      have hl := HLE.out k hlt
      generalize vs.getD k nilX = rv at *
      have HS := Lib.hid (HCS.out k)
      have hc1 := HCN.out k
      have HCA := Lib.hid (contains321 rv (L.getD k []) _ _ wr HR.out (by omega))
      have HCC := Lib.hid hc
      clear hl
      generalize hP : conB r321 (L.getD k []) = z at *
      generalize L.getD k [] = P at *
      obtain ⟨A3, c3, rfl, k3⟩ := id HR.out
      clear k3
      rcases z with _ | _
      · have HS1 := Lib.hid (show avS L (conB r321) (k + 1) = avS L (conB r321) k ++ [P] from HS.out)
        go_wp2_with fail
        (with_reducible refine HCA.out.mono ?_)
        rintro e w2 ⟨rfl, hb2⟩
        have hc2 : w2.cell? ⟨o, k, none⟩ = some (.slice A3 P.length c3) := (hb2.cell (p := ⟨o, k, none⟩) (by have := HT2.out.own.lt o rfl; show o < wr.heap.size; omega)).trans HCC.out
        have HT3 := Lib.hid (HT2.out.below hb2)
        have HM3 := Lib.hid (HM2.out.below hb2)
        have HR3 := Lib.hid ((HR.out.keep hb2 (Nat.le_refl _)).wide (Nat.le_refl _) hb2.size)
        have HB2 := Lib.hid (HB.out.trans (hb2.mono hzB))
        have hz2 := HB2.out.size
        have hol := (HT3.out.own.lt o rfl).2
        clear hb2
        go_wp2_with (at_builtin; go_must (refine wpAppTX rfl _ _ rfl w.heap.size w.heap.size _ us _ rfl (HM3.out.below ((Below.refl w2.heap.size w2).alloc (Nat.le_refl _) _)) w2.heap.size _ [.slice A3 P.length c3] [P] rfl (TbX.one HR3.out (Nat.le_refl _) (Nat.le_refl _)) (by omega) (by simp) (base_up hz2) ?_); intro v4 w4 ht4 hg4 hat4)
        have HM4 := Lib.hid ht4
        have HT4 := Lib.hid ((HT3.out.below ((Below.refl w2.heap.size w2).alloc (Nat.le_refl _) _)).grown (HM3.out.below ((Below.refl w2.heap.size w2).alloc (Nat.le_refl _) (.cells #[.slice A3 P.length c3] 22))).own hg4 (.inr fun e => HNE.out e.symm))
        have HB4 := Lib.hid (show Below w.heap.size w w4 from (HB2.out.alloc hz2 _).grown hg4 (by simp; omega) (fun q hq => (World.ownsRow.lt HM3.out.own q hq).1))
        have HN4 := Lib.hid (show v4.ownBlock ≠ some o from by
          rcases hat4 with h | h
          · rw [h]; exact HNE.out
          · rw [h]; simp; omega)
        clear ht4 hg4 hat4
        go_roundw
        case rel => exact ⟨k + 1, _, by simp, by omega, HT4.out, by rw [HS1.out]; exact HM4.out, HN4.out, HB4.out⟩
        case measure => simp [intOf]; omega
      · have HS1 := Lib.hid (show avS L (conB r321) (k + 1) = avS L (conB r321) k by rw [HS.out]; exact List.append_nil _)
        go_wp2_with fail
        (with_reducible refine HCA.out.mono ?_)
        rintro e w2 ⟨rfl, hb2⟩
        have HT3 := Lib.hid (HT2.out.below hb2)
        have HM3 := Lib.hid (HM2.out.below hb2)
        have HB2 := Lib.hid (HB.out.trans (hb2.mono hzB))
        clear hb2
        go_wp2
        go_roundw
        case rel => exact ⟨k + 1, us, by simp, by omega, HT3.out, by rw [HS1.out]; exact HM3.out, HNE.out, HB2.out⟩
        case measure => simp [intOf]; omega
    · obtain rfl : k = L.length := by omega
      go_wp2
      go_ret2
      exact ⟨_, rfl, OwnT.ofX HM2.out (Nat.le_refl _), HB.out⟩

end Go.Proofs.Ytamepojgpeblpaa
