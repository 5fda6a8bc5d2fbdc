/- The contracts of the program's PrimesOf and ReturnsOf. -/
import Derived.Test.YtjplehkahbkcoaaImpl2B
import Derived.Test.YtjplehkahbkcoaaPlainC
namespace Go.Proofs.Ytjplehkahbkcoaa
open Go.ChangeShapes Go.WideShapes Go.ChangeAt Go.RowKit
set_option linter.unusedVariables false

theorem own_ne_iter {w : World} {base n e k i : Nat} {v : Value} {xs : List Value} {s : ByteArray} (h : w.ownsRow base e 1 v n xs) (hk : AtS w k s i) : v.ownBlock ≠ some k := by
  intro he
  rcases h.2 with ⟨rfl, -⟩ | ⟨g, cap, cur, rfl, hb, hh, -⟩
  · cases he
  · simp only [Value.ownBlock, Option.some.injEq] at he
    subst he
    unfold AtS at hk
    rw [hh] at hk
    simp at hk
theorem own_iterAt {w : World} {base n e k i j : Nat} {v : Value} {xs : List Value} {s : ByteArray} (h : w.ownsRow base e 1 v n xs) (hk : AtS w k s i) : (w.iterAt k s j).ownsRow base e 1 v n xs := by
  have hne := own_ne_iter h hk
  refine ⟨h.1, ?_⟩
  rcases h.2 with he | ⟨g, cap, cur, rfl, hb, hh, hr⟩
  · exact .inl he
  · refine .inr ⟨g, cap, cur, rfl, hb, ?_, hr⟩
    rw [Lib.iterAt_other _ _ _ _ _ (fun e1 => hne (by rw [← e1]; rfl))]
    exact hh
theorem AtS.lt {w : World} {k i : Nat} {s : ByteArray} (h : AtS w k s i) : k < w.heap.size := (Array.getElem?_eq_some_iff.1 h).1
theorem AtS.alloc {w : World} {k i : Nat} {s : ByteArray} (h : AtS w k s i) (o : Obj) : AtS (w.alloc o) k s i := by
  have := h.lt
  unfold AtS
  rw [show (w.alloc o).heap = w.heap.push o from rfl, Array.getElem?_push, if_neg (by omega)]
  exact h
theorem AtS.grown {w w' : World} {k i : Nat} {s : ByteArray} {row : Option Nat} (h : AtS w k s i) (hg : w.grownBy w' row) (hne : row ≠ some k) : AtS w' k s i :=
  (hg.block k h.lt (fun e => hne e.symm)).trans h
theorem AtS.pos {w : World} {k i : Nat} {s : ByteArray} (h : AtS w k s i) : w.iterPos k = i := by
  unfold AtS at h
  simp only [World.iterPos, h]
theorem AtS.move {w : World} {k i j : Nat} {s : ByteArray} (h : AtS w k s i) : AtS (w.iterAt k s j) k s j := Lib.iterAt_heap _ _ _ _ _ h

set_option maxRecDepth 100000 in
set_option maxHeartbeats 1600000 in
theorem primesOfI (s : ByteArray) (w : World) : Calls Try.prog 77 #[.string s] w (AnsS (primesP s) w) := by
  rcases hd : dyck s with _ | _
  · have HP := Lib.hid (primesP_no hd)
    have HD := Lib.hid hd
    clear hd
    go_enter Try.func77, Try.ntmps77
    go_wp2_with fail
    (with_reducible refine (isDyckI_no s _ HD.out).mono ?_)
    rintro e w' ⟨rfl, hb⟩
    go_wp2
    go_ret
    exact ⟨_, rfl, by rw [HP.out]; exact ⟨_, _, rfl, .inl rfl⟩, hb⟩
  · have HS := Lib.hid (PrAt.start hd)
    have HD := Lib.hid hd
    have h16 := dyck_size hd
    clear hd
    go_enter Try.func77, Try.ntmps77
    go_wp2_with fail
    (with_reducible refine (isDyckI_yes s _ HD.out).mono ?_)
    rintro e w1 ⟨rfl, hb⟩
    have HB1 := Lib.hid hb
    have z1 := hb.size
    clear hb
    go_wp2
    go_loopw [3, 4, 5] (fun v x y wr => ∃ (i h b : Nat) (acc : List ByteArray), PrAt s i h b acc ∧ x = .int .i64 h ∧ y = .int .i64 b ∧ AtS wr w1.heap.size s i ∧ wr.ownsRow w.heap.size 9 1 v acc.length (acc.map Value.string) ∧ Below w.heap.size w wr) (fun _ _ _ wr => s.size - wr.iterPos w1.heap.size)
    case atStart => exact ⟨0, 0, 0, [], HS.out, rfl, rfl, World.iter_heap w1 s 0, ⟨rfl, .inl ⟨rfl, rfl⟩⟩, HB1.out.alloc z1 _⟩
    case round =>
      obtain ⟨i, h, b, acc, hp, rfl, rfl, hit, hown, hb⟩ := hrel
      have HP := Lib.hid hp
      have HIT := Lib.hid hit
      have h1 := hp.le
      have h2 := hp.top
      have h3 := hp.high
      have h4 := hp.len
      have hB := hb.size
      have hk := hit.lt
      clear hp
      by_cases hlt : i < s.size
      · have hl := dyck_letter HD.out i hlt
        obtain ⟨W, hW⟩ : ∃ W, W = wr.iterAt w1.heap.size s (i + 1) := ⟨_, rfl⟩
        have HIT1 := Lib.hid (show AtS W w1.heap.size s (i + 1) by rw [hW]; exact HIT.out.move)
        have hownW : W.ownsRow w.heap.size 9 1 u3 acc.length (acc.map Value.string) := by rw [hW]; exact own_iterAt hown HIT.out
        have HBW := Lib.hid (show Below w.heap.size w W by rw [hW]; exact Lib.below_iterAt hb z1 _ _)
        have hBW := HBW.out.size
        have hNE := Lib.hid (own_ne_iter hownW HIT1.out)
        clear hown hb hit
        have hi1 : (i : Int) + 1 ≤ (s.size : Int) := by omega
        have hi2 : (b : Int) ≤ (i : Int) + 1 := by omega
        have hi3 : ((i : Int) + 1).toNat = i + 1 := by omega
        rcases hl with e1 | e1
        · have hnx := next_letter (P := Try.prog) wr _ s i 117 HIT.out hlt e1 (by omega)
          rw [← hW] at hnx
          have HP1 := Lib.hid (HP.out.up hlt e1)
          clear e1 hW
          have hne : ((h : Int) + 1 == 0) = false := beq_eq_false_iff_ne.2 (by omega)
          go_wp2_with (go_at_call 68; (with_reducible refine (stepOf_up _).mono ?_); rintro e w' ⟨rfl, rfl⟩)
          go_roundw
          case rel => exact ⟨i + 1, h + 1, b, acc, HP1.out, by simp, rfl, HIT1.out, hownW, HBW.out⟩
          case measure => rw [HIT1.out.pos, HIT.out.pos]; omega
        · have hnx := next_letter (P := Try.prog) wr _ s i 100 HIT.out hlt e1 (by omega)
          rw [← hW] at hnx
          have hh := HP.out.below hlt e1
          by_cases h11 : h = 1
          · subst h11
            have HP1 := Lib.hid (HP.out.hit h16 hlt e1)
            clear e1 hW hh
            go_wp2_with (first
              | (go_at_call 68; (with_reducible refine (stepOf_down _).mono ?_); rintro e w' ⟨rfl, rfl⟩)
              | (at_builtin; go_must (refine wpAppStr rfl _ _ rfl w.heap.size _ _ _ rfl (hownW.alloc _) W.heap.size _ _ rfl (cell_one _ _ _) (by omega) (base_up hBW) ?_); intro v' w' hown' hg'))
            go_roundw
            case rel => exact ⟨i + 1, 0, i + 1, acc ++ [s.extract b (i + 1)], HP1.out, rfl, by simp, (HIT1.out.alloc _).grown hg' hNE.out, by simpa using hown', (HBW.out.alloc hBW _).grown hg' (base_up hBW) (fun k hk => (hownW.lt k hk).1)⟩
            case measure => rw [((HIT1.out.alloc _).grown hg' hNE.out).pos, HIT.out.pos]; omega
          · obtain ⟨h, rfl⟩ : ∃ k, h = k + 2 := ⟨h - 2, by omega⟩
            have HP1 := Lib.hid (HP.out.down hlt e1)
            clear e1 hW hh h11
            have hne : ((h : Int) + 2 + -1 == 0) = false := beq_eq_false_iff_ne.2 (by omega)
            go_wp2_with (go_at_call 68; (with_reducible refine (stepOf_down _).mono ?_); rintro e w' ⟨rfl, rfl⟩)
            go_roundw
            case rel => exact ⟨i + 1, h + 1, b, acc, HP1.out, by simp; omega, rfl, HIT1.out, hownW, HBW.out⟩
            case measure => rw [HIT1.out.pos, HIT.out.pos]; omega
      · have hnx := fun ty => Lib.run_next_end_at (P := Try.prog) wr _ s i ty HIT.out hlt
        obtain rfl : i = s.size := by omega
        clear hit
        go_wp2
        go_ret
        refine ⟨_, rfl, ?_, hb⟩
        rw [← HP.out.stop.1]
        exact OwnS.of_row hown

theorem PrAt.reach {s : ByteArray} (hd : dyck s = true) : ∀ i, i ≤ s.size → ∃ h b acc, PrAt s i h b acc := by
  intro i
  induction i with
  | zero => intro _; exact ⟨_, _, _, PrAt.start hd⟩
  | succ i ih =>
    intro hi
    obtain ⟨h, b, acc, p⟩ := ih (by omega)
    rcases dyck_letter hd i hi with e | e
    · exact ⟨_, _, _, p.up hi e⟩
    · have h1 := p.below hi e
      by_cases h11 : h = 1
      · subst h11
        exact ⟨_, _, _, p.hit (dyck_size hd) hi e⟩
      · obtain ⟨h, rfl⟩ : ∃ k, h = k + 2 := ⟨h - 2, by omega⟩
        exact ⟨_, _, _, p.down hi e⟩
theorem returnsP_yes {s : ByteArray} (hd : dyck s = true) : returnsP s = ((primesP s).length : Int) := by
  obtain ⟨h, b, acc, p⟩ := PrAt.reach hd s.size (Nat.le_refl _)
  obtain ⟨h1, h2⟩ := p.stop
  unfold returnsP
  rw [heightsP_yes hd, ← h2, h1]; omega

end Go.Proofs.Ytjplehkahbkcoaa
