/- The contracts of the program's PrimesOf and ReturnsOf. -/
import Derived.Test.YtkpnfonedfomaaaImpl2B
import Derived.Test.YtkpnfonedfomaaaPlainC
namespace Go.Proofs.Ytkpnfonedfomaaa
open Go.ChangeShapes Go.WideShapes Go.ChangeAt Go.RowKit
set_option linter.unusedVariables false

theorem own_ne_iter {w : World} {base n e k i : Nat} {v : Value} {xs : List Value} {s : ByteArray} (h : w.ownsRow base e 1 v n xs) (hk : AtS w k s i) : v.ownBlock ≠ some k := by
  intro he
  rcases h.2 with ⟨rfl, -⟩ | ⟨g, cap, cur, rfl, hb, hh, -⟩
  · cases he
  · simp only [Value.ownBlock, Option.some.injEq] at he
    subst he
    unfold AtS at hk
    rw [hh] at hk
    simp at hk
theorem own_iterAt {w : World} {base n e k i j : Nat} {v : Value} {xs : List Value} {s : ByteArray} (h : w.ownsRow base e 1 v n xs) (hk : AtS w k s i) : (w.iterAt k s j).ownsRow base e 1 v n xs := by
  have hne := own_ne_iter h hk
  refine ⟨h.1, ?_⟩
  rcases h.2 with he | ⟨g, cap, cur, rfl, hb, hh, hr⟩
  · exact .inl he
  · refine .inr ⟨g, cap, cur, rfl, hb, ?_, hr⟩
    rw [Lib.iterAt_other _ _ _ _ _ (fun e1 => hne (by rw [← e1]; rfl))]
    exact hh
theorem AtS.lt {w : World} {k i : Nat} {s : ByteArray} (h : AtS w k s i) : k < w.heap.size := (Array.getElem?_eq_some_iff.1 h).1
theorem AtS.alloc {w : World} {k i : Nat} {s : ByteArray} (h : AtS w k s i) (o : Obj) : AtS (w.alloc o) k s i := by
  have := h.lt
  unfold AtS
  rw [show (w.alloc o).heap = w.heap.push o from rfl, Array.getElem?_push, if_neg (by omega)]
  exact h
theorem AtS.grown {w w' : World} {k i : Nat} {s : ByteArray} {row : Option Nat} (h : AtS w k s i) (hg : w.grownBy w' row) (hne : row ≠ some k) : AtS w' k s i :=
  (hg.block k h.lt (fun e => hne e.symm)).trans h
theorem AtS.pos {w : World} {k i : Nat} {s : ByteArray} (h : AtS w k s i) : w.iterPos k = i := by
  unfold AtS at h
  simp only [World.iterPos, h]
theorem AtS.move {w : World} {k i j : Nat} {s : ByteArray} (h : AtS w k s i) : AtS (w.iterAt k s j) k s j := Lib.iterAt_heap _ _ _ _ _ h

theorem PrAt.reach {s : ByteArray} (hd : dyck s = true) : ∀ i, i ≤ s.size → ∃ h b acc, PrAt s i h b acc := by
  intro i
  induction i with
  | zero => intro _; exact ⟨_, _, _, PrAt.start hd⟩
  | succ i ih =>
    intro hi
    obtain ⟨h, b, acc, p⟩ := ih (by omega)
    rcases dyck_letter hd i hi with e | e
    · exact ⟨_, _, _, p.up hi e⟩
    · have h1 := p.below hi e
      by_cases h11 : h = 1
      · subst h11
        exact ⟨_, _, _, p.hit (dyck_size hd) hi e⟩
      · obtain ⟨h, rfl⟩ : ∃ k, h = k + 2 := ⟨h - 2, by omega⟩
        exact ⟨_, _, _, p.down hi e⟩
theorem returnsP_yes {s : ByteArray} (hd : dyck s = true) : returnsP s = ((primesP s).length : Int) := by
  obtain ⟨h, b, acc, p⟩ := PrAt.reach hd s.size (Nat.le_refl _)
  obtain ⟨h1, h2⟩ := p.stop
  unfold returnsP
  rw [heightsP_yes hd, ← h2, h1]; omega

end Go.Proofs.Ytkpnfonedfomaaa
