/- The state of a range over a word, the letters of a path. -/
import Derived.Test.YtbnhjecapodflaaImpl2A
namespace Go.Proofs.Ytbnhjecapodflaa
open Go.ChangeShapes Go.WideShapes Go.ChangeAt Go.RowKit
set_option linter.unusedVariables false

theorem df_mem {h : Nat} {l : List UInt8} (hd : dyckFrom h l = true) : ∀ c ∈ l, c.toNat = 117 ∨ c.toNat = 100 := by
  induction l generalizing h with
  | nil => simp
  | cons c l ih =>
    intro x hx
    rcases df_letter hd with ⟨e, h1⟩ | ⟨e, -, h1⟩
    · rcases List.mem_cons.1 hx with rfl | hx
      · exact .inl e
      · exact ih h1 x hx
    · rcases List.mem_cons.1 hx with rfl | hx
      · exact .inr e
      · exact ih h1 x hx
theorem at_mem (s : ByteArray) (i : Nat) (h : i < s.size) : s[i] ∈ s.data.toList := by
  have : s.data[i]'h ∈ s.data := Array.getElem_mem h
  exact Array.mem_toList_iff.2 this
theorem at_list (s : ByteArray) (i : Nat) (h : i < s.size) (h' : i < s.data.toList.length) : s.data.toList[i] = s[i] := by
  rw [Array.getElem_toList]; rfl
theorem dyck_letter {s : ByteArray} (hd : dyck s = true) (i : Nat) (h : i < s.size) : s[i].toNat = 117 ∨ s[i].toNat = 100 := by
  rw [dyck_short (dyck_size hd)] at hd
  exact df_mem hd _ (at_mem s i h)

/-- The state of a range over s, its iterator in block k, at place i. -/
def AtS (w : World) (k : Nat) (s : ByteArray) (i : Nat) : Prop := w.heap[k]? = some (.stringIter s i)
theorem iter_setCell {w : World} {k g q : Nat} {s : ByteArray} {i : Nat} {y : Value} (h : w.heap[k]? = some (.stringIter s i)) (hne : g ≠ k) : (w.setCell ⟨g, q, none⟩ y).heap[k]? = some (.stringIter s i) := by
  rw [← h]
  simp [World.setCell, Array.getElem?_modify, hne]
theorem own_ne_iter {w : World} {base n e k i : Nat} {v : Value} {xs : List Value} {s : ByteArray} (h : w.ownsRow base e 1 v n xs) (hk : AtS w k s i) : v.ownBlock ≠ some k := by
  intro he
  rcases h.2 with ⟨rfl, -⟩ | ⟨g, cap, cur, rfl, hb, hh, -⟩
  · cases he
  · simp only [Value.ownBlock, Option.some.injEq] at he
    subst he
    unfold AtS at hk
    rw [hh] at hk
    simp at hk
theorem own_iterAt {w : World} {base n e k i j : Nat} {v : Value} {xs : List Value} {s : ByteArray} (h : w.ownsRow base e 1 v n xs) (hk : AtS w k s i) : (w.iterAt k s j).ownsRow base e 1 v n xs := by
  have hne := own_ne_iter h hk
  refine ⟨h.1, ?_⟩
  rcases h.2 with he | ⟨g, cap, cur, rfl, hb, hh, hr⟩
  · exact .inl he
  · refine .inr ⟨g, cap, cur, rfl, hb, ?_, hr⟩
    rw [Lib.iterAt_other _ _ _ _ _ (fun e1 => hne (by rw [← e1]; rfl))]
    exact hh
theorem AtS.lt {w : World} {k i : Nat} {s : ByteArray} (h : AtS w k s i) : k < w.heap.size := (Array.getElem?_eq_some_iff.1 h).1
theorem AtS.alloc {w : World} {k i : Nat} {s : ByteArray} (h : AtS w k s i) (o : Obj) : AtS (w.alloc o) k s i := by
  have := h.lt
  unfold AtS
  rw [show (w.alloc o).heap = w.heap.push o from rfl, Array.getElem?_push, if_neg (by omega)]
  exact h
theorem AtS.grown {w w' : World} {k i : Nat} {s : ByteArray} {row : Option Nat} (h : AtS w k s i) (hg : w.grownBy w' row) (hne : row ≠ some k) : AtS w' k s i :=
  (hg.block k h.lt (fun e => hne e.symm)).trans h
theorem AtS.pos {w : World} {k i : Nat} {s : ByteArray} (h : AtS w k s i) : w.iterPos k = i := by
  unfold AtS at h
  simp only [World.iterPos, h]
theorem AtS.move {w : World} {k i j : Nat} {s : ByteArray} (h : AtS w k s i) : AtS (w.iterAt k s j) k s j := Lib.iterAt_heap _ _ _ _ _ h

end Go.Proofs.Ytbnhjecapodflaa
