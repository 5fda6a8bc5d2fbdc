/- append([]int{}, xs...) of any numbers; slices.Clone. -/
import Derived.Test.YtgeppabpkbepdaaTwo31
import Derived.Test.YtgeppabpkbepdaaAppA
import Derived.Test.YtgeppabpkbepdaaNil14
import Derived.Lib.SliceRun
namespace Go.Proofs.Ytgeppabpkbepdaa
open Go.ChangeShapes Go.WideShapes Go.ChangeAt Go.RowKit
set_option linter.unusedVariables false

theorem wpCopy {w : World} {ops : Array Oper} {rest : List Oper} {o : Oper} {a : Act} {Q : Exit → Act → World → Prop} (hgd : o.guard = none) (s x : Operand)
    (ho : o.op = .call { callee := .builtin .append, args := #[s, x], argTypes := #[25, 25] })
    (A : Option Addr) (cap lo hi : Nat) (xs : List Int) (hv : OwnI w lo hi (.slice A xs.length cap) xs) (hhi : hi ≤ w.heap.size)
    (hs : a.eval s = .slice (some ⟨w.heap.size, 0, none⟩) 0 0) (hx : a.eval x = .slice A xs.length cap) (hl : xs.length ≤ 1048576)
    (h : ∀ g c w', RowN w' w.heap.size (.slice (some ⟨g, 0, none⟩) xs.length c) xs → Below w.heap.size w w' → wpList Try.prog ops Q rest (a.put o.dst (.slice (some ⟨g, 0, none⟩) xs.length c)) w') : wpList Try.prog ops Q (o :: rest) a (w.alloc (.cells #[] 3)) := by
  by_cases h0 : xs.length = 0
  · refine wpAppN hgd s x ho A xs.length cap h0 hs hx ?_
    intro g2 c2 w3 hg hc hw
    subst hg hc hw
    refine h _ 0 _ ?_ ((Below.refl _ w).alloc (Nat.le_refl _) _)
    have e : xs = [] := List.eq_nil_of_length_eq_zero h0
    subst e
    exact RowN.made w _ _ rfl (Nat.le_refl _)
  · obtain ⟨ga, pa, ea, -, hga, -, -⟩ := hv.cell (j := 0) (by omega)
    simp only [Value.slice.injEq] at ea
    obtain ⟨rfl, -, rfl⟩ := ea
    have hrow := RowN.made w w.heap.size _ rfl (Nat.le_refl _)
    refine wpAppA hgd s x ho w.heap.size _ 0 [] xs hs hrow ga 0 xs.length _ hx rfl (fun j hj => ?_) (by omega) (by omega) (by simp) ?_
    · obtain ⟨g5, p5, e5, -, hg5, hc5, -⟩ := hv.cell (j := j) hj
      simp only [Value.slice.injEq, Option.some.injEq, Addr.mk.injEq] at e5
      obtain ⟨⟨rfl, -⟩, -⟩ := e5
      rw [Nat.zero_add]
      exact (World.cell?_alloc_lt w _ ⟨ga, j, none⟩ (show ga < w.heap.size by omega)).trans hc5
    · intro v' w' hown hg
      rw [List.nil_append, Nat.zero_add] at hown
      obtain ⟨A', c', e', hA⟩ := RowN.form (show RowN w' w.heap.size v' xs from hown)
      obtain ⟨g, rfl, -⟩ := hA (by omega)
      subst e'
      exact h g c' w' hown (((Below.refl _ w).alloc (Nat.le_refl _) _).grown hg (by simp) (fun k hk => (World.ownsRow.lt hrow k hk).1))

set_option maxRecDepth 100000 in
theorem cloneNone31 (n cap : Nat) (w : World) :
    Calls Try.prog 37 #[.slice none n cap] w fun e w' => e = .returned (.slice none 0 0) ∧ w = w' := by
  have hnil := Lib.run_eql_slice_nil (P := Try.prog) w 25 3 none n cap 0 0 Try.underlying25
  go_enter Try.func37, Try.ntmps37
  go_wp2
  go_ret
  exact ⟨rfl, rfl⟩

set_option maxRecDepth 100000 in
theorem cloneI (A1 : Option Addr) (xs : List Int) (c1 lo hi : Nat) (w : World) (hv : OwnI w lo hi (.slice A1 xs.length c1) xs) (hhi : hi ≤ w.heap.size) (hl : xs.length ≤ 1048576) :
    Calls Try.prog 37 #[.slice A1 xs.length c1] w fun e w' => ∃ v, e = .returned v ∧ RowN w' w.heap.size v xs ∧ Below w.heap.size w w' := by
  have HV := Lib.hid hv
  have hnil := Lib.run_eql_slice_nil (P := Try.prog) w 25 3 A1 xs.length c1 0 0 Try.underlying25
  clear hv
  cases A1 with
  | none =>
    have h0 : xs = [] := by
      cases xs with
      | nil => rfl
      | cons x l =>
        obtain ⟨g, c, e, -⟩ := HV.out.cell (j := 0) (by simp)
        cases e
    refine (cloneNone31 xs.length c1 w).mono ?_
    rintro e w' ⟨rfl, rfl⟩
    subst h0
    exact ⟨_, rfl, ⟨rfl, .inl ⟨rfl, rfl⟩⟩, Below.refl _ _⟩
  | some ad =>
    go_enter Try.func37, Try.ntmps37
    go_wp2_with (at_builtin; go_must (refine wpCopy rfl _ _ rfl (some ad) c1 lo hi xs HV.out hhi rfl rfl hl ?_); intro g c w' hr hb)
    go_ret
    exact ⟨_, rfl, hr, hb⟩

end Go.Proofs.Ytgeppabpkbepdaa
