/- The model's BlocksOf: a table whose rows grow, in a drawn region. -/
import Derived.Test.YtefbbkogfoongaaImpl8E
import Derived.Test.YtefbbkogfoongaaImpl8B
namespace Go.Proofs.Ytefbbkogfoongaa
open Go.ChangeShapes Go.WideShapes Go.ChangeAt Go.RowKit
set_option linter.unusedVariables false

theorem sb_kept {W w' : World} {g i o k : Nat} {x y : Value} (hg : w'.heap[g]? = W.heap[g]?) (ho : w'.heap[o]? = W.heap[o]?) (h : W.cell? ⟨g, i, none⟩ = some x ∧ W.cell? ⟨o, k, none⟩ = some y ∧ W.frozen? ⟨o, k, none⟩ = false) : w'.cell? ⟨g, i, none⟩ = some x ∧ w'.cell? ⟨o, k, none⟩ = some y ∧ w'.frozen? ⟨o, k, none⟩ = false :=
  ⟨(World.cell?_of_block (a := ⟨g, i, none⟩) hg).trans h.1, (World.cell?_of_block (a := ⟨o, k, none⟩) ho).trans h.2.1, (World.frozen?_of_block (a := ⟨o, k, none⟩) ho).trans h.2.2⟩
theorem sb_al {W : World} {g i o k : Nat} {x y : Value} (h : W.cell? ⟨g, i, none⟩ = some x ∧ W.cell? ⟨o, k, none⟩ = some y ∧ W.frozen? ⟨o, k, none⟩ = false) (b : Obj) : (W.alloc b).cell? ⟨g, i, none⟩ = some x ∧ (W.alloc b).cell? ⟨o, k, none⟩ = some y ∧ (W.alloc b).frozen? ⟨o, k, none⟩ = false :=
  sb_kept (Below.heap_alloc _ _ _ (World.block_lt_of_cell? _ _ h.1)) (Below.heap_alloc _ _ _ (World.block_lt_of_cell? _ _ h.2.1)) h
theorem sb_gr {W w' : World} {row : Option Nat} {g i o k : Nat} {x y : Value} (hgr : W.grownBy w' row) (hg : row ≠ some g) (ho : row ≠ some o) (h : W.cell? ⟨g, i, none⟩ = some x ∧ W.cell? ⟨o, k, none⟩ = some y ∧ W.frozen? ⟨o, k, none⟩ = false) : w'.cell? ⟨g, i, none⟩ = some x ∧ w'.cell? ⟨o, k, none⟩ = some y ∧ w'.frozen? ⟨o, k, none⟩ = false :=
  sb_kept (hgr.block _ (World.block_lt_of_cell? _ _ h.1) (Ne.symm hg)) (hgr.block _ (World.block_lt_of_cell? _ _ h.2.1) (Ne.symm ho)) h
/-- One int appended to a row of this call's own, in a region; where the new row lies. -/
theorem stepAppAt {w : World} {ops : Array Oper} {o : Oper} {a : Act} {K : Act → World → Prop} {Q : Exit → Act → World → Prop} {E : Prop} (hgd : o.guard = none) (s x : Operand)
    (ho : o.op = .call { callee := .builtin .append, args := #[s, x], argTypes := #[31, 31] })
    (base : Nat) (v : Value) (n : Nat) (xs : List Int) (hs : a.eval s = v) (hown : w.ownsRow base 3 1 v n (xs.map (Value.int .i64)))
    (b c : Nat) (y : Int) (hx : a.eval x = .slice (some ⟨b, 0, none⟩) 1 c) (hcell : w.cell? ⟨b, 0, none⟩ = some (.int .i64 y))
    (hn : n ≤ 1099511627776) (hbase : base ≤ w.heap.size)
    (h : ∀ v' w', w'.ownsRow base 3 1 v' (n + 1) ((xs ++ [y]).map (Value.int .i64)) → w.grownBy w' v.ownBlock → (v'.ownBlock = v.ownBlock ∨ v'.ownBlock = some w.heap.size) → K (a.put o.dst v') w') :
    if Region.wanted o (yielded ops a.tmps) = true then Oper.wp Try.prog o a w K Q else E := by
  have hw : Region.wanted o (yielded ops a.tmps) = true := by simp [Region.wanted, hgd]
  rw [if_pos hw]
  obtain ⟨i0, hi, hz0, hz1, hz2⟩ := info_parts info3
  obtain ⟨v', w', hr, h2, h3, h4, h5⟩ := run_append_own_at (P := Try.prog) w base 31 o.type 3 i0 (.int .i64 0) 1 8 Try.underlying31 hi hz0 hz1 hz2 rfl (by decide) v n _ hown ⟨b, 0, none⟩ 1 c [.int .i64 y] rfl (fun j u hj => by
    match j, hj with
    | 0, hj => simp at hj; subst hj; simpa [Addr.add] using hcell) (fun u hu => by simp at hu; subst hu; rfl) (by unfold maxLen; omega) (by omega) hbase
  unfold Oper.wp execOp
  simp only [ho, resolve, invoke, builtin, Sem.run_bind, Sem.run_pure, Result.andThen_ok, List.map_toArray, List.map_cons, List.map_nil, hs, hx, hr]
  exact h v' w' (by simpa using h2) h3 h5

end Go.Proofs.Ytefbbkogfoongaa
