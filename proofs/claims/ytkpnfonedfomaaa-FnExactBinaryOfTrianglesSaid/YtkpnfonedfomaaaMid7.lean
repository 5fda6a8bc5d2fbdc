/- A whole polygon loaded and stored at one go. -/
import Derived.Test.YtkpnfonedfomaaaImpl7B
import Derived.Deep.MidRow
namespace Go.Proofs.Ytkpnfonedfomaaa
open Go.ChangeShapes Go.WideShapes Go.ChangeAt Go.RowKit
set_option linter.unusedVariables false

theorem Pg.range {W : World} {b : Nat} {n m : Int} {f : Nat → Int} (h : Pg W b n m f) : W.rangeAt b 0 (pgA n m f).toList := by
  intro j v hv
  have hj : j < 16 := (List.getElem?_eq_some_iff.1 hv).1
  rw [Nat.zero_add]
  rcases Nat.lt_or_ge j 2 with h2 | h2
  · match j, h2 with
    | 0, _ => rw [h.c0]; exact hv
    | 1, _ => rw [h.c1]; exact hv
  · obtain ⟨k, rfl⟩ : ∃ k, j = 2 + k := ⟨j - 2, by omega⟩
    rw [h.cs k (by omega)]
    have hk : k < 14 := by omega
    match k, hk with
    | 0, _ => exact hv
    | 1, _ => exact hv
    | 2, _ => exact hv
    | 3, _ => exact hv
    | 4, _ => exact hv
    | 5, _ => exact hv
    | 6, _ => exact hv
    | 7, _ => exact hv
    | 8, _ => exact hv
    | 9, _ => exact hv
    | 10, _ => exact hv
    | 11, _ => exact hv
    | 12, _ => exact hv
    | 13, _ => exact hv
theorem Pg.rangeA {W : World} {b : Nat} {n m : Int} {f : Nat → Int} (h : Pg W b n m f) : W.rangeAt b 2 (arA f).toList := by
  intro j v hv
  have hj : j < 14 := (List.getElem?_eq_some_iff.1 hv).1
  rw [h.cs j hj]
  match j, hj with
  | 0, _ => exact hv
  | 1, _ => exact hv
  | 2, _ => exact hv
  | 3, _ => exact hv
  | 4, _ => exact hv
  | 5, _ => exact hv
  | 6, _ => exact hv
  | 7, _ => exact hv
  | 8, _ => exact hv
  | 9, _ => exact hv
  | 10, _ => exact hv
  | 11, _ => exact hv
  | 12, _ => exact hv
  | 13, _ => exact hv
theorem pg_info : (Try.prog.info? 45).map (·.size) = some 16 := by kernel_rfl
theorem ar_info : (Try.prog.info? 43).map (·.size) = some 14 := by kernel_rfl
theorem ldPg {W : World} {b : Nat} {n m : Int} {f : Nat → Int} (h : Pg W b n m f) : (Instr.loadAt 45 (.pointer (some ⟨b, 0, none⟩))).run Try.prog W = .ok (pgV n m f) W :=
  run_loadAt_mid W b 0 45 (pgA n m f).toList _ h.range Try.underlying45 rfl pg_info
theorem ldVar {W : World} {b : Nat} {n m : Int} {f : Nat → Int} (h : Pg W b n m f) : (loadVar 45 ⟨b, 0, none⟩).run Try.prog W = .ok (pgV n m f) W :=
  run_loadVar_mid W b 0 45 (pgA n m f).toList _ h.range Try.underlying45 rfl pg_info
theorem ldAr {W : World} {b : Nat} {n m : Int} {f : Nat → Int} (h : Pg W b n m f) : (Instr.loadAt 43 (.pointer (some ⟨b, 2, none⟩))).run Try.prog W = .ok (.agg (arA f)) W :=
  run_loadAt_mid W b 2 43 (arA f).toList _ h.rangeA Try.underlying43 rfl ar_info
theorem stPg {W : World} {b : Nat} {n' m' : Int} {f' : Nat → Int} (n m : Int) (f : Nat → Int) (h : Pg W b n' m' f') :
    ∃ wz, (Instr.storeAt 45 (.pointer (some ⟨b, 0, none⟩)) (pgV n m f)).run Try.prog W = .ok () wz ∧ Pg wz b n m f ∧ Onl b W wz := by
  refine ⟨W.setCells b 0 (pgA n m f).toList, run_storeAt_mid W b 0 45 (pgA n m f) (fun j hj => ?_) pg_info (by simp [pgA, Value.oneCell']), h.put, pgSt_onl W b n m f⟩
  have hj : j < 16 := hj
  rw [Nat.zero_add]
  refine ⟨?_, h.fz j hj⟩
  have hk : ∃ v, (pgA n' m' f').toList[j]? = some v := ⟨_, List.getElem?_eq_getElem hj⟩
  obtain ⟨v, hv⟩ := hk
  have := h.range j v hv
  rw [Nat.zero_add] at this
  rw [this]; rfl

/-- A polygon stored, in a walk. -/
theorem wpStPg {w : World} {ops : Array Oper} {rest : List Oper} {op : Oper} {a : Act} {Q : Exit → Act → World → Prop} (hgd : op.guard = none) (x y : Operand) (ho : op.op = .store 45 x y)
    (b : Nat) (n m : Int) (f : Nat → Int) (n' m' : Int) (f' : Nat → Int) (h : Pg w b n' m' f') (hx : a.eval x = .pointer (some ⟨b, 0, none⟩)) (hy : a.eval y = pgV n m f)
    (k : ∀ wz, Pg wz b n m f → Onl b w wz → wpList Try.prog ops Q rest (a.put op.dst undef) wz) : wpList Try.prog ops Q (op :: rest) a w := by
  refine wpList_store_mid hgd 45 x y ho b 0 (pgA n m f) hx hy (fun j hj => ?_) pg_info (by simp [pgA, Value.oneCell']) (k _ h.put (pgSt_onl w b n m f))
  have hj : j < 16 := hj
  rw [Nat.zero_add]
  refine ⟨?_, h.fz j hj⟩
  have hk : ∃ v, (pgA n' m' f').toList[j]? = some v := ⟨_, List.getElem?_eq_getElem hj⟩
  obtain ⟨v, hv⟩ := hk
  have := h.range j v hv
  rw [Nat.zero_add] at this
  rw [this]; rfl
theorem wpLdPg {w : World} {ops : Array Oper} {rest : List Oper} {op : Oper} {a : Act} {Q : Exit → Act → World → Prop} (hgd : op.guard = none) (x : Operand) (ho : op.op = .load 45 x)
    (b : Nat) (n m : Int) (f : Nat → Int) (h : Pg w b n m f) (hx : a.eval x = .pointer (some ⟨b, 0, none⟩)) (k : wpList Try.prog ops Q rest (a.put op.dst (pgV n m f)) w) : wpList Try.prog ops Q (op :: rest) a w :=
  wpList_load_mid hgd 45 x ho b 0 hx (pgA n m f).toList _ h.range Try.underlying45 rfl pg_info k
theorem stepLdPg {w : World} {ops : Array Oper} {o : Oper} {a : Act} {K : Act → World → Prop} {Q : Exit → Act → World → Prop} {E : Prop} (hw : Region.wanted o (yielded ops a.tmps) = true) (x : Operand) (ho : o.op = .load 45 x)
    (b : Nat) (n m : Int) (f : Nat → Int) (h : Pg w b n m f) (hx : a.eval x = .pointer (some ⟨b, 0, none⟩)) (k : K (a.put o.dst (pgV n m f)) w) :
    if Region.wanted o (yielded ops a.tmps) = true then Oper.wp Try.prog o a w K Q else E := by
  rw [if_pos hw]
  exact wp_load_mid 45 x ho b 0 hx (pgA n m f).toList _ h.range Try.underlying45 rfl pg_info k
theorem stepLdAr {w : World} {ops : Array Oper} {o : Oper} {a : Act} {K : Act → World → Prop} {Q : Exit → Act → World → Prop} {E : Prop} (hw : Region.wanted o (yielded ops a.tmps) = true) (x : Operand) (ho : o.op = .load 43 x)
    (b : Nat) (n m : Int) (f : Nat → Int) (h : Pg w b n m f) (hx : a.eval x = .pointer (some ⟨b, 2, none⟩)) (k : K (a.put o.dst (.agg (arA f))) w) :
    if Region.wanted o (yielded ops a.tmps) = true then Oper.wp Try.prog o a w K Q else E := by
  rw [if_pos hw]
  exact wp_load_mid 43 x ho b 2 hx (arA f).toList _ h.rangeA Try.underlying43 rfl ar_info k
theorem resT {W : World} {b : Nat} {n m : Int} {f : Nat → Int} (v : Value) (h : Pg W b n m f) :
    ((asAddr (.pointer (some ⟨b, 0, none⟩))).run Try.prog W).andThen (fun a w₁ => ((loadVar 45 a).run Try.prog w₁).andThen fun x w₂ => Result.ok (Value.tuple #[x, v]) w₂) = Result.ok (Value.tuple #[pgV n m f, v]) W := by
  simp only [asAddr, Sem.run_pure, Result.andThen_ok, ldVar h]

end Go.Proofs.Ytkpnfonedfomaaa
