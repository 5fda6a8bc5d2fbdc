/- strings.NewReplacer at four strings of one letter each. -/
import Derived.Test.YtpggglcjocnjlaaGreatRepR
namespace Go.Proofs.YtpggglcjocnjlaaGreat
open Go.ChangeShapes Go.WideShapes Go.ChangeAt Go.RowKit
set_option linter.unusedVariables false

theorem below_of_nil {w w' : World} (h : w.grownBy w' (Value.slice none 0 0).ownBlock) : Below w.heap.size w w' :=
  ⟨h.os, h.tape, h.output, h.size, fun k hk => h.block k hk (by simp [Value.ownBlock])⟩
theorem below_alloc (w : World) (o : Obj) : Below w.heap.size w (w.alloc o) := (Below.refl _ w).alloc (Nat.le_refl _) o
/-- Four strings behind one another. -/
def Row4 (w : World) (B : Nat) (a b a' b' : UInt8) : Prop := ∀ j, j < 4 → w.cell? ⟨B, j, none⟩ = some (.string ((four a b a' b').getD j E0))

set_option maxRecDepth 100000 in
set_option maxHeartbeats 1600000 in
theorem newR (B : Nat) (a b a' b' : UInt8) (w : World) (h4 : Row4 w B a b a' b') :
    Calls Tryz.prog 57 #[.slice (some ⟨B, 0, none⟩) 4 4] w fun e w' => ∃ g v, e = .returned (.pointer (some ⟨g, 0, none⟩)) ∧ OwnS w' w.heap.size g v (four a b a' b') ∧ RepAt w' g 0 0 0 .nilIface v ∧ w.heap.size ≤ g ∧ Below w.heap.size w w' := by
  obtain ⟨i0, hi, hz0, hz1, hz2⟩ := info_parts info9
  have HI := Lib.hid hi
  clear hi
  have H4 := Lib.hid h4
  clear h4
  go_enter Tryz.func57, Tryz.ntmps57
  go_wp2_with (first
    | (refine wpList_append_own _ rfl (.const (.slice none 0 0)) (.tmp 8) 33 rfl w.heap.size 9 i0 (.string ⟨#[]⟩) 1 16 Tryz.underlying33 HI.out hz0 hz1 hz2 rfl (by decide) (.slice none 0 0) 0 [] rfl (World.ownsRow_nil _ _ _ _) ⟨B, 0, none⟩ 4 4 ((four a b a' b').map Value.string) rfl rfl ?_ ?_ (by decide) (by decide) (Nat.le_refl _) ?_
       · intro j u hj
         have hj4 : j < 4 := by
           have := (List.getElem?_eq_some_iff.1 hj).1
           simpa [four] using this
         rw [add_flat, H4.out j hj4, ← hj, List.getElem?_map]
         have : (four a b a' b')[j]? = some ((four a b a' b').getD j E0) := by
           rw [List.getD_eq_getElem?_getD, List.getElem?_eq_getElem (by simpa [four] using hj4)]; rfl
         rw [this]; rfl
       · intro u hu
         obtain ⟨x, -, rfl⟩ := List.mem_map.1 hu
         rfl
       intro v' w' h1 h2 _
       have HV := Lib.hid (OwnS.of_row (xs := four a b a' b') h1)
       have HB := Lib.hid (below_of_nil h2)
       clear h1 h2
       obtain ⟨A, cap, e, -⟩ := id HV.out
       have hlen : (four a b a' b').length = 4 := rfl
       rw [hlen] at e
       clear hlen
       subst e))
  have HN := Lib.hid (heap_alloc_new w' (.cells #[.int .u32 0, .int .i32 0, .int .u32 0, .nilIface, .slice A 4 cap] 97))
  go_ret
  have hb := HB.out.alloc HB.out.size (.cells #[.int .u32 0, .int .i32 0, .int .u32 0, .nilIface, .slice A 4 cap] 97)
  exact ⟨w'.heap.size, rfl, .slice A 4 cap, HV.out.keep (below_alloc w' _) (Nat.le_refl _), HN.out, HB.out.size, hb⟩

end Go.Proofs.YtpggglcjocnjlaaGreat
