/- What FnPaths says of all paths, looked at path by path. -/
import Derived.Test.YtdnkddmnijckhaaGreatSpec2F
import Derived.Test.YtdnkddmnijckhaaGreatSpec2G
import Derived.Test.YtdnkddmnijckhaaGreatSpec2D
import Derived.Test.YtdnkddmnijckhaaGreatSpec2C
namespace Go.Proofs.YtdnkddmnijckhaaGreat
open Go.ChangeShapes Go.WideShapes Go.ChangeAt Go.RowKit
set_option linter.unusedVariables false

/-- All words of n letters that lead from height h to 0. -/
def enumP : Nat → Nat → List (List UInt8)
  | h, 0 => if h = 0 then [[]] else []
  | h, n + 1 => (enumP (h + 1) n).map (fun l => 117 :: l) ++ (match h with | 0 => [] | k + 1 => (enumP k n).map (fun l => 100 :: l))
theorem enumP_zero (n : Nat) : enumP 0 (n + 1) = (enumP 1 n).map (fun l => 117 :: l) ++ [] := rfl
theorem enumP_succ (k n : Nat) : enumP (k + 1) (n + 1) = (enumP (k + 2) n).map (fun l => 117 :: l) ++ (enumP k n).map (fun l => 100 :: l) := rfl
theorem enumP_all : ∀ (l : List UInt8) (h : Nat), dyckFrom h l = true → l ∈ enumP h l.length := by
  intro l
  induction l with
  | nil =>
    intro h hd
    rw [df_nil] at hd
    simp only [beq_iff_eq] at hd
    subst hd; simp [enumP]
  | cons c l ih =>
    intro h hd
    by_cases e1 : c.toNat = 117
    · rw [df_up h c l e1] at hd
      have : c = 117 := UInt8.toNat_inj.1 (by rw [e1]; rfl)
      subst this
      rw [List.length_cons]
      rcases h with _ | h
      · rw [enumP_zero]; exact List.mem_append_left _ (List.mem_map.2 ⟨l, ih _ hd, rfl⟩)
      · rw [enumP_succ]; exact List.mem_append_left _ (List.mem_map.2 ⟨l, ih _ hd, rfl⟩)
    · by_cases e2 : c.toNat = 100
      · have : c = 100 := UInt8.toNat_inj.1 (by rw [e2]; rfl)
        subst this
        rcases h with _ | h
        · rw [df_below _ _ e2] at hd; cases hd
        · rw [df_down h _ l e2] at hd
          rw [List.length_cons, enumP_succ]
          exact List.mem_append_right _ (List.mem_map.2 ⟨l, ih _ hd, rfl⟩)
      · rw [df_other h c l e1 e2] at hd; cases hd

def catS (l : List ByteArray) : ByteArray := l.foldl (fun a b => a ++ b) ⟨#[]⟩
def okPath (l : List UInt8) : Bool :=
  let s : ByteArray := ⟨l.toArray⟩
  let a := firstA s
  let b := firstB s
  let p := primesP s
  let v := reverseP s
  (l.isEmpty || (joinOk a b && (joinP a b).data.toList == l && areaP s == areaP a + sizeP a + areaP b && returnsP s == 1 + returnsP b && decide (0 ≤ areaP a ∧ areaP a ≤ 1000 ∧ 0 ≤ sizeP a ∧ sizeP a ≤ 1000 ∧ 0 ≤ areaP b ∧ areaP b ≤ 1000 ∧ 0 ≤ returnsP b ∧ returnsP b ≤ 1000)))
    && p.all (fun x => returnsP x == 1 && decide (x.size ≤ 16)) && (catS p).data.toList == l && (p.length : Int) == returnsP s && peaksP v == peaksP s && areaP v == areaP s

theorem ok0 : (List.range 12).all (fun n => (enumP 0 n).all okPath) = true := by decide +kernel
theorem ok6 : (enumP 0 12).all okPath = true := by decide +kernel
theorem ok13 : (enumP 0 13).all okPath = true := by decide +kernel
theorem ok8 : okPath [117, 117, 117, 117, 117, 117, 117, 117, 100, 100, 100, 100, 100, 100, 100, 100] = true := by decide +kernel

end Go.Proofs.YtdnkddmnijckhaaGreat
