/- The contracts of both EncodeVarint (the model's and the program's): from 0 to MaxVarint both give the shortest groups of seven bits, else the empty string. -/
import Derived.Test.YtamdmflofbpjkaaA
import Derived.Laws.BytesArg
import Derived.OwnWalk
import Derived.Deep.DeepMust
namespace Go.Proofs.Ytamdmflofbpjkaa
open Go.ChangeShapes Go.WideShapes Go.ChangeAt Go.RowKit
set_option linter.unusedVariables false

theorem info5 : (Try.prog.info? 5).map (fun i => (i.zero, i.size, i.bytes)) = some (some (.int .u8 0), 1, 1) := by kernel_rfl

/-- The string of a row of bytes that the call owns. -/
theorem conv_own {w : World} {base : Nat} {v : Value} {n : Nat} {xs : List Int} (h : w.ownsRow base 5 1 v n (xs.map (Value.int .u8))) :
    (convert 36 9 v).run Try.prog w = .ok (.string (strOfNums xs)) w := by
  have hl : xs.length = n := by have := h.1; simpa using this
  rcases h.2 with ⟨rfl, rfl⟩ | ⟨g, cap, cur, rfl, hb, hh, hnc, hcm, hcur, htake⟩
  · obtain rfl := List.eq_nil_of_length_eq_zero hl
    rw [run_convert_bytes_nil w 36 5 Try.underlying36 Try.underlying5 0 0 9 Try.underlying9]
    rfl
  · refine run_convert_bytes_arg w 36 5 Try.underlying36 Try.underlying5 g 0 n cap xs hl (fun i hi => ?_) 9 Try.underlying9
    have := h.cells (g := g) rfl i (.int .u8 (xs.getD i 0)) (by simp [List.getD, show i < xs.length by omega])
    rw [Addr.add_lit] at this
    simpa using this

theorem cell_new1 (w : World) (x : Value) (t : TypeId) : (w.alloc (.cells #[x] t)).cell? ⟨w.heap.size, 0, none⟩ = some x := by
  rw [World.cell?_alloc_at _ _ _ _ rfl]; rfl
theorem base_ok {w wr : World} {o : Obj} (hb : Below w.heap.size w wr) : w.heap.size ≤ (wr.alloc o).heap.size := by
  have := hb.size; simp; omega

def vr (n : Nat) : List Int := if h : n < 128 then [(n : Int)] else ((n % 128 + 128 : Nat) : Int) :: vr (n / 128)
termination_by n
decreasing_by omega
theorem vr_low {n : Nat} (h : n < 128) : vr n = [(n : Int)] := by rw [vr]; simp [h]
theorem vr_high {n : Nat} (h : 128 ≤ n) : vr n = ((n % 128 + 128 : Nat) : Int) :: vr (n / 128) := by
  rw [vr, dif_neg (by omega)]
theorem vr_len : ∀ (k n : Nat), n < 128 ^ (k + 1) → (vr n).length ≤ k + 1 := by
  intro k
  induction k with
  | zero => intro n h; rw [vr_low (by simpa using h)]; simp
  | succ k ih =>
    intro n h
    by_cases hl : n < 128
    · rw [vr_low hl]; simp
    · rw [vr_high (by omega)]
      have := ih (n / 128) (by rw [Nat.div_lt_iff_lt_mul (by omega)]; rwa [← Nat.pow_succ])
      simp only [List.length_cons]; omega
theorem vr_len7 (n : Nat) (h : n ≤ 562949953421311) : (vr n).length ≤ 7 := vr_len 6 n (by
  have : (128 : Nat) ^ (6 + 1) = 562949953421312 := by decide
  omega)
theorem vr_pos (n : Nat) : 1 ≤ (vr n).length := by
  by_cases h : n < 128
  · rw [vr_low h]; simp
  · rw [vr_high (by omega)]; simp

/-- One byte appended to a row of bytes that the call owns. -/
theorem wpApp1 {w : World} {ops : Array Oper} {rest : List Oper} {o : Oper} {a : Act} {Q : Exit → Act → World → Prop} (hgd : o.guard = none) (s x : Operand)
    (ho : o.op = .call { callee := .builtin .append, args := #[s, x], argTypes := #[36, 36] })
    (base : Nat) (v : Value) (n : Nat) (xs : List Int) (hs : a.eval s = v) (hown : w.ownsRow base 5 1 v n (xs.map (Value.int .u8)))
    (b : Nat) (c : Nat) (y : Int) (hx : a.eval x = .slice (some ⟨b, 0, none⟩) 1 c) (hcell : w.cell? ⟨b, 0, none⟩ = some (.int .u8 y))
    (hn : n ≤ 140737488351232) (hbase : base ≤ w.heap.size)
    (h : ∀ v' w', w'.ownsRow base 5 1 v' (n + 1) ((xs ++ [y]).map (Value.int .u8)) → w.grownBy w' v.ownBlock → wpList Try.prog ops Q rest (a.put o.dst v') w') : wpList Try.prog ops Q (o :: rest) a w := by
  obtain ⟨i0, hi, hz0, hz1, hz2⟩ := info_parts info5
  refine wpList_append_own _ hgd s x 36 ho base 5 i0 (.int .u8 0) 1 1 Try.underlying36 hi hz0 hz1 hz2 rfl (by decide) v n _ hs hown ⟨b, 0, none⟩ 1 c [.int .u8 y] hx rfl ?_ ?_ (by unfold maxLen; omega) (by omega) hbase ?_
  · intro j u hj
    match j, hj with
    | 0, hj => simp at hj; subst hj; simpa [Addr.add] using hcell
  · intro u hu; simp at hu; subst hu; rfl
  · intro v' w' h1 h2 _
    exact h v' w' (by simpa using h1) h2

set_option maxRecDepth 100000 in
set_option maxHeartbeats 800000 in
theorem specEV_yes (n : Nat) (w : World) (h : n ≤ 562949953421311) :
    Calls Try.prog 13 #[.int .i64 n] w fun e w' => e = .returned (.string (strOfNums (vr n))) ∧ Below w.heap.size w w' := by
  obtain ⟨i0, hi, hz0, hz1, hz2⟩ := info_parts info5
  have hlen := vr_len7 n h
  go_enter Try.func13, Try.ntmps13
  go_wp2_with (first | (go_at_call 21; refine (l1In_yes _ _ _ _ (by omega) (by omega)).mono ?_; rintro e w' ⟨rfl, rfl⟩))
  go_loopw [0, 3] (fun x v wr => ∃ (acc : List Int) (m : Nat), x = .int .i64 m ∧ m ≤ n ∧ acc ++ vr m = vr n ∧ wr.ownsRow w.heap.size 5 1 v acc.length (acc.map (Value.int .u8)) ∧ Below w.heap.size w wr)
    (fun x _ _ => (intOf x).toNat)
  case atStart =>
    refine ⟨[], n, rfl, Nat.le_refl _, rfl, ?_, (Below.refl _ _).alloc (Nat.le_refl _) _⟩
    exact World.ownsRow_made w #[] 0 (Nat.le_refl _) (Nat.zero_le _) (by simp)
  case round =>
    obtain ⟨acc, m, rfl, hm, hacc, hown, hb⟩ := hrel
    have hal : acc.length + (vr m).length ≤ 7 := by rw [← hacc] at hlen; simpa using hlen
    have hp := vr_pos m
    have HA := Lib.hid hacc
    clear hacc
    by_cases hlt : m < 128
    · go_wp2_with (at_builtin; go_must (refine wpApp1 rfl _ _ rfl w.heap.size u3 _ _ rfl (hown.alloc _) wr.heap.size _ _ rfl (cell_new1 _ _ _) (by omega) (base_ok hb) ?_); intro v' w' hown' hg')
      have hconv := conv_own hown'
      go_wp2
      simp only [hconv]
      go_wp2
      go_ret
      refine ⟨?_, ?_⟩
      · rw [← HA.out, vr_low hlt]
        simp
      · exact (hb.alloc hb.size _).grown hg' (by simp; have := hb.size; omega) (fun k hk => (hown.lt k hk).1)
    · go_wp2_with (at_builtin; go_must (refine wpApp1 rfl _ _ rfl w.heap.size u3 _ _ rfl (hown.alloc _) wr.heap.size _ _ rfl (cell_new1 _ _ _) (by omega) (base_ok hb) ?_); intro v' w' hown' hg')
      go_roundw
      case rel => 
        refine ⟨acc ++ [((m % 128 + 128 : Nat) : Int)], m / 128, by simp, by omega, ?_, ?_, ?_⟩
        · rw [← HA.out, vr_high (n := m) (by omega)]; simp
        · rw [show ((m % 128 + 128 : Nat) : Int) = 128 + (m : Int) % 128 from by omega]
          simpa using hown'
        · exact (hb.alloc hb.size _).grown hg' (by simp; have := hb.size; omega) (fun k hk => (hown.lt k hk).1)
      case measure => simp [intOf]; omega

set_option maxRecDepth 100000 in
set_option maxHeartbeats 800000 in
theorem implEV_yes (n : Nat) (w : World) (h : n ≤ 562949953421311) :
    Calls Try.prog 14 #[.int .i64 n] w fun e w' => e = .returned (.string (strOfNums (vr n))) ∧ Below w.heap.size w w' := by
  obtain ⟨i0, hi, hz0, hz1, hz2⟩ := info_parts info5
  have hlen := vr_len7 n h
  go_enter Try.func14, Try.ntmps14
  go_wp2
  go_loopw [0, 3] (fun x v wr => ∃ (acc : List Int) (m : Nat), x = .int .i64 m ∧ m ≤ n ∧ acc ++ vr m = vr n ∧ wr.ownsRow w.heap.size 5 1 v acc.length (acc.map (Value.int .u8)) ∧ Below w.heap.size w wr)
    (fun x _ _ => (intOf x).toNat)
  case atStart =>
    refine ⟨[], n, rfl, Nat.le_refl _, rfl, ?_, Below.refl _ _⟩
    exact World.ownsRow_nil _ _ _ _
  case round =>
    obtain ⟨acc, m, rfl, hm, hacc, hown, hb⟩ := hrel
    have hal : acc.length + (vr m).length ≤ 7 := by rw [← hacc] at hlen; simpa using hlen
    have hp := vr_pos m
    have HA := Lib.hid hacc
    clear hacc
    by_cases hlt : m < 128
    · go_wp2_with (at_builtin; go_must (refine wpApp1 rfl _ _ rfl w.heap.size u3 _ _ rfl (hown.alloc _) wr.heap.size _ _ rfl (cell_new1 _ _ _) (by omega) (base_ok hb) ?_); intro v' w' hown' hg')
      have hconv := conv_own hown'
      go_wp2
      simp only [hconv]
      go_wp2
      go_ret
      refine ⟨?_, ?_⟩
      · rw [← HA.out, vr_low hlt]
        simp
      · exact (hb.alloc hb.size _).grown hg' (by simp; have := hb.size; omega) (fun k hk => (hown.lt k hk).1)
    · go_wp2_with (at_builtin; go_must (refine wpApp1 rfl _ _ rfl w.heap.size u3 _ _ rfl (hown.alloc _) wr.heap.size _ _ rfl (cell_new1 _ _ _) (by omega) (base_ok hb) ?_); intro v' w' hown' hg')
      go_roundw
      case rel => 
        refine ⟨acc ++ [((m % 128 + 128 : Nat) : Int)], m / 128, by simp, by omega, ?_, ?_, ?_⟩
        · rw [← HA.out, vr_high (n := m) (by omega)]; simp
        · rw [show ((m % 128 + 128 : Nat) : Int) = (m : Int) % 128 + 128 from by omega]
          simpa using hown'
        · exact (hb.alloc hb.size _).grown hg' (by simp; have := hb.size; omega) (fun k hk => (hown.lt k hk).1)
      case measure => simp [intOf]; omega

theorem specEV_no (n : Int) (w : World) (h : n < 0 ∨ 562949953421311 < n) :
    Calls Try.prog 13 #[.int .i64 n] w fun e w' => e = .returned (.string (strOfNums [])) ∧ Below w.heap.size w w' := by
  rcases h with h | h
  · go_enter Try.func13, Try.ntmps13
    go_wp2
    go_ret
    exact ⟨rfl, Below.refl _ _⟩
  · have h0 : 0 ≤ n := by omega
    go_enter Try.func13, Try.ntmps13
    go_wp2_with (go_at_call 21; refine (l1In_no2 _ _ _ _ h0 h).mono ?_; rintro e w' ⟨rfl, rfl⟩)
    go_ret
    exact ⟨rfl, Below.refl _ _⟩
theorem implEV_no (n : Int) (w : World) (h : n < 0 ∨ 562949953421311 < n) :
    Calls Try.prog 14 #[.int .i64 n] w fun e w' => e = .returned (.string (strOfNums [])) ∧ Below w.heap.size w w' := by
  rcases h with h | h
  · go_enter Try.func14, Try.ntmps14
    go_wp2
    go_ret
    exact ⟨rfl, Below.refl _ _⟩
  · have h0 : 0 ≤ n := by omega
    go_enter Try.func14, Try.ntmps14
    go_wp2
    go_ret
    exact ⟨rfl, Below.refl _ _⟩

end Go.Proofs.Ytamdmflofbpjkaa
