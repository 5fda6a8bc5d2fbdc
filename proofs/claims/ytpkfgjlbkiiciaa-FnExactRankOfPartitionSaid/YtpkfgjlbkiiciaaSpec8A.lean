/- The contracts of the model's IsPartition, l8Renumber and RenumberBlocks. -/
import Derived.Test.YtpkfgjlbkiiciaaSpec2C
import Derived.Test.YtpkfgjlbkiiciaaInts
import Derived.Maps.AppendAt
import Derived.BigQuiet
namespace Go.Proofs.Ytpkfgjlbkiiciaa
open Go.ChangeShapes Go.WideShapes Go.ChangeAt Go.RowKit
set_option linter.unusedVariables false

theorem l1In_out (x lo hi : Int) (w : World) (h : ¬ (lo ≤ x ∧ x ≤ hi)) :
    Calls Try.prog 45 #[.int .i64 x, .int .i64 lo, .int .i64 hi] w fun e w' => e = .returned (.bool false) ∧ w = w' := by
  by_cases h1 : lo ≤ x
  · exact l1In_no2 x lo hi w h1 (by omega)
  · exact l1In_no1 x lo hi w (by omega)
/-- The next number of a block, behind the first i elements. -/
def ptN (xs : List Int) : Nat → Nat
  | 0 => 0
  | i + 1 => if xs.getD i 0 = (ptN xs i : Int) then ptN xs i + 1 else ptN xs i
theorem ptN_le (xs : List Int) (i : Nat) : ptN xs i ≤ i := by
  induction i with
  | zero => exact Nat.le_refl _
  | succ i ih => rw [ptN]; split <;> omega
def prtB (xs : List Int) : Bool := decide (xs.length ≤ 8 ∧ ∀ i, i < xs.length → 0 ≤ xs.getD i 0 ∧ xs.getD i 0 ≤ (ptN xs i : Int))
theorem prt_yes {xs : List Int} (h : prtB xs = true) : xs.length ≤ 8 ∧ ∀ i, i < xs.length → 0 ≤ xs.getD i 0 ∧ xs.getD i 0 ≤ (ptN xs i : Int) := of_decide_eq_true h

set_option maxRecDepth 100000 in
set_option maxHeartbeats 1600000 in
theorem isPartition (v : Value) (xs : List Int) (lo hi : Nat) (w : World) (hv : OwnI w lo hi v xs) (hl : xs.length ≤ 1099511627776) :
    Calls Try.prog 25 #[v] w fun e w' => e = .returned (.bool (prtB xs)) ∧ w = w' := by
  obtain ⟨A1, c1, rfl, k1⟩ := id hv
  clear k1
  have HV := Lib.hid hv
  clear hv
  go_enter Try.func25, Try.ntmps25
  go_wp2
  go_loop [3, 4] (fun x y => ∃ i : Nat, i ≤ xs.length ∧ y = .int .i64 i ∧ x = .int .i64 (ptN xs i : Int) ∧ ∀ j, j < i → 0 ≤ xs.getD j 0 ∧ xs.getD j 0 ≤ (ptN xs j : Int)) (fun _ y => xs.length - (intOf y).toNat)
  case atStart => exact ⟨0, Nat.zero_le _, rfl, rfl, fun j hj => absurd hj (Nat.not_lt_zero _)⟩
  case round =>
    obtain ⟨i, hi1, rfl, rfl, ha⟩ := hrel
    have HA := Lib.hid ha
    clear ha
    by_cases hlt : i < xs.length
    · obtain ⟨g, c, e', -, -, hc, -⟩ := HV.out.cell hlt
      simp only [Value.slice.injEq] at e'
      obtain ⟨rfl, -, -⟩ := e'
      have hii : (i : Int) < (xs.length : Int) := by omega
      have hle := ptN_le xs i
      have HY := Lib.hid (show ptN xs (i + 1) = if xs.getD i 0 = (ptN xs i : Int) then ptN xs i + 1 else ptN xs i from rfl)
      have HOK := Lib.hid (show (0 ≤ xs.getD i 0 ∧ xs.getD i 0 ≤ (ptN xs i : Int)) → ∀ j, j < i + 1 → 0 ≤ xs.getD j 0 ∧ xs.getD j 0 ≤ (ptN xs j : Int) from fun h j hj => by
        by_cases e : j < i
        · exact HA.out j e
        · obtain rfl : j = i := by omega
          exact h)
      have HNO := Lib.hid (show ¬ (0 ≤ xs.getD i 0 ∧ xs.getD i 0 ≤ (ptN xs i : Int)) → prtB xs = false from fun h => decide_eq_false fun h2 => h (h2.2 i hlt))
      generalize xs.getD i 0 = y at *
      generalize ptN xs i = n at *
      by_cases hin : 0 ≤ y ∧ y ≤ (n : Int)
      · have HI := Lib.hid (l1In_yes y 0 (n : Int) w hin.1 hin.2)
        have HO := Lib.hid (HOK.out hin)
        by_cases e : y = (n : Int)
        · have he : (y == (n : Int)) = true := by simp [e]
          have HS := Lib.hid (HY.out.trans (if_pos e))
          have hnw : IntKind.i64.wrap ((n : Int) + 1) = (n : Int) + 1 := IntWalk.i64_in _ (by omega)
          clear e hin HNO HOK HY
          go_wp2_with fail
          (with_reducible refine HI.out.mono ?_)
          rintro e w' ⟨rfl, rfl⟩
          go_wp2
          exact ⟨⟨i + 1, by omega, by simp, by rw [HS.out]; simp, HO.out⟩, by simp [intOf]; omega⟩
        · have he : (y == (n : Int)) = false := beq_eq_false_iff_ne.2 e
          have HS := Lib.hid (HY.out.trans (if_neg e))
          clear e hin HNO HOK HY
          go_wp2_with fail
          (with_reducible refine HI.out.mono ?_)
          rintro e w' ⟨rfl, rfl⟩
          go_wp2
          exact ⟨⟨i + 1, by omega, by simp, by rw [HS.out], HO.out⟩, by simp [intOf]; omega⟩
      · have HI := Lib.hid (l1In_out y 0 (n : Int) w hin)
        have HN := Lib.hid (HNO.out hin)
        clear hin HNO HOK HY
        go_wp2_with fail
        (with_reducible refine HI.out.mono ?_)
        rintro e w' ⟨rfl, rfl⟩
        go_wp2
        go_ret
        exact ⟨ret_bool HN.out.symm, rfl⟩
    · obtain rfl : i = xs.length := by omega
      have hii : ¬ ((xs.length : Int) < (xs.length : Int)) := by omega
      have HR := Lib.hid (show prtB xs = decide ((xs.length : Int) ≤ 8) by
        by_cases h : xs.length ≤ 8
        · rw [decide_eq_true (show (xs.length : Int) ≤ 8 by omega)]; exact decide_eq_true ⟨h, HA.out⟩
        · rw [decide_eq_false (show ¬ (xs.length : Int) ≤ 8 by omega)]; exact decide_eq_false fun h2 => h h2.1)
      go_wp2
      go_ret
      exact ⟨ret_bool HR.out.symm, rfl⟩

/-- The last of the first k places at which y stands, or -1. -/
def laK (y : Int) (ns : List Int) : Nat → Int
  | 0 => -1
  | k + 1 => if ns.getD k 0 = y then (k : Int) else laK y ns k
theorem laK_bd (y : Int) (ns : List Int) (k : Nat) : laK y ns k = -1 ∨ 0 ≤ laK y ns k ∧ laK y ns k < (k : Int) := by
  induction k with
  | zero => exact .inl rfl
  | succ k ih => rw [laK]; split <;> omega
theorem laK_app (y x : Int) (ns : List Int) (k : Nat) (h : k ≤ ns.length) : laK y (ns ++ [x]) k = laK y ns k := by
  induction k with
  | zero => rfl
  | succ k ih => rw [laK, laK, ih (by omega), List.getD_eq_getElem?_getD, List.getElem?_append_left (by omega), ← List.getD_eq_getElem?_getD]
def la (y : Int) (ns : List Int) : Int := laK y ns ns.length
theorem la_new (y : Int) (ns : List Int) : la y (ns ++ [y]) = ns.length := by
  unfold la
  rw [List.length_append, List.length_singleton, laK, if_pos (by simp [List.getD])]
theorem la_old (y x : Int) (ns : List Int) (h : y ≠ x) : la y (ns ++ [x]) = la y ns := by
  unfold la
  rw [List.length_append, List.length_singleton, laK, if_neg (by simp [List.getD]; exact fun e => h e.symm), laK_app _ _ _ _ (Nat.le_refl _)]
/-- The names of the blocks, in the order of their first elements, of the first i elements. -/
def rnN (xs : List Int) : Nat → List Int
  | 0 => []
  | i + 1 => if la (xs.getD i 0) (rnN xs i) < 0 then rnN xs i ++ [xs.getD i 0] else rnN xs i
/-- The numbers of the blocks of the first i elements. -/
def rnO (xs : List Int) : Nat → List Int
  | 0 => []
  | i + 1 => rnO xs i ++ [if la (xs.getD i 0) (rnN xs i) < 0 then ((rnN xs i).length : Int) else la (xs.getD i 0) (rnN xs i)]
theorem rnN_le (xs : List Int) (i : Nat) : (rnN xs i).length ≤ i := by
  induction i with
  | zero => exact Nat.le_refl _
  | succ i ih => rw [rnN]; split; (rw [List.length_append, List.length_singleton]; omega); omega
theorem rnO_len (xs : List Int) (i : Nat) : (rnO xs i).length = i := by
  induction i with
  | zero => rfl
  | succ i ih => rw [rnO, List.length_append, ih]; rfl

/-- One int appended to a row of ints that the call owns, with the word where the row then lies. -/
theorem wpAppIntAt {w : World} {ops : Array Oper} {rest : List Oper} {o : Oper} {a : Act} {Q : Exit → Act → World → Prop} (hgd : o.guard = none) (s x : Operand)
    (ho : o.op = .call { callee := .builtin .append, args := #[s, x], argTypes := #[22, 22] })
    (base : Nat) (v : Value) (n : Nat) (xs : List Int) (hs : a.eval s = v) (hown : w.ownsRow base 3 1 v n (xs.map (Value.int .i64)))
    (b : Nat) (c : Nat) (y : Int) (hx : a.eval x = .slice (some ⟨b, 0, none⟩) 1 c) (hcell : w.cell? ⟨b, 0, none⟩ = some (.int .i64 y))
    (hn : n ≤ 1099511627776) (hbase : base ≤ w.heap.size)
    (h : ∀ v' w', w'.ownsRow base 3 1 v' (n + 1) ((xs ++ [y]).map (Value.int .i64)) → w.grownBy w' v.ownBlock → (v'.ownBlock = v.ownBlock ∨ v'.ownBlock = some w.heap.size) → wpList Try.prog ops Q rest (a.put o.dst v') w') : wpList Try.prog ops Q (o :: rest) a w := by
  obtain ⟨i0, hi, hz0, hz1, hz2⟩ := info_parts info3
  refine wpList_append_own_at _ hgd s x 22 ho base 3 i0 (.int .i64 0) 1 8 Try.underlying22 hi hz0 hz1 hz2 rfl (by decide) v n _ hs hown ⟨b, 0, none⟩ 1 c [.int .i64 y] hx rfl ?_ ?_ (by unfold maxLen; omega) (by omega) hbase ?_
  · intro j u hj
    match j, hj with
    | 0, hj => simp at hj; subst hj; simpa [Addr.add] using hcell
  · intro u hu; simp at hu; subst hu; rfl
  · intro v' w' h1 h2 _ h3
    exact h v' w' (by simpa using h1) h2 h3
theorem row_nil (w : World) (base : Nat) (hb : base ≤ w.heap.size) : (w.alloc (.cells #[] 3)).ownsRow base 3 1 (.slice (some ⟨w.heap.size, 0, none⟩) 0 0) 0 (([] : List Int).map (Value.int .i64)) :=
  World.ownsRow_made w #[] 0 hb (Nat.zero_le _) (by simp)

set_option maxRecDepth 100000 in
set_option maxHeartbeats 3200000 in
theorem l8Renumber (v : Value) (xs : List Int) (lo hi : Nat) (w : World) (hv : OwnI w lo hi v xs) (hhi : hi ≤ w.heap.size) (hl : xs.length ≤ 1099511627) :
    Calls Try.prog 31 #[v] w (AnsI (rnO xs xs.length) w) := by
  obtain ⟨A1, c1, rfl, k1⟩ := id hv
  clear k1
  have HV := Lib.hid hv
  clear hv
  have HST := Lib.hid (show ((w.alloc (.cells #[] 3)).alloc (.cells #[] 3)).ownsRow w.heap.size 3 1 (.slice (some ⟨w.heap.size, 0, none⟩) 0 0) 0 (([] : List Int).map (Value.int .i64)) ∧ ((w.alloc (.cells #[] 3)).alloc (.cells #[] 3)).ownsRow w.heap.size 3 1 (.slice (some ⟨w.heap.size + 1, 0, none⟩) 0 0) 0 (([] : List Int).map (Value.int .i64)) ∧ Below w.heap.size w ((w.alloc (.cells #[] 3)).alloc (.cells #[] 3)) by
    refine ⟨(row_nil w w.heap.size (Nat.le_refl _)).alloc _, ?_, ((Below.refl _ w).alloc (Nat.le_refl _) _).alloc (by simp) _⟩
    have h := row_nil (w.alloc (.cells #[] 3)) w.heap.size (by simp)
    rwa [show (w.alloc (.cells #[] 3)).heap.size = w.heap.size + 1 by simp] at h)
  go_enter Try.func31, Try.ntmps31
  go_wp2
  go_loopw [3, 4, 5] (fun o n y wr => ∃ i : Nat, i ≤ xs.length ∧ y = .int .i64 i ∧ wr.ownsRow w.heap.size 3 1 o (rnO xs i).length ((rnO xs i).map (Value.int .i64)) ∧ wr.ownsRow w.heap.size 3 1 n (rnN xs i).length ((rnN xs i).map (Value.int .i64)) ∧ (o.ownBlock ≠ n.ownBlock ∧ o.ownBlock ≠ none) ∧ Below w.heap.size w wr) (fun _ _ y _ => xs.length - (intOf y).toNat)
  case atStart => exact ⟨0, Nat.zero_le _, rfl, HST.out.1, HST.out.2.1, ⟨by simp [Value.ownBlock], by simp [Value.ownBlock]⟩, HST.out.2.2⟩
  case round =>
    obtain ⟨i, hi1, rfl, ho, hn, hne, hb⟩ := hrel
    have HO := Lib.hid ho
    have HN := Lib.hid hn
    have HNE := Lib.hid hne
    have HB := Lib.hid hb
    have hB := hb.size
    clear ho hn hne hb HST
    by_cases hlt : i < xs.length
    · obtain ⟨g, c, e', -, -, hc, -⟩ := (HV.out.keep HB.out hhi).cell hlt
      simp only [Value.slice.injEq] at e'
      obtain ⟨rfl, -, -⟩ := e'
      have hii : (i : Int) < (xs.length : Int) := by omega
      have hnl := rnN_le xs i
      have hol := rnO_len xs i
      have HRN := Lib.hid (show rnN xs (i + 1) = if la (xs.getD i 0) (rnN xs i) < 0 then rnN xs i ++ [xs.getD i 0] else rnN xs i from rfl)
      have HRO := Lib.hid (show rnO xs (i + 1) = rnO xs i ++ [if la (xs.getD i 0) (rnN xs i) < 0 then ((rnN xs i).length : Int) else la (xs.getD i 0) (rnN xs i)] from rfl)
      have HOL := Lib.hid hol
      have hol2 : (rnO xs i).length ≤ 1099511627 := by omega
      generalize xs.getD i 0 = y at *
      generalize rnN xs i = ns at *
      generalize rnO xs i = os at *
      obtain ⟨An, cn, hun, -⟩ := id (OwnI.of_row HN.out)
      subst hun
      clear hol
      go_wp2
      go_loopw [6, 7] (fun x z w2 => ∃ k : Nat, k ≤ ns.length ∧ z = .int .i64 k ∧ x = .int .i64 (laK y ns k) ∧ ∃ d, w2 = wr.drewN d) (fun _ z _ => ns.length - (intOf z).toNat)
      case atStart => exact ⟨0, Nat.zero_le _, rfl, rfl, 0, rfl⟩
      case round =>
        obtain ⟨k, hk, rfl, rfl, d, rfl⟩ := hrel
        by_cases hlt2 : k < ns.length
        · obtain ⟨g2, p2, e2, -, -, hc2, -⟩ := (OwnI.of_row HN.out).cell hlt2
          simp only [Value.slice.injEq] at e2
          obtain ⟨rfl, -, -⟩ := e2
          have hkk : (k : Int) < (ns.length : Int) := by omega
          have HLA := Lib.hid (show laK y ns (k + 1) = if ns.getD k 0 = y then (k : Int) else laK y ns k from rfl)
          generalize ns.getD k 0 = z at *
          generalize laK y ns k = a at *
          by_cases e : z = y
          · have he : (z == y) = true := by simp [e]
            have HL2 := Lib.hid (HLA.out.trans (if_pos e))
            clear e HLA
            go_wp2
            go_quiet (fail)
            go_wp2
            exact ⟨⟨k + 1, by omega, by simp, by rw [HL2.out], _, rfl⟩, by simp [intOf]; omega⟩
          · have he : (z == y) = false := beq_eq_false_iff_ne.2 e
            have HL2 := Lib.hid (HLA.out.trans (if_neg e))
            clear e HLA
            go_wp2
            go_quiet (fail)
            go_wp2
            exact ⟨⟨k + 1, by omega, by simp, by rw [HL2.out], _, rfl⟩, by simp [intOf]; omega⟩
        · obtain rfl : k = ns.length := by omega
          have hoB := World.ownsRow.lt HO.out
          have hnB := World.ownsRow.lt HN.out
          have HLA := Lib.hid (show laK y ns ns.length = la y ns from rfl)
          have hlb := laK_bd y ns ns.length
          rw [HLA.out] at hlb ⊢
          generalize la y ns = a at *
          have HOD := Lib.hid (show (wr.drewN d).ownsRow w.heap.size 3 1 u3 os.length (os.map (Value.int .i64)) from HO.out)
          have HND := Lib.hid (show (wr.drewN d).ownsRow w.heap.size 3 1 (.slice An ns.length cn) ns.length (ns.map (Value.int .i64)) from HN.out)
          have HBD := Lib.hid (show Below w.heap.size w (wr.drewN d) from below_drewN HB.out d)
          have hzd : (wr.drewN d).heap.size = wr.heap.size := rfl
          have HC1 := Lib.hid (show ∀ (z : Int), ((wr.drewN d).alloc (.cells #[.int .i64 z] 3)).cell? ⟨wr.heap.size, 0, none⟩ = some (.int .i64 z) from fun z => cell_one (wr.drewN d) _ _)
          by_cases ha : a < 0
          · have hai : a < 0 := ha
            have HRN2 := Lib.hid (HRN.out.trans (if_pos ha))
            have HRO2 := Lib.hid (show rnO xs (i + 1) = os ++ [(ns.length : Int)] by rw [HRO.out, if_pos ha])
            clear HRN HRO HLA
            go_wp2_with (first
              | (at_builtin; refine wpAppIntAt rfl _ _ rfl w.heap.size (.slice An ns.length cn) _ ns rfl (World.ownsRow.alloc HND.out _) _ _ y rfl (HC1.out y) (by omega) (by first | omega | (simp; omega) | simp) ?_; intro v1 w1 hown1 hg1 hat1; go_must (have hz1 := hg1.size; have HO1 := Lib.hid (World.ownsRow.kept (World.ownsRow.alloc HOD.out _) hg1 (.inr HNE.out.1)); have HN1 := Lib.hid hown1; have HB1 := Lib.hid ((HBD.out.alloc (by first | omega | (simp; omega) | simp) (.cells #[.int .i64 y] 3)).grown hg1 (by first | omega | (simp; omega) | simp) (fun k hk => (hnB k hk).1)); have hB1 := HB1.out.size; have HAT1 := Lib.hid hat1; have hwz : wr.heap.size + 1 ≤ w1.heap.size := (by first | omega | (simp at hz1; omega) | exact hz1); have HG1 := Lib.hid hg1; clear hown1 hg1 hat1 hz1))
              | (at_builtin; refine wpAppIntAt rfl _ _ rfl w.heap.size u3 _ os rfl (World.ownsRow.alloc HO1.out _) _ _ (ns.length : Int) rfl (cell_one w1 _ _) (by omega) (by first | omega | (simp; omega) | simp) ?_; intro v2 w2 hown2 hg2 hat2))
            have hn1B := World.ownsRow.lt HN1.out
            have hap : u3.ownBlock ≠ v1.ownBlock := by
              rcases HAT1.out with e | e
              · rw [e]; exact HNE.out.1
              · intro e2
                rw [e] at e2
                have h9 := (hoB _ e2).2
                have h8 : wr.heap.size ≤ ((wr.drewN d).alloc (.cells #[.int .i64 y] 3)).heap.size := by simp
                first | omega | (simp at h9; done) | (simp at h9; omega)
            go_roundw
            case rel =>
              refine ⟨i + 1, by omega, by simp, by rw [HRO2.out]; simpa using hown2, by rw [HRN2.out]; simpa using World.ownsRow.kept (World.ownsRow.alloc HN1.out _) hg2 (.inr hap.symm), ⟨?_, ?_⟩, (HB1.out.alloc hB1 _).grown hg2 (by simp; omega) (fun k hk => (hoB k hk).1)⟩
              · rcases hat2 with e | e
                · rw [e]; exact hap
                · rw [e]
                  intro e2
                  have := (hn1B _ e2.symm).2
                  simp at this
                  omega
              · rcases hat2 with e | e
                · rw [e]; exact HNE.out.2
                · rw [e]; simp
            case measure => simp [intOf]; omega
          · have hai : ¬ a < 0 := ha
            have HRN2 := Lib.hid (HRN.out.trans (if_neg ha))
            have HRO2 := Lib.hid (show rnO xs (i + 1) = os ++ [a] by rw [HRO.out, if_neg ha])
            clear HRN HRO HLA
            go_wp2_with (at_builtin; refine wpAppIntAt rfl _ _ rfl w.heap.size u3 _ os rfl (World.ownsRow.alloc HOD.out _) _ _ a rfl (HC1.out a) (by omega) (by simp; omega) ?_; intro v2 w2 hown2 hg2 hat2)
            go_roundw
            case rel =>
              refine ⟨i + 1, by omega, by simp, by rw [HRO2.out]; simpa using hown2, by rw [HRN2.out]; exact World.ownsRow.kept (World.ownsRow.alloc HND.out _) hg2 (.inr HNE.out.1.symm), ⟨?_, ?_⟩, (HBD.out.alloc (by simp; omega) _).grown hg2 (by simp; omega) (fun k hk => (hoB k hk).1)⟩
              · rcases hat2 with e | e
                · rw [e]; exact HNE.out.1
                · rw [e]
                  intro e2
                  have := (hnB _ e2.symm).2
                  simp at this
                  try omega
              · rcases hat2 with e | e
                · rw [e]; exact HNE.out.2
                · rw [e]; simp
            case measure => simp [intOf]; omega
    · obtain rfl : i = xs.length := by omega
      go_wp2
      go_ret
      exact ⟨_, rfl, OwnI.of_row HO.out, HB.out⟩

/-- What RenumberBlocks answers. -/
def renP (xs : List Int) : List Int := if xs.length ≤ 8 then rnO xs xs.length else []
def renOk (xs : List Int) : Bool := decide (xs.length ≤ 8)
/-- A function that answers the ints xs in memory of its own, and whether. -/
def AnsIB (xs : List Int) (b : Bool) (w : World) (e : Ending) (w' : World) : Prop := ∃ v, e = .returned (.tuple #[v, .bool b]) ∧ OwnI w' w.heap.size w'.heap.size v xs ∧ Below w.heap.size w w'
theorem ret_vb8 {A A' : Value} {x y : Bool} (h : A = A') (h' : x = y) : Ending.returned (.tuple #[A, .bool x]) = .returned (.tuple #[A', .bool y]) := by rw [h, h']
end Go.Proofs.Ytpkfgjlbkiiciaa
