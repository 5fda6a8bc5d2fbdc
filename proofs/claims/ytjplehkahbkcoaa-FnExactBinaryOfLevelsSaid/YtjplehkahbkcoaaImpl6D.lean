/- Trees out of paths and out of levels: the program's treeOfPath, BinaryOf, treeOfLevels, BinaryOfLevels. -/
import Derived.Test.YtjplehkahbkcoaaImpl6C
import Derived.Test.YtjplehkahbkcoaaImpl2D
namespace Go.Proofs.Ytjplehkahbkcoaa
open Go.ChangeShapes Go.WideShapes Go.ChangeAt Go.RowKit
open Go.PlainAid (bt bt_nonneg bt_le get_bt bt_end)
set_option linter.unusedVariables false

/-- The tree that l6Binary writes. -/
theorem bin_is : ∀ (f : Nat) (s : ByteArray), dyck s = true → s.size ≤ f → ∃ t, binF f s = baL (sh t) ∧ 2 * nds t = s.size := by
  intro f
  induction f with
  | zero => intro s hd hf; exact ⟨.leaf, binF_none 0 (by omega), by simp only [nds]; omega⟩
  | succ f ih =>
    intro s hd hf
    by_cases h0 : s.size = 0
    · exact ⟨.leaf, binF_none _ h0, by simp only [nds]; omega⟩
    · obtain ⟨k, hk, k1, k2, d1, d2⟩ := cut_parts hd (by omega)
      obtain ⟨a, ea, na⟩ := ih (s.extract 1 k) d1 (by rw [ByteArray.size_extract]; omega)
      obtain ⟨b, eb, nb⟩ := ih (s.extract (k + 1) s.size) d2 (by rw [ByteArray.size_extract]; omega)
      rw [ByteArray.size_extract] at na nb
      refine ⟨.node a b, ?_, by simp only [nds]; omega⟩
      rw [binF_more f k (by omega) hk, ea, eb]
      show ((baL [40] ++ baL (sh a)) ++ baL (sh b)) ++ baL [41] = _
      rw [baL_app, baL_app, baL_app]; congr 1; simp [sh]
theorem tb_call {w W w' : World} (hb : Below W.heap.size W w') (h : Below w.heap.size w W) : Below w.heap.size w w' := h.trans (hb.mono h.size)
theorem tb_drew {w W : World} (h : Below w.heap.size w W) : Below w.heap.size w W.drew := below_drewN h 1

/-- What treeOfPath answers. -/
def PathTree (f : Nat) (s : ByteArray) (w : World) (e : Ending) (w' : World) : Prop := ∃ t, e = .returned (.iface (ty t) (body t)) ∧ (binF f s = baL (sh t) ∧ nds t ≤ s.size) ∧ Below w.heap.size w w'
set_option maxRecDepth 100000 in
set_option maxHeartbeats 3200000 in
theorem treeOfPathF : ∀ (f : Nat) (s : ByteArray), dyck s = true → s.size ≤ f → ∀ w : World, Calls Try.prog 49 #[.string s] w (PathTree f s w) := by
  intro f
  induction f with
  | zero =>
    intro s hd hf w
    have hO : firstOk s = false := decide_eq_false fun h => by omega
    have HF := Lib.hid (firstReturnI s w (by omega))
    rw [hO] at HF
    have HB := Lib.hid (binF_none 0 (s := s) (by omega))
    have hbd := bdLeaf
    have hmk := mkLeaf
    clear hd hO
    go_enter Try.func49, Try.ntmps49
    go_wp2_with fail
    (with_reducible refine HF.out.mono ?_)
    rintro e w1 ⟨rfl, hb1⟩
    go_wp2
    go_ret
    exact ⟨.leaf, rfl, ⟨HB.out, Nat.zero_le _⟩, hb1⟩
  | succ f ih =>
    intro s hd hf w
    have h16 := dyck_size hd
    by_cases h0 : s.size = 0
    · have hO : firstOk s = false := decide_eq_false fun h => by omega
      have HF := Lib.hid (firstReturnI s w (by omega))
      rw [hO] at HF
      have HB := Lib.hid (binF_none (f + 1) h0)
      have hbd := bdLeaf
      have hmk := mkLeaf
      clear hd hO ih h0 hf h16
      go_enter Try.func49, Try.ntmps49
      go_wp2_with fail
      (with_reducible refine HF.out.mono ?_)
      rintro e w1 ⟨rfl, hb1⟩
      go_wp2
      go_ret
      exact ⟨.leaf, rfl, ⟨HB.out, Nat.zero_le _⟩, hb1⟩
    · have hdz : dyck s = true ∧ 0 < s.size := ⟨hd, by omega⟩
      have hO : firstOk s = true := decide_eq_true hdz
      obtain ⟨k, hk, k1, k2, d1, d2⟩ := cut_parts hd (by omega)
      have hA : firstA s = s.extract 1 k := by unfold firstA; rw [if_pos hdz, hk]; rfl
      have hB : firstB s = s.extract (k + 1) s.size := by unfold firstB; rw [if_pos hdz, hk]; rfl
      have HF := Lib.hid (firstReturnI s w (by omega))
      rw [hO, hA, hB] at HF
      have HI1 := Lib.hid (ih (s.extract 1 k) d1 (by rw [ByteArray.size_extract]; omega))
      have HI2 := Lib.hid (ih (s.extract (k + 1) s.size) d2 (by rw [ByteArray.size_extract]; omega))
      have hz1 : (s.extract 1 k).size = k - 1 := by rw [ByteArray.size_extract]; omega
      have hz2 : (s.extract (k + 1) s.size).size = s.size - (k + 1) := by rw [ByteArray.size_extract]; omega
      have HM := Lib.hid (binF_more f k (by omega) hk)
      have HZ := Lib.hid (show (s.extract 1 k).size + (s.extract (k + 1) s.size).size + 1 ≤ s.size by omega)
      generalize s.extract 1 k = sa at *
      generalize s.extract (k + 1) s.size = sb at *
      clear hd hO ih h0 hf h16 hdz hA hB d1 d2 hk hz1 hz2
      go_enter Try.func49, Try.ntmps49
      go_wp2_with fail
      (with_reducible refine HF.out.mono ?_)
      rintro e w1 ⟨rfl, hb1⟩
      have z1 := hb1.size
      go_wp2_with fail
      (with_reducible refine (HI1.out _).mono ?_)
      rintro e w2 ⟨ta, rfl, ha, hb2⟩
      have HTA := Lib.hid ha
      have hb3 := hb1.trans (hb2.mono z1)
      have z3 := hb3.size
      clear ha
      go_wp2_with fail
      (with_reducible refine (HI2.out _).mono ?_)
      rintro e w3 ⟨tb, rfl, hbb, hb4⟩
      have HTB := Lib.hid hbb
      have hb5 := hb3.trans (hb4.mono z3)
      clear hbb
      go_wp2
      go_ret
      refine ⟨.node ta tb, rfl, ⟨?_, ?_⟩, hb5⟩
      · rw [HM.out, HTA.out.1, HTB.out.1]
        show ((baL [40] ++ baL (sh ta)) ++ baL (sh tb)) ++ baL [41] = _
        rw [baL_app, baL_app, baL_app]; congr 1; simp [sh]
      · have := HTA.out.2; have := HTB.out.2; have := HZ.out; simp only [nds]; omega

set_option maxRecDepth 100000 in
set_option maxHeartbeats 800000 in
theorem binaryOfI (s : ByteArray) (w : World) : Calls Try.prog 25 #[.string s] w fun e w' => e = .returned (.tuple #[.string (boP s), .bool (dyck s)]) ∧ Below w.heap.size w w' := by
  rcases hd : dyck s with _ | _
  · have HD := Lib.hid hd
    have HP := Lib.hid (show boP s = ⟨#[]⟩ from if_neg (by rw [hd]; simp))
    clear hd
    go_enter Try.func25, Try.ntmps25
    go_wp2_with fail
    (with_reducible refine (isDyckI_no s _ HD.out).mono ?_)
    rintro e w1 ⟨rfl, hb1⟩
    go_wp2
    go_ret2
    exact ⟨ret_sb HP.out.symm rfl, hb1⟩
  · have HD := Lib.hid hd
    have HP := Lib.hid (show boP s = binF s.size s from if_pos hd)
    have HT := Lib.hid (treeOfPathF s.size s hd (Nat.le_refl _))
    have h16 := dyck_size hd
    clear hd
    go_enter Try.func25, Try.ntmps25
    go_wp2_with fail
    (with_reducible refine (isDyckI_yes s _ HD.out).mono ?_)
    rintro e w1 ⟨rfl, hb1⟩
    have z1 := hb1.size
    go_wp2_with fail
    (with_reducible refine (HT.out _).mono ?_)
    rintro e w2 ⟨t, rfl, ⟨ht, hn⟩, hb2⟩
    have hb3 := hb1.trans (hb2.mono z1)
    have z3 := hb3.size
    have HX := Lib.hid ht
    have HS := Lib.hid (textF t (by omega))
    have na := nil_text t
    have ma := met_text t
    have ea := ent_text t
    clear ht hn
    generalize ty t = Ta at *
    generalize body t = Va at *
    generalize fText t = Fa at *
    go_wp2_with fail
    (with_reducible refine (HS.out _).mono ?_)
    rintro e w3 ⟨rfl, hb4⟩
    go_wp2
    go_ret2
    exact ⟨ret_sb (by rw [HP.out, HX.out]) rfl, hb3.trans (hb4.mono z3)⟩

/-- The end of a row of levels behind a tree, as a slice. -/
def LvIs (xs : List Int) (v : Nat) (A : Option Addr) (cap : Nat) (w : World) (x r : Value) : Prop :=
  (∃ t q A' cap', xs = lv v t ++ q ∧ v + dp t ≤ 8 ∧ x = .iface (ty t) (body t) ∧ r = .slice A' q.length cap' ∧ SubI w A' cap' q)
  ∨ ((∀ t q, xs = lv v t ++ q → ¬ v + dp t ≤ 8) ∧ x = .nilIface ∧ r = .slice A xs.length cap)
theorem ret_vv {u v a b : Value} (h : u = v) (h' : a = b) : Ending.returned (.tuple #[u, a]) = .returned (.tuple #[v, b]) := by rw [h, h']
theorem lv_first_ne {t : Tr} {v : Int} {q xs : List Int} (e : xs = lv v t ++ q) : xs.length ≠ 0 ∧ v ≤ xs.getD 0 0 ∧ (xs.getD 0 0 = v → t = .leaf) := by
  obtain ⟨y, l, h1, h2, h3⟩ := lv_head t v
  rw [e, h1]
  exact ⟨by simp, by simpa using h2, by simpa using h3⟩
theorem SubI.draw {w : World} {A : Option Addr} {cap : Nat} {xs : List Int} (h : SubI w A cap xs) (m : Nat) : SubI (w.drewN m) A cap xs := h

set_option maxRecDepth 100000 in
set_option maxHeartbeats 3200000 in
theorem treeOfLevelsF : ∀ (f : Nat) (xs : List Int) (v : Nat), 9 ≤ v + f → v ≤ 9 → xs.length ≤ 9 → ∀ (w : World) (A : Option Addr) (cap : Nat), SubI w A cap xs →
    Calls Try.prog 50 #[.slice A xs.length cap, .int .i64 v] w fun e w' => ∃ x r, e = .returned (.tuple #[x, r]) ∧ LvIs xs v A cap w x r ∧ ∃ m, w' = w.drewN m := by
  intro f
  induction f with
  | zero =>
    intro xs v hf hv hl w A cap hS
    have HN := Lib.hid (show ∀ t q, xs = lv v t ++ q → ¬ v + dp t ≤ 8 from fun t q _ => by omega)
    have h8 : (8 : Int) < (v : Int) := by omega
    by_cases h0 : xs.length = 0
    · have hb : ((xs.length : Int) == 0) = true := by simp [h0]
      clear hS h0
      go_enter Try.func50, Try.ntmps50
      go_wp2
      go_ret2
      exact ⟨_, _, rfl, .inr ⟨HN.out, rfl, rfl⟩, 0, rfl⟩
    · have hb : ((xs.length : Int) == 0) = false := beq_eq_false_iff_ne.2 (by omega)
      have hp : (0 : Int) < (xs.length : Int) := by omega
      obtain ⟨g, o, rfl, hc⟩ := hS.2 0 (by omega)
      rw [Nat.add_zero] at hc
      generalize xs.getD 0 0 = y at hc
      clear hS h0
      by_cases hy : y < (v : Int)
      · go_enter Try.func50, Try.ntmps50
        go_wp2
        go_ret2
        exact ⟨_, _, rfl, .inr ⟨HN.out, rfl, rfl⟩, 0, rfl⟩
      · go_enter Try.func50, Try.ntmps50
        go_wp2
        go_ret2
        exact ⟨_, _, rfl, .inr ⟨HN.out, rfl, rfl⟩, 0, rfl⟩
  | succ f ih =>
    intro xs v hf hv hl w A cap hS
    by_cases h0 : xs.length = 0
    · have HN := Lib.hid (show ∀ t q, xs = lv v t ++ q → ¬ v + dp t ≤ 8 from fun t q e => absurd h0 (lv_first_ne e).1)
      have hb : ((xs.length : Int) == 0) = true := by simp [h0]
      clear hS h0 ih
      go_enter Try.func50, Try.ntmps50
      go_wp2
      go_ret2
      exact ⟨_, _, rfl, .inr ⟨HN.out, rfl, rfl⟩, 0, rfl⟩
    have hb : ((xs.length : Int) == 0) = false := beq_eq_false_iff_ne.2 (by omega)
    have hp : (0 : Int) < (xs.length : Int) := by omega
    obtain ⟨g, o, hA, hc⟩ := hS.2 0 (by omega)
    rw [Nat.add_zero] at hc
    by_cases h1 : xs.getD 0 0 < (v : Int)
    · have HN := Lib.hid (show ∀ t q, xs = lv v t ++ q → ¬ v + dp t ≤ 8 from fun t q e => by have := (lv_first_ne e).2.1; omega)
      subst hA
      generalize xs.getD 0 0 = y at hc h1
      clear hS h0 ih
      go_enter Try.func50, Try.ntmps50
      go_wp2
      go_ret2
      exact ⟨_, _, rfl, .inr ⟨HN.out, rfl, rfl⟩, 0, rfl⟩
    by_cases h8 : 8 < v
    · have HN := Lib.hid (show ∀ t q, xs = lv v t ++ q → ¬ v + dp t ≤ 8 from fun t q e => by omega)
      have h8i : (8 : Int) < (v : Int) := by omega
      subst hA
      generalize xs.getD 0 0 = y at hc h1
      clear hS h0 ih
      go_enter Try.func50, Try.ntmps50
      go_wp2
      go_ret2
      exact ⟨_, _, rfl, .inr ⟨HN.out, rfl, rfl⟩, 0, rfl⟩
    have h8i : ¬ (8 : Int) < (v : Int) := by omega
    by_cases h2 : xs.getD 0 0 = (v : Int)
    · have HRF := Lib.hid fun w => run_from w A xs.length cap 1 (by omega)
      have HX := Lib.hid (show xs = lv v .leaf ++ xs.drop 1 by
        have := drop_int6 xs 0 (by omega)
        rw [List.drop_zero, h2] at this
        exact this)
      have HS2 := Lib.hid (hS.from 1 (by omega))
      have hld : (xs.drop 1).length = xs.length - 1 := by rw [List.length_drop]
      have hsl : ∀ w, (Instr.slice 27 (.slice (some ⟨g, o, none⟩) xs.length cap) (some (.int .i64 1)) none none).run Try.prog w = .ok (.slice (if cap = 1 then A else A.map (·.add 1)) (xs.drop 1).length (cap - 1)) w := by
        rw [hld, ← hA]; exact HRF.out
      have hbd := bdLeaf
      have hmk := mkLeaf
      generalize (if cap = 1 then A else A.map (·.add 1)) = A2 at *
      generalize cap - 1 = c2 at *
      have HA := Lib.hid hA
      subst hA
      rw [h2] at hc
      have hvv : ((v : Int) == (v : Int)) = true := by simp
      have HV := Lib.hid (show v + dp .leaf ≤ 8 by simp only [dp]; omega)
      generalize xs.drop 1 = q at *
      clear hS h0 ih h1 h2 hld
      go_enter Try.func50, Try.ntmps50
      go_wp2
      first | (go_quiet (fail); go_wp2) | skip
      go_ret2
      first
        | exact ⟨_, _, rfl, .inl ⟨.leaf, q, _, _, HX.out, HV.out, rfl, rfl, HS2.out⟩, 0, rfl⟩
        | exact ⟨_, _, rfl, .inl ⟨.leaf, q, _, _, HX.out, HV.out, rfl, rfl, HS2.out⟩, _, rfl⟩
    · have hv1 : ((v : Int) + 1) = ((v + 1 : Nat) : Int) := by omega
      have hvw : IntKind.i64.wrap ((v : Int) + 1) = (v : Int) + 1 := IntWalk.i64_in _ (by omega)
      have HI1 := Lib.hid (ih xs (v + 1) (by omega) (by omega) hl w A cap hS)
      rw [← hv1] at HI1
      have HV1 := Lib.hid hv1
      clear hv1
      have HIH := Lib.hid ih
      have HNF := Lib.hid (show ∀ t q, xs = lv v t ++ q → ∃ a b, t = .node a b from fun t q e => by
        cases t with
        | leaf => exact absurd (by rw [e]; simp [lv]) h2
        | node a b => exact ⟨a, b, rfl⟩)
      have hbq : (xs.getD 0 0 == (v : Int)) = false := beq_eq_false_iff_ne.2 h2
      have HSA := Lib.hid hS
      have HA := Lib.hid hA
      subst hA
      generalize xs.getD 0 0 = y at hc h1 h2 hbq
      clear hS h0 ih h2
      go_enter Try.func50, Try.ntmps50
      go_wp2_with fail
      (with_reducible refine HI1.out.mono ?_)
      rintro e w' ⟨x1, r1, rfl, hr1, m1, rfl⟩
      rcases hr1 with ⟨a, q, A1, c1, ea, da, rfl, rfl, s1⟩ | ⟨na, rfl, rfl⟩
      · have HEA := Lib.hid ea
        have hql : q.length ≤ xs.length := by
          have := congrArg List.length ea
          rw [List.length_append] at this; omega
        have HI2 := Lib.hid (HIH.out q (v + 1) (by omega) (by omega) (by omega) (w.drewN m1) A1 c1 (s1.draw m1))
        rw [← HV1.out] at HI2
        clear ea s1
        go_wp2_with fail
        (with_reducible refine HI2.out.mono ?_)
        rintro e w' ⟨x2, r2, rfl, hr2, m2, rfl⟩
        rcases hr2 with ⟨b, q2, A2, c2, eb, db, rfl, rfl, s2⟩ | ⟨nb, rfl, rfl⟩
        · have HX := Lib.hid (show xs = lv v (.node a b) ++ q2 by
            rw [HEA.out, eb, lv, List.append_assoc, HV1.out])
          have HD := Lib.hid (show v + dp (.node a b) ≤ 8 by simp only [dp]; omega)
          have HS2 := Lib.hid s2
          clear eb s2
          go_wp2
          first | (go_quiet (fail); go_wp2) | skip
          go_ret2
          first
            | exact ⟨_, _, rfl, .inl ⟨.node a b, q2, _, _, HX.out, HD.out, rfl, rfl, HS2.out⟩, _, rfl⟩
            | exact ⟨_, _, rfl, .inl ⟨.node a b, q2, _, _, HX.out, HD.out, rfl, rfl, HS2.out⟩, _, by simp only [World.drewN_drewN]; rfl⟩
        · have HN := Lib.hid (show ∀ t q, xs = lv v t ++ q → ¬ v + dp t ≤ 8 from fun t q' e hd => by
            obtain ⟨a', b', rfl⟩ := HNF.out t q' e
            rw [HEA.out, lv, List.append_assoc, HV1.out] at e
            obtain ⟨-, e⟩ := lv_free _ _ _ _ _ e
            simp only [dp] at hd
            exact nb b' q' e (by omega))
          clear nb
          go_wp2
          go_ret2
          first
            | exact ⟨_, _, rfl, .inr ⟨HN.out, rfl, rfl⟩, _, rfl⟩
            | exact ⟨_, _, rfl, .inr ⟨HN.out, rfl, rfl⟩, _, by simp only [World.drewN_drewN]; rfl⟩
      · have HN := Lib.hid (show ∀ t q, xs = lv v t ++ q → ¬ v + dp t ≤ 8 from fun t q' e hd => by
          obtain ⟨a', b', rfl⟩ := HNF.out t q' e
          rw [lv, List.append_assoc, HV1.out] at e
          simp only [dp] at hd
          exact na a' _ e (by omega))
        clear na
        go_wp2
        go_ret2
        first
          | exact ⟨_, _, rfl, .inr ⟨HN.out, rfl, rfl⟩, _, rfl⟩
          | exact ⟨_, _, rfl, .inr ⟨HN.out, rfl, rfl⟩, _, by simp only [World.drewN_drewN]; rfl⟩

set_option maxRecDepth 100000 in
set_option maxHeartbeats 1600000 in
theorem binaryOfLevelsI (A : Option Addr) (xs : List Int) (cap lo hi : Nat) (w : World) (ho : OwnI w lo hi (.slice A xs.length cap) xs) (hcap : xs.length ≤ cap) (hl : xs.length ≤ 1048576) :
    Calls Try.prog 26 #[.slice A xs.length cap] w fun e w' => e = .returned (.tuple #[.string (bolP xs), .bool (bolOk xs)]) ∧ Below w.heap.size w w' := by
  by_cases h9 : 9 < xs.length
  · have HN := Lib.hid (bol_no (xs := xs) fun h => by have := h.2.2.1; omega)
    have hi : (9 : Int) < (xs.length : Int) := by omega
    clear ho h9
    go_enter Try.func26, Try.ntmps26
    go_wp2
    go_ret2
    exact ⟨ret_sb HN.out.2.symm HN.out.1.symm, Below.refl _ _⟩
  · have hi : ¬ (9 : Int) < (xs.length : Int) := by omega
    have HT := Lib.hid (treeOfLevelsF 9 xs 0 (by omega) (by omega) (by omega) w A cap (SubI.own ho hcap))
    clear ho
    go_enter Try.func26, Try.ntmps26
    go_wp2_with fail
    (refine HT.out.mono ?_)
    rintro e w' ⟨x, r, rfl, hr, m, rfl⟩
    rcases hr with ⟨t, q, A', c', ex, hd, rfl, rfl, -⟩ | ⟨nt, rfl, rfl⟩
    · by_cases hq : q.length = 0
      · have hq0 : q = [] := List.eq_nil_of_length_eq_zero hq
        subst hq0
        have hlen := lv_len t 0
        rw [List.append_nil] at ex
        have hn : nds t ≤ 8 := by
          have := congrArg List.length ex
          rw [show (((0 : Nat) : Int)) = (0 : Int) from rfl] at this; omega
        have HB := Lib.hid (show bolOk xs = true ∧ bolP xs = baL (sh t) by rw [ex]; exact bol_tree t hn)
        have HS := Lib.hid (textF t (by omega))
        have na := nil_text t
        have ma := met_text t
        have ea := ent_text t
        have hz : (((([] : List Int).length : Nat) : Int)) = 0 := rfl
        clear ex hn hlen hq hd
        generalize ty t = Ta at *
        generalize body t = Va at *
        generalize fText t = Fa at *
        go_wp2_with fail
        (with_reducible refine (HS.out _).mono ?_)
        rintro e w3 ⟨rfl, hb4⟩
        go_wp2
        go_ret2
        exact ⟨ret_sb HB.out.2.symm HB.out.1.symm, (below_drewN (Below.refl _ w) m).trans hb4⟩
      · have hqi : (0 : Int) < (q.length : Int) := by omega
        have HN := Lib.hid (bol_no (xs := xs) fun h => by
          obtain ⟨-, t', e'⟩ := (bol_iff xs).1 h
          rw [ex] at e'
          obtain ⟨-, e'⟩ := lv_free _ _ _ _ _ e'
          exact hq (by rw [e']; rfl))
        clear ex hq hd
        go_wp2
        go_ret2
        exact ⟨ret_sb HN.out.2.symm HN.out.1.symm, below_drewN (Below.refl _ w) m⟩
    · have HN := Lib.hid (bol_no (xs := xs) fun h => by
        obtain ⟨h9, t', e'⟩ := (bol_iff xs).1 h
        have hlen := lv_len t' 0
        have hdp := dp_le t'
        have := congrArg List.length e'
        rw [List.length_append] at this
        simp only [List.length_nil] at this
        exact nt t' [] e' (by omega))
      clear nt
      go_wp2
      go_ret2
      exact ⟨ret_sb HN.out.2.symm HN.out.1.symm, below_drewN (Below.refl _ w) m⟩

end Go.Proofs.Ytjplehkahbkcoaa
