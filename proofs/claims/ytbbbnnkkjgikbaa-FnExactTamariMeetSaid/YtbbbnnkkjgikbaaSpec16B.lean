/- The contracts of the model's l16Replace, NodeAt, RotateRight, RotateLeft (written by tools/mk16s.py). -/
import Derived.Test.YtbbbnnkkjgikbaaSpec16A
namespace Go.Proofs.Ytbbbnnkkjgikbaa
open Go.ChangeShapes Go.WideShapes Go.ChangeAt Go.RowKit
open Go.PlainAid (bt bt_nonneg bt_le get_bt bt_end)
set_option linter.unusedVariables false

theorem two_size (c d : UInt8) : (⟨#[c, d]⟩ : ByteArray).size = 2 := rfl
theorem isNode16 (t : Tr) : (t = .leaf) ∨ ∃ a b, t = .node a b := by cases t; exact .inl rfl; exact .inr ⟨_, _, rfl⟩
theorem cat_node (x y : Tr) : ((⟨#[40]⟩ ++ baL (sh x)) ++ baL (sh y)) ++ ⟨#[41]⟩ = baL (sh (.node x y)) := by
  show ((baL [40] ++ baL (sh x)) ++ baL (sh y)) ++ baL [41] = _
  rw [baL_app, baL_app, baL_app]; congr 1; simp [sh]
theorem cat_R (a b c : Tr) : ((((⟨#[40]⟩ ++ baL (sh a)) ++ ⟨#[40]⟩) ++ baL (sh b)) ++ baL (sh c)) ++ ⟨#[41, 41]⟩ = baL (sh (.node a (.node b c))) := by
  show ((((baL [40] ++ baL (sh a)) ++ baL [40]) ++ baL (sh b)) ++ baL (sh c)) ++ baL [41, 41] = _
  rw [baL_app, baL_app, baL_app, baL_app, baL_app]; congr 1; simp [sh]
theorem cat_L (a b c : Tr) : ((((⟨#[40, 40]⟩ ++ baL (sh a)) ++ baL (sh b)) ++ ⟨#[41]⟩) ++ baL (sh c)) ++ ⟨#[41]⟩ = baL (sh (.node (.node a b) c)) := by
  show ((((baL [40, 40] ++ baL (sh a)) ++ baL (sh b)) ++ baL [41]) ++ baL (sh c)) ++ baL [41] = _
  rw [baL_app, baL_app, baL_app, baL_app, baL_app]; congr 1; simp [sh]
/-- A slice of a text, by run. -/
theorem sl_run (s : ByteArray) (x m : Nat) (r : ByteArray) (h1 : x ≤ m) (h2 : m ≤ s.size) (e : s.extract x m = r) (W : World) : (Instr.slice 9 (.string s) (some (.int .i64 (x : Int))) (some (.int .i64 (m : Int))) none).run Try.prog W = .ok (.string r) W := by
  rw [run_slice_string W 9 s .i64 .i64 (x : Int) (m : Int) Try.underlying9 (by omega) (by omega) (by omega)]; simp [e]
theorem sl_run1 (s : ByteArray) (m : Nat) (r : ByteArray) (h1 : 1 ≤ m) (h2 : m ≤ s.size) (e : s.extract 1 m = r) (W : World) : (Instr.slice 9 (.string s) (some (.int .i64 1)) (some (.int .i64 (m : Int))) none).run Try.prog W = .ok (.string r) W := sl_run s 1 m r h1 h2 e W

set_option maxRecDepth 100000 in
set_option maxHeartbeats 800000 in
theorem l16ReplaceF : ∀ (t : Tr) (v : Int) (X : Tr), nds t ≤ 8 → nds X ≤ 100 → 0 ≤ v → v < nds t → ∀ w : World, Calls Try.prog 62 #[.string (baL (sh t)), .int .i64 v, .string (baL (sh X))] w fun e w' => e = .returned (.string (baL (sh (rpl t v X)))) ∧ w = w' := by
  intro t
  induction t with
  | leaf => intro v X _ _ h0 h; simp only [nds] at h; omega
  | node a b ia ib =>
    intro v X hn hX h0 h w
    simp only [nds] at hn h
    obtain ⟨x, m, hx, hm, hs, e1, e2, e3⟩ := node_at a b
    have za := sz_sh a
    have zb := sz_sh b
    have HE := Lib.hid (l6End1 (baL (sh (.node a b))) w (by omega))
    rw [e1] at HE
    have HN := Lib.hid (show rpl (.node a b) v X = if v < nds a then .node (rpl a v X) b else if (nds a : Int) < v then .node a (rpl b (v - nds a - 1) X) else X from rfl)
    have HA := Lib.hid (fun h1 h2 => ia v X (by omega) hX h1 h2 w)
    have HB := Lib.hid (fun h1 h2 => ib (v - nds a - 1) X (by omega) hX h1 h2 w)
    obtain ⟨k, hk⟩ : ∃ k : Nat, k = 3 * nds a := ⟨_, rfl⟩
    have q1 : ((baL (sh a)).size : Int) - 1 = (k : Int) := by omega
    have q2 : (k : Int).tdiv 3 = (nds a : Int) := by rw [Int.tdiv_eq_ediv_of_nonneg (by omega)]; omega
    have q3 : (k : Int) / 3 = (nds a : Int) := by omega
    have hk24 : k ≤ 24 := by omega
    have hmi : ((baL (sh (.node a b))).size : Int) - 1 = (m : Int) := by omega
    have hmb : (m : Int) ≤ 27 := by omega
    have hsa := sl_run1 (baL (sh (.node a b))) x (baL (sh a)) (by omega) (by omega) e2
    have hsb := sl_run (baL (sh (.node a b))) x m (baL (sh b)) (by omega) (by omega) e3
    have la : (baL (sh a)).size ≤ 25 := by omega
    have lb : (baL (sh b)).size ≤ 25 := by omega
    have ra : (baL (sh (rpl a v X))).size ≤ 325 := by have := rpl_nds a v X; rw [sz_sh]; omega
    have rb : (baL (sh (rpl b (v - nds a - 1) X))).size ≤ 325 := by have := rpl_nds b (v - nds a - 1) X; rw [sz_sh]; omega
    have HCA := Lib.hid (cat_node (rpl a v X) b)
    have HCB := Lib.hid (cat_node a (rpl b (v - nds a - 1) X))
    have hk8 : nds a ≤ 8 := by omega
    clear hx hm hs za zb hk ia ib e1 e2 e3
    generalize baL (sh (.node a b)) = s at *
    by_cases p : v < nds a
    · have HN2 := Lib.hid (HN.out.trans (if_pos p))
      have HA2 := Lib.hid (HA.out h0 p)
      rw [← HN2.out] at HCA
      clear HCB rb HB HN HA
      generalize baL (sh (rpl a v X)) = R at *
      generalize baL (sh a) = SA at *
      generalize baL (sh b) = SB at *
      generalize nds a = na at *
      have z1 : ¬ 9223372036854775807 < (⟨#[40]⟩ : ByteArray).size + R.size := by rw [one_size]; omega
      have z2 : ¬ 9223372036854775807 < (⟨#[40]⟩ ++ R : ByteArray).size + SB.size := by rw [ByteArray.size_append, one_size]; omega
      have z3 : ¬ 9223372036854775807 < ((⟨#[40]⟩ ++ R) ++ SB : ByteArray).size + (⟨#[41]⟩ : ByteArray).size := by simp only [ByteArray.size_append, one_size]; omega
      go_enter Try.func62, Try.ntmps62
      go_wp2_with fail
      (with_reducible refine HE.out.mono ?_)
      rintro e w' ⟨rfl, rfl⟩
      go_wp2_with fail
      (with_reducible refine HA2.out.mono ?_)
      rintro e w' ⟨rfl, rfl⟩
      go_wp2
      go_ret
      exact ⟨ret_str HCA.out, rfl⟩
    · have HN2 := Lib.hid (HN.out.trans (if_neg p))
      by_cases q : (nds a : Int) < v
      · have HN3 := Lib.hid (HN2.out.trans (if_pos q))
        have HB2 := Lib.hid (HB.out (by omega) (by omega))
        have w1 : IntKind.i64.wrap (v - (nds a : Int)) = v - (nds a : Int) := IntWalk.i64_in _ (by omega)
        have w2 : IntKind.i64.wrap (v - (nds a : Int) - 1) = v - (nds a : Int) - 1 := IntWalk.i64_in _ (by omega)
        rw [← HN3.out] at HCB
        clear HCA ra HB HN HN2 HA
        generalize baL (sh (rpl b (v - nds a - 1) X)) = R at *
        generalize baL (sh a) = SA at *
        generalize baL (sh b) = SB at *
        generalize nds a = na at *
        have z1 : ¬ 9223372036854775807 < (⟨#[40]⟩ : ByteArray).size + SA.size := by rw [one_size]; omega
        have z2 : ¬ 9223372036854775807 < (⟨#[40]⟩ ++ SA : ByteArray).size + R.size := by rw [ByteArray.size_append, one_size]; omega
        have z3 : ¬ 9223372036854775807 < ((⟨#[40]⟩ ++ SA) ++ R : ByteArray).size + (⟨#[41]⟩ : ByteArray).size := by simp only [ByteArray.size_append, one_size]; omega
        go_enter Try.func62, Try.ntmps62
        go_wp2_with fail
        (with_reducible refine HE.out.mono ?_)
        rintro e w' ⟨rfl, rfl⟩
        go_wp2_with fail
        (with_reducible refine HB2.out.mono ?_)
        rintro e w' ⟨rfl, rfl⟩
        go_wp2
        go_ret
        exact ⟨ret_str HCB.out, rfl⟩
      · have HN3 := Lib.hid (HN2.out.trans (if_neg q))
        clear HCA HCB ra rb HB HN HN2 HA
        generalize baL (sh a) = SA at *
        generalize baL (sh b) = SB at *
        generalize nds a = na at *
        go_enter Try.func62, Try.ntmps62
        go_wp2_with fail
        (with_reducible refine HE.out.mono ?_)
        rintro e w' ⟨rfl, rfl⟩
        go_wp2
        go_ret
        exact ⟨ret_str (by rw [HN3.out]), rfl⟩

theorem nodes_bd (s : ByteArray) : -1 ≤ nodesP s ∧ nodesP s ≤ 8 := by
  rcases hb : binB s with _ | _
  · rw [nodes_no hb]; omega
  · obtain ⟨t, rfl, hn, -⟩ := par_yes hb
    rw [nodes_sh t hn]; omega
theorem rot_out {f : Tr → Option Tr} {s : ByteArray} {v : Int} (h : ¬ (0 ≤ v ∧ v ≤ nodesP s - 1)) : rotP f s v = ⟨#[]⟩ ∧ rotB f s v = false := by
  have : rotO f s v = none := by
    rcases hb : binB s with _ | _
    · exact rotO_no hb v
    · obtain ⟨t, rfl, hn, -⟩ := par_yes hb
      rw [nodes_sh t hn] at h
      rw [rotO_sh hn]; exact chg_out f t v (by omega)
  unfold rotP rotB; rw [this]; exact ⟨rfl, rfl⟩
theorem nod_out {s : ByteArray} {v : Int} (h : ¬ (0 ≤ v ∧ v ≤ nodesP s - 1)) : nodP s v = ⟨#[]⟩ ∧ nodB s v = false := by
  have : nodO s v = none := by
    rcases hb : binB s with _ | _
    · exact nodO_no hb v
    · obtain ⟨t, rfl, hn, -⟩ := par_yes hb
      rw [nodes_sh t hn] at h
      rw [nodO_sh hn, if_neg (by omega)]
  unfold nodP nodB; rw [this]; exact ⟨rfl, rfl⟩
theorem rot_in {s : ByteArray} {v : Int} (h : 0 ≤ v ∧ v ≤ nodesP s - 1) : ∃ t a b, s = baL (sh t) ∧ nds t ≤ 8 ∧ 0 ≤ v ∧ v < nds t ∧ nat' t v = .node a b ∧ nds (.node a b) ≤ 8 ∧ (∀ f, rotO f s v = (f (.node a b)).map (rpl t v)) ∧ nodP s v = baL (sh (nat' t v)) ∧ nodB s v = true := by
  rcases hb : binB s with _ | _
  · rw [nodes_no hb] at h; omega
  · obtain ⟨t, rfl, hn, -⟩ := par_yes hb
    rw [nodes_sh t hn] at h
    obtain ⟨a, b, e, hl⟩ := nat_node t v h.1 (by omega)
    refine ⟨t, a, b, rfl, hn, h.1, by omega, e, by omega, fun f => ?_, ?_, ?_⟩
    · rw [rotO_sh hn, chg_in f t v h.1 (by omega), e]
    · unfold nodP; rw [nodO_sh hn, if_pos (by omega)]; rfl
    · unfold nodB; rw [nodO_sh hn, if_pos (by omega)]; rfl

set_option maxRecDepth 100000 in
set_option maxHeartbeats 800000 in
theorem nodeAt (s : ByteArray) (v : Int) (w : World) (hs : s.size ≤ 1099511627776) :
    Calls Try.prog 32 #[.string s, .int .i64 v] w fun e w' => e = .returned (.tuple #[.string (nodP s v), .bool (nodB s v)]) ∧ w = w' := by
  have HN := Lib.hid (nodesOf s w hs)
  have hbd := nodes_bd s
  have hw1 : IntKind.i64.wrap (nodesP s - 1) = nodesP s - 1 := IntWalk.i64_in _ (by omega)
  by_cases h : 0 ≤ v ∧ v ≤ nodesP s - 1
  · obtain ⟨t, a, b, es, hn, h0, hv, en, hl, -, e1, e2⟩ := rot_in h
    have HI := Lib.hid (l1In_yes v 0 (nodesP s - 1) w h.1 h.2)
    have HT := Lib.hid (l16NodeF t v hn h0 hv w)
    have HP := Lib.hid (And.intro e1 e2)
    rw [← es] at HT
    clear h es e1 e2 hbd en
    generalize nodesP s = N at *
    go_enter Try.func32, Try.ntmps32
    go_wp2_with fail
    (with_reducible refine HN.out.mono ?_)
    rintro e w' ⟨rfl, rfl⟩
    go_wp2_with fail
    (with_reducible refine HI.out.mono ?_)
    rintro e w' ⟨rfl, rfl⟩
    go_wp2_with fail
    (with_reducible refine HT.out.mono ?_)
    rintro e w' ⟨rfl, rfl⟩
    go_wp2
    go_ret2
    exact ⟨ret_sb HP.out.1.symm HP.out.2.symm, rfl⟩
  · have HI := Lib.hid (l1In_not v 0 (nodesP s - 1) w h)
    have HP := Lib.hid (nod_out h)
    clear h hbd
    generalize nodesP s = N at *
    go_enter Try.func32, Try.ntmps32
    go_wp2_with fail
    (with_reducible refine HN.out.mono ?_)
    rintro e w' ⟨rfl, rfl⟩
    go_wp2_with fail
    (with_reducible refine HI.out.mono ?_)
    rintro e w' ⟨rfl, rfl⟩
    go_wp2
    go_ret2
    exact ⟨ret_sb HP.out.1.symm HP.out.2.symm, rfl⟩

set_option maxRecDepth 100000 in
set_option maxHeartbeats 1600000 in
theorem rotateRotateRight (s : ByteArray) (v : Int) (w : World) (hs : s.size ≤ 1099511627776) :
    Calls Try.prog 15 #[.string s, .int .i64 v] w fun e w' => e = .returned (.tuple #[.string (rotP rotR s v), .bool (rotB rotR s v)]) ∧ ∃ q, w' = w.drewN q := by
  have HN := Lib.hid (nodesOf s w hs)
  have hbd := nodes_bd s
  have hw1 : IntKind.i64.wrap (nodesP s - 1) = nodesP s - 1 := IntWalk.i64_in _ (by omega)
  by_cases h : 0 ≤ v ∧ v ≤ nodesP s - 1
  · obtain ⟨t, a, b, es, hn, h0, hv, en, hl, hR, -, -⟩ := rot_in h
    have HR := Lib.hid (hR rotR)
    have HI := Lib.hid (l1In_yes v 0 (nodesP s - 1) w h.1 h.2)
    have HT := Lib.hid (l16NodeF t v hn h0 hv w)
    have HREP := Lib.hid (fun X (hX : nds X ≤ 100) W => l16ReplaceF t v X hn hX h0 hv W)
    rw [← es] at HT HREP
    rw [en] at HT
    simp only [nds] at hl
    obtain ⟨x, m, hx, hm, hz, e1, e2, e3⟩ := node_at a b
    have HE := Lib.hid (l6End1 (baL (sh (.node a b))) w (by omega))
    rw [e1] at HE
    have hmi : ((baL (sh (.node a b))).size : Int) - 1 = (m : Int) := by omega
    have hmb : (m : Int) ≤ 27 := by omega
    have hsa := sl_run1 (baL (sh (.node a b))) x (baL (sh a)) (by omega) (by omega) e2
    have hsb := sl_run (baL (sh (.node a b))) x m (baL (sh b)) (by omega) (by omega) e3
    have zO : (baL (sh b)).size ≤ 25 := by rw [sz_sh]; omega
    clear h es hbd hx hm hz e1 e2 e3 en hR
    generalize nodesP s = N at *
    rcases isNode16 a with rfl | ⟨c, d, rfl⟩
    · have HP := Lib.hid (show rotP rotR s v = ⟨#[]⟩ ∧ rotB rotR s v = false by unfold rotP rotB; rw [HR.out, (show rotR (.node .leaf b) = none from rfl)]; exact ⟨rfl, rfl⟩)
      have hdot : baL (sh .leaf) = ⟨#[46]⟩ := rfl
      rw [hdot] at hsa
      clear HR hdot
      generalize baL (sh (.node _ _)) = SX at *
      generalize baL (sh b) = SO at *
      go_enter Try.func15, Try.ntmps15
      go_wp2_with fail
      (with_reducible refine HN.out.mono ?_)
      rintro e w' ⟨rfl, rfl⟩
      go_wp2_with fail
      (with_reducible refine HI.out.mono ?_)
      rintro e w' ⟨rfl, rfl⟩
      go_wp2_with fail
      (with_reducible refine HT.out.mono ?_)
      rintro e w' ⟨rfl, rfl⟩
      go_wp2_with fail
      (with_reducible refine HE.out.mono ?_)
      rintro e w' ⟨rfl, rfl⟩
      go_wp2
      go_ret2
      exact ⟨ret_sb HP.out.1.symm HP.out.2.symm, 0, rfl⟩
    · simp only [nds] at hl
      have HP := Lib.hid (show rotP rotR s v = baL (sh (rpl t v (.node c (.node d b)))) ∧ rotB rotR s v = true by unfold rotP rotB; rw [HR.out, (show rotR (.node (.node c d) b) = some (.node c (.node d b)) from rfl)]; exact ⟨rfl, rfl⟩)
      have HRE := Lib.hid (fun W => HREP.out (.node c (.node d b)) (by simp only [nds]; omega) W)
      rw [← cat_R] at HRE
      obtain ⟨y, k, hy, hk, hz, e1, e2, e3⟩ := node_at c d
      have HE2 := Lib.hid (l6End1 (baL (sh (.node c d))) w (by omega))
      rw [e1] at HE2
      have hki : ((baL (sh (.node c d))).size : Int) - 1 = (k : Int) := by omega
      have hkb : (k : Int) ≤ 27 := by omega
      have hsc := sl_run1 (baL (sh (.node c d))) y (baL (sh c)) (by omega) (by omega) e2
      have hsd := sl_run (baL (sh (.node c d))) y k (baL (sh d)) (by omega) (by omega) e3
      obtain ⟨n1, n2⟩ := ne_dot (s := baL (sh (.node c d))) (by omega)
      have zc : (baL (sh c)).size ≤ 25 := by rw [sz_sh]; omega
      have zd : (baL (sh d)).size ≤ 25 := by rw [sz_sh]; omega
      clear HR HREP hy hk hz e1 e2 e3
      generalize baL (sh (rpl _ _ _)) = RES at *
      generalize baL (sh (.node c d)) = SP at *
      generalize baL (sh (.node _ _)) = SX at *
      generalize baL (sh b) = SO at *
      generalize baL (sh c) = SC at *
      generalize baL (sh d) = SD at *
      have z1 : ¬ 9223372036854775807 < ((⟨#[40]⟩ : ByteArray) : ByteArray).size + (SC : ByteArray).size := by simp only [one_size]; omega
      have z2 : ¬ 9223372036854775807 < (((⟨#[40]⟩ : ByteArray) ++ SC) : ByteArray).size + ((⟨#[40]⟩ : ByteArray) : ByteArray).size := by simp only [ByteArray.size_append, one_size]; omega
      have z3 : ¬ 9223372036854775807 < ((((⟨#[40]⟩ : ByteArray) ++ SC) ++ (⟨#[40]⟩ : ByteArray)) : ByteArray).size + (SD : ByteArray).size := by simp only [ByteArray.size_append, one_size]; omega
      have z4 : ¬ 9223372036854775807 < (((((⟨#[40]⟩ : ByteArray) ++ SC) ++ (⟨#[40]⟩ : ByteArray)) ++ SD) : ByteArray).size + (SO : ByteArray).size := by simp only [ByteArray.size_append, one_size]; omega
      have z5 : ¬ 9223372036854775807 < ((((((⟨#[40]⟩ : ByteArray) ++ SC) ++ (⟨#[40]⟩ : ByteArray)) ++ SD) ++ SO) : ByteArray).size + ((⟨#[41, 41]⟩ : ByteArray) : ByteArray).size := by simp only [ByteArray.size_append, one_size, two_size]; omega
      go_enter Try.func15, Try.ntmps15
      go_wp2_with fail
      (with_reducible refine HN.out.mono ?_)
      rintro e w' ⟨rfl, rfl⟩
      go_wp2_with fail
      (with_reducible refine HI.out.mono ?_)
      rintro e w' ⟨rfl, rfl⟩
      go_wp2_with fail
      (with_reducible refine HT.out.mono ?_)
      rintro e w' ⟨rfl, rfl⟩
      go_wp2_with fail
      (with_reducible refine HE.out.mono ?_)
      rintro e w' ⟨rfl, rfl⟩
      go_wp2_with fail
      (with_reducible refine HE2.out.mono ?_)
      rintro e w' ⟨rfl, rfl⟩
      go_wp2
      go_quiet (fail)
      go_wp2_with fail
      (with_reducible refine (HRE.out _).mono ?_)
      rintro e w' ⟨rfl, rfl⟩
      go_wp2
      go_ret2
      exact ⟨ret_sb HP.out.1.symm HP.out.2.symm, _, rfl⟩
  · have HI := Lib.hid (l1In_not v 0 (nodesP s - 1) w h)
    have HP := Lib.hid (rot_out (f := rotR) h)
    clear h hbd
    generalize nodesP s = N at *
    go_enter Try.func15, Try.ntmps15
    go_wp2_with fail
    (with_reducible refine HN.out.mono ?_)
    rintro e w' ⟨rfl, rfl⟩
    go_wp2_with fail
    (with_reducible refine HI.out.mono ?_)
    rintro e w' ⟨rfl, rfl⟩
    go_wp2
    go_ret2
    exact ⟨ret_sb HP.out.1.symm HP.out.2.symm, 0, rfl⟩

set_option maxRecDepth 100000 in
set_option maxHeartbeats 1600000 in
theorem rotateRotateLeft (s : ByteArray) (v : Int) (w : World) (hs : s.size ≤ 1099511627776) :
    Calls Try.prog 17 #[.string s, .int .i64 v] w fun e w' => e = .returned (.tuple #[.string (rotP rotL s v), .bool (rotB rotL s v)]) ∧ ∃ q, w' = w.drewN q := by
  have HN := Lib.hid (nodesOf s w hs)
  have hbd := nodes_bd s
  have hw1 : IntKind.i64.wrap (nodesP s - 1) = nodesP s - 1 := IntWalk.i64_in _ (by omega)
  by_cases h : 0 ≤ v ∧ v ≤ nodesP s - 1
  · obtain ⟨t, a, b, es, hn, h0, hv, en, hl, hR, -, -⟩ := rot_in h
    have HR := Lib.hid (hR rotL)
    have HI := Lib.hid (l1In_yes v 0 (nodesP s - 1) w h.1 h.2)
    have HT := Lib.hid (l16NodeF t v hn h0 hv w)
    have HREP := Lib.hid (fun X (hX : nds X ≤ 100) W => l16ReplaceF t v X hn hX h0 hv W)
    rw [← es] at HT HREP
    rw [en] at HT
    simp only [nds] at hl
    obtain ⟨x, m, hx, hm, hz, e1, e2, e3⟩ := node_at a b
    have HE := Lib.hid (l6End1 (baL (sh (.node a b))) w (by omega))
    rw [e1] at HE
    have hmi : ((baL (sh (.node a b))).size : Int) - 1 = (m : Int) := by omega
    have hmb : (m : Int) ≤ 27 := by omega
    have hsa := sl_run1 (baL (sh (.node a b))) x (baL (sh a)) (by omega) (by omega) e2
    have hsb := sl_run (baL (sh (.node a b))) x m (baL (sh b)) (by omega) (by omega) e3
    have zO : (baL (sh a)).size ≤ 25 := by rw [sz_sh]; omega
    clear h es hbd hx hm hz e1 e2 e3 en hR
    generalize nodesP s = N at *
    rcases isNode16 b with rfl | ⟨c, d, rfl⟩
    · have HP := Lib.hid (show rotP rotL s v = ⟨#[]⟩ ∧ rotB rotL s v = false by unfold rotP rotB; rw [HR.out, (show rotL (.node a .leaf) = none by cases a <;> rfl)]; exact ⟨rfl, rfl⟩)
      have hdot : baL (sh .leaf) = ⟨#[46]⟩ := rfl
      rw [hdot] at hsb
      clear HR hdot
      generalize baL (sh (.node _ _)) = SX at *
      generalize baL (sh a) = SO at *
      go_enter Try.func17, Try.ntmps17
      go_wp2_with fail
      (with_reducible refine HN.out.mono ?_)
      rintro e w' ⟨rfl, rfl⟩
      go_wp2_with fail
      (with_reducible refine HI.out.mono ?_)
      rintro e w' ⟨rfl, rfl⟩
      go_wp2_with fail
      (with_reducible refine HT.out.mono ?_)
      rintro e w' ⟨rfl, rfl⟩
      go_wp2_with fail
      (with_reducible refine HE.out.mono ?_)
      rintro e w' ⟨rfl, rfl⟩
      go_wp2
      go_ret2
      exact ⟨ret_sb HP.out.1.symm HP.out.2.symm, 0, rfl⟩
    · simp only [nds] at hl
      have HP := Lib.hid (show rotP rotL s v = baL (sh (rpl t v (.node (.node a c) d))) ∧ rotB rotL s v = true by unfold rotP rotB; rw [HR.out, (show rotL (.node a (.node c d)) = some (.node (.node a c) d) by cases a <;> rfl)]; exact ⟨rfl, rfl⟩)
      have HRE := Lib.hid (fun W => HREP.out (.node (.node a c) d) (by simp only [nds]; omega) W)
      rw [← cat_L] at HRE
      obtain ⟨y, k, hy, hk, hz, e1, e2, e3⟩ := node_at c d
      have HE2 := Lib.hid (l6End1 (baL (sh (.node c d))) w (by omega))
      rw [e1] at HE2
      have hki : ((baL (sh (.node c d))).size : Int) - 1 = (k : Int) := by omega
      have hkb : (k : Int) ≤ 27 := by omega
      have hsc := sl_run1 (baL (sh (.node c d))) y (baL (sh c)) (by omega) (by omega) e2
      have hsd := sl_run (baL (sh (.node c d))) y k (baL (sh d)) (by omega) (by omega) e3
      obtain ⟨n1, n2⟩ := ne_dot (s := baL (sh (.node c d))) (by omega)
      have zc : (baL (sh c)).size ≤ 25 := by rw [sz_sh]; omega
      have zd : (baL (sh d)).size ≤ 25 := by rw [sz_sh]; omega
      clear HR HREP hy hk hz e1 e2 e3
      generalize baL (sh (rpl _ _ _)) = RES at *
      generalize baL (sh (.node c d)) = SP at *
      generalize baL (sh (.node _ _)) = SX at *
      generalize baL (sh a) = SO at *
      generalize baL (sh c) = SC at *
      generalize baL (sh d) = SD at *
      have z1 : ¬ 9223372036854775807 < ((⟨#[40, 40]⟩ : ByteArray) : ByteArray).size + (SO : ByteArray).size := by simp only [two_size]; omega
      have z2 : ¬ 9223372036854775807 < (((⟨#[40, 40]⟩ : ByteArray) ++ SO) : ByteArray).size + (SC : ByteArray).size := by simp only [ByteArray.size_append, two_size]; omega
      have z3 : ¬ 9223372036854775807 < ((((⟨#[40, 40]⟩ : ByteArray) ++ SO) ++ SC) : ByteArray).size + ((⟨#[41]⟩ : ByteArray) : ByteArray).size := by simp only [ByteArray.size_append, one_size, two_size]; omega
      have z4 : ¬ 9223372036854775807 < (((((⟨#[40, 40]⟩ : ByteArray) ++ SO) ++ SC) ++ (⟨#[41]⟩ : ByteArray)) : ByteArray).size + (SD : ByteArray).size := by simp only [ByteArray.size_append, one_size, two_size]; omega
      have z5 : ¬ 9223372036854775807 < ((((((⟨#[40, 40]⟩ : ByteArray) ++ SO) ++ SC) ++ (⟨#[41]⟩ : ByteArray)) ++ SD) : ByteArray).size + ((⟨#[41]⟩ : ByteArray) : ByteArray).size := by simp only [ByteArray.size_append, one_size, two_size]; omega
      go_enter Try.func17, Try.ntmps17
      go_wp2_with fail
      (with_reducible refine HN.out.mono ?_)
      rintro e w' ⟨rfl, rfl⟩
      go_wp2_with fail
      (with_reducible refine HI.out.mono ?_)
      rintro e w' ⟨rfl, rfl⟩
      go_wp2_with fail
      (with_reducible refine HT.out.mono ?_)
      rintro e w' ⟨rfl, rfl⟩
      go_wp2_with fail
      (with_reducible refine HE.out.mono ?_)
      rintro e w' ⟨rfl, rfl⟩
      go_wp2_with fail
      (with_reducible refine HE2.out.mono ?_)
      rintro e w' ⟨rfl, rfl⟩
      go_wp2
      go_quiet (fail)
      go_wp2_with fail
      (with_reducible refine (HRE.out _).mono ?_)
      rintro e w' ⟨rfl, rfl⟩
      go_wp2
      go_ret2
      exact ⟨ret_sb HP.out.1.symm HP.out.2.symm, _, rfl⟩
  · have HI := Lib.hid (l1In_not v 0 (nodesP s - 1) w h)
    have HP := Lib.hid (rot_out (f := rotL) h)
    clear h hbd
    generalize nodesP s = N at *
    go_enter Try.func17, Try.ntmps17
    go_wp2_with fail
    (with_reducible refine HN.out.mono ?_)
    rintro e w' ⟨rfl, rfl⟩
    go_wp2_with fail
    (with_reducible refine HI.out.mono ?_)
    rintro e w' ⟨rfl, rfl⟩
    go_wp2
    go_ret2
    exact ⟨ret_sb HP.out.1.symm HP.out.2.symm, 0, rfl⟩

end Go.Proofs.Ytbbbnnkkjgikbaa
