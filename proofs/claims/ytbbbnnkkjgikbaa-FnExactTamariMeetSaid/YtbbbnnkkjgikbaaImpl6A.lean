/- Trees as the program has them, and how it reads them from a text. -/
import Derived.Test.YtbbbnnkkjgikbaaFact6
import Derived.Lib.Strings
import Derived.Lib.Slices
namespace Go.Proofs.Ytbbbnnkkjgikbaa
open Go.ChangeShapes Go.WideShapes Go.ChangeAt Go.RowKit
open Go.PlainAid (bt bt_nonneg bt_le get_bt bt_end)
set_option linter.unusedVariables false

def ty : Tr → TypeId
  | .leaf => 85
  | .node _ _ => 51
def body : Tr → Value
  | .leaf => .agg #[]
  | .node a b => .agg #[.iface (ty a) (body a), .iface (ty b) (body b)]
/-- The value of a tree. -/
def tv (t : Tr) : Value := .iface (ty t) (body t)

theorem pre_at (s : ByteArray) (c : UInt8) (h : 0 < s.size) : ((s.extract 0 1).toList == (⟨#[c]⟩ : ByteArray).toList) = decide (bt s 0 = c.toNat) := by
  have e : s.extract 0 1 = ⟨#[s[0]]⟩ := by
    apply ByteArray.ext
    apply Array.toList_inj.1
    rw [ByteArray.data_extract, Array.toList_extract, List.extract_eq_take_drop]
    rcases s with ⟨⟨l⟩⟩
    cases l with
    | nil => simp [ByteArray.size] at h
    | cons x l => simp; rfl
  have hb := bt_at s 0 h
  rw [e]
  show (((⟨#[s[0]]⟩ : ByteArray).toList) == _) = _
  rw [Lib.toList_data, Lib.toList_data]
  show (([s[0]] : List UInt8) == [c]) = _
  rw [Bool.eq_iff_iff]
  simp only [beq_iff_eq, List.cons.injEq, and_true, decide_eq_true_eq]
  constructor
  · intro h; rw [← h]; omega
  · intro h; exact UInt8.toNat_inj.1 (by omega)

set_option maxRecDepth 100000 in
theorem litePre_yes (s : ByteArray) (c : UInt8) (w : World) (h : 0 < s.size) (e : bt s 0 = c.toNat) : Calls Try.prog 114 #[.string s, .string ⟨#[c]⟩] w fun e w' => e = .returned (.bool true) ∧ w = w' := by
  have hp := pre_at s c h
  rw [decide_eq_true e] at hp
  have h1 : (1 : Int) ≤ (s.size : Int) := by omega
  have hz : ((⟨#[c]⟩ : ByteArray).size : Int) = 1 := rfl
  clear e
  go_enter Try.func114, Try.ntmps114
  go_wp2
  go_ret
  first | exact ⟨rfl, rfl⟩ | exact ⟨by rw [hp], rfl⟩ | exact ⟨by simpa using hp, rfl⟩
set_option maxRecDepth 100000 in
theorem litePre_no (s : ByteArray) (c : UInt8) (w : World) (h : s.size = 0 ∨ bt s 0 ≠ c.toNat) : Calls Try.prog 114 #[.string s, .string ⟨#[c]⟩] w fun e w' => e = .returned (.bool false) ∧ w = w' := by
  have hz : ((⟨#[c]⟩ : ByteArray).size : Int) = 1 := rfl
  by_cases h0 : s.size = 0
  · have h1 : ¬ ((1 : Int) ≤ (s.size : Int)) := by omega
    clear h
    go_enter Try.func114, Try.ntmps114
    go_wp2
    go_ret
    exact ⟨rfl, rfl⟩
  · have hp := pre_at s c (by omega)
    rw [decide_eq_false (h.resolve_left h0)] at hp
    have h1 : (1 : Int) ≤ (s.size : Int) := by omega
    clear h h0
    go_enter Try.func114, Try.ntmps114
    go_wp2
    go_ret
    first | exact ⟨rfl, rfl⟩ | exact ⟨by rw [hp], rfl⟩ | exact ⟨by simpa using hp, rfl⟩
set_option maxRecDepth 100000 in
theorem hasPre_yes (s : ByteArray) (c : UInt8) (w : World) (h : 0 < s.size) (e : bt s 0 = c.toNat) : Calls Try.prog 98 #[.string s, .string ⟨#[c]⟩] w fun e w' => e = .returned (.bool true) ∧ w = w' := by
  have H := Lib.hid (litePre_yes s c w h e)
  clear h e
  go_enter Try.func98, Try.ntmps98
  go_wp2_with fail
  (with_reducible refine H.out.mono ?_)
  rintro e w' ⟨rfl, rfl⟩
  go_wp2
  go_ret
  exact ⟨rfl, rfl⟩
set_option maxRecDepth 100000 in
theorem hasPre_no (s : ByteArray) (c : UInt8) (w : World) (h : s.size = 0 ∨ bt s 0 ≠ c.toNat) : Calls Try.prog 98 #[.string s, .string ⟨#[c]⟩] w fun e w' => e = .returned (.bool false) ∧ w = w' := by
  have H := Lib.hid (litePre_no s c w h)
  clear h
  go_enter Try.func98, Try.ntmps98
  go_wp2_with fail
  (with_reducible refine H.out.mono ?_)
  rintro e w' ⟨rfl, rfl⟩
  go_wp2
  go_ret
  exact ⟨rfl, rfl⟩
set_option maxRecDepth 100000 in
theorem liteCut_yes (s : ByteArray) (c : UInt8) (w : World) (h : 0 < s.size) (e : bt s 0 = c.toNat) : Calls Try.prog 126 #[.string s, .string ⟨#[c]⟩] w fun e w' => e = .returned (.tuple #[.string (s.extract 1 s.size), .bool true]) ∧ w = w' := by
  have H := Lib.hid (litePre_yes s c w h e)
  have h1 : (1 : Int) ≤ (s.size : Int) := by omega
  have hz : ((⟨#[c]⟩ : ByteArray).size : Int) = 1 := rfl
  clear h e
  go_enter Try.func126, Try.ntmps126
  go_wp2_with fail
  (with_reducible refine H.out.mono ?_)
  rintro e w' ⟨rfl, rfl⟩
  go_wp2
  go_ret2
  exact ⟨rfl, rfl⟩
set_option maxRecDepth 100000 in
theorem liteCut_no (s : ByteArray) (c : UInt8) (w : World) (h : s.size = 0 ∨ bt s 0 ≠ c.toNat) : Calls Try.prog 126 #[.string s, .string ⟨#[c]⟩] w fun e w' => e = .returned (.tuple #[.string s, .bool false]) ∧ w = w' := by
  have H := Lib.hid (litePre_no s c w h)
  clear h
  go_enter Try.func126, Try.ntmps126
  go_wp2_with fail
  (with_reducible refine H.out.mono ?_)
  rintro e w' ⟨rfl, rfl⟩
  go_wp2
  go_ret2
  exact ⟨rfl, rfl⟩
set_option maxRecDepth 100000 in
theorem cutPre_yes (s : ByteArray) (c : UInt8) (w : World) (h : 0 < s.size) (e : bt s 0 = c.toNat) : Calls Try.prog 108 #[.string s, .string ⟨#[c]⟩] w fun e w' => e = .returned (.tuple #[.string (s.extract 1 s.size), .bool true]) ∧ w = w' := by
  have H := Lib.hid (liteCut_yes s c w h e)
  clear h e
  go_enter Try.func108, Try.ntmps108
  go_wp2_with fail
  (with_reducible refine H.out.mono ?_)
  rintro e w' ⟨rfl, rfl⟩
  go_wp2
  go_ret2
  exact ⟨rfl, rfl⟩
set_option maxRecDepth 100000 in
theorem cutPre_no (s : ByteArray) (c : UInt8) (w : World) (h : s.size = 0 ∨ bt s 0 ≠ c.toNat) : Calls Try.prog 108 #[.string s, .string ⟨#[c]⟩] w fun e w' => e = .returned (.tuple #[.string s, .bool false]) ∧ w = w' := by
  have H := Lib.hid (liteCut_no s c w h)
  clear h
  go_enter Try.func108, Try.ntmps108
  go_wp2_with fail
  (with_reducible refine H.out.mono ?_)
  rintro e w' ⟨rfl, rfl⟩
  go_wp2
  go_ret2
  exact ⟨rfl, rfl⟩

theorem tail_list (s : ByteArray) : (s.extract 1 s.size).data.toList = s.data.toList.drop 1 := by
  rw [ext_list, List.take_of_length_le]
  · rfl
  · have hl : (rest s 1).length = s.size - 1 := by simp [rest]
    omega
theorem first_cons (s : ByteArray) (c : UInt8) (h : 0 < s.size) (e : bt s 0 = c.toNat) : s.data.toList = c :: s.data.toList.drop 1 := by
  have hb := bt_at s 0 h
  rw [← rest_zero, rest_cons s 0 h]
  have : s[0] = c := UInt8.toNat_inj.1 (by omega)
  rw [this]
  rfl
theorem first_ne (s : ByteArray) (c : UInt8) (h : s.size = 0 ∨ bt s 0 ≠ c.toNat) (l : List UInt8) : s.data.toList ≠ c :: l := by
  intro e
  rcases h with h | h
  · have := congrArg List.length e
    simp at this
    omega
  · rw [← rest_zero] at e
    exact h (rest_head e).2.1

theorem bdLeaf (w : World) : (Instr.build 85 #[]).run Try.prog w = .ok (.agg #[]) w := run_build w 85 #[] #[] (by kernel_rfl)
theorem mkLeaf (x : Value) (w : World) : (Instr.makeInterface 85 x).run Try.prog w = .ok (.iface 85 x) w := run_makeInterface w 85 x (by kernel_rfl)
/-- What readTree answers: the tree at the front and what is behind it, or nothing and the whole text. -/
def Reads (s : ByteArray) (v : Value) (r : ByteArray) : Prop :=
  (∃ t, s.data.toList = sh t ++ r.data.toList ∧ v = .iface (ty t) (body t)) ∨ ((∀ t q, s.data.toList ≠ sh t ++ q) ∧ v = .nilIface ∧ r = s)
theorem ret_vs {u v : Value} {a b : ByteArray} (h : u = v) (h' : a = b) : Ending.returned (.tuple #[u, .string a]) = .returned (.tuple #[v, .string b]) := by rw [h, h']

set_option maxRecDepth 100000 in
set_option maxHeartbeats 1600000 in
theorem readTreeF : ∀ (n : Nat) (s : ByteArray), s.size ≤ n → s.size ≤ 25 → ∀ w : World, Calls Try.prog 91 #[.string s] w fun e w' => (∃ v r, e = .returned (.tuple #[v, .string r]) ∧ Reads s v r) ∧ ∃ m, w' = w.drewN m := by
  intro n
  induction n with
  | zero =>
    intro s h h25 w
    have H1 := Lib.hid (fun W => hasPre_no s 46 W (.inl (by omega)))
    have H2 := Lib.hid (fun W => cutPre_no s 40 W (.inl (by omega)))
    have HN := Lib.hid (show ∀ t q, s.data.toList ≠ sh t ++ q from fun t q e => by
      have := congrArg List.length e
      have hl := sh_len t
      simp at this
      omega)
    clear h h25
    go_enter Try.func91, Try.ntmps91
    go_wp2_with fail
    (with_reducible refine (H1.out _).mono ?_)
    rintro e w' ⟨rfl, rfl⟩
    go_wp2_with fail
    (with_reducible refine (H2.out _).mono ?_)
    rintro e w' ⟨rfl, rfl⟩
    go_wp2
    go_ret2
    first | exact ⟨⟨_, _, rfl, .inr ⟨HN.out, rfl, rfl⟩⟩, 0, rfl⟩ | exact ⟨⟨_, _, rfl, .inr ⟨HN.out, rfl, rfl⟩⟩, _, rfl⟩ | exact ⟨⟨_, _, rfl, .inr ⟨HN.out, rfl, rfl⟩⟩, _, World.drewN_drewN _ _ _⟩ | exact ⟨⟨_, _, rfl, .inr ⟨HN.out, rfl, rfl⟩⟩, _, by simp only [World.drewN_drewN]; rfl⟩
  | succ n ih =>
    intro s h h25 w
    by_cases e1 : 0 < s.size ∧ bt s 0 = 46
    · have H1 := Lib.hid (fun W => hasPre_yes s 46 W e1.1 e1.2)
      have hc := first_cons s 46 e1.1 e1.2
      have HC := Lib.hid (show s.data.toList = sh .leaf ++ (s.extract 1 s.size).data.toList by rw [tail_list]; exact hc)
      have h1 : (1 : Int) ≤ (s.size : Int) := by omega
      clear h h25 ih e1 hc
      have hbd := bdLeaf
      have hmk := mkLeaf
      go_enter Try.func91, Try.ntmps91
      go_wp2_with fail
      (with_reducible refine (H1.out _).mono ?_)
      rintro e w' ⟨rfl, rfl⟩
      go_wp2
      go_quiet (fail)
      go_wp2
      go_ret2
      first | exact ⟨⟨_, _, rfl, .inl ⟨.leaf, HC.out, rfl⟩⟩, 0, rfl⟩ | exact ⟨⟨_, _, rfl, .inl ⟨.leaf, HC.out, rfl⟩⟩, _, rfl⟩ | exact ⟨⟨_, _, rfl, .inl ⟨.leaf, HC.out, rfl⟩⟩, _, World.drewN_drewN _ _ _⟩ | exact ⟨⟨_, _, rfl, .inl ⟨.leaf, HC.out, rfl⟩⟩, _, by simp only [World.drewN_drewN]; rfl⟩
    have e1' : s.size = 0 ∨ bt s 0 ≠ 46 := by
      by_cases h0 : s.size = 0
      · exact .inl h0
      · exact .inr fun e => e1 ⟨by omega, e⟩
    have H1 := Lib.hid (fun W => hasPre_no s 46 W e1')
    by_cases e2 : 0 < s.size ∧ bt s 0 = 40
    · have H2 := Lib.hid (fun W => cutPre_yes s 40 W e2.1 e2.2)
      have HC := Lib.hid (first_cons s 40 e2.1 e2.2)
      have HT := Lib.hid (tail_list s)
      have hz : (s.extract 1 s.size).size = s.size - 1 := by rw [ByteArray.size_extract]; omega
      have HR := Lib.hid (ih (s.extract 1 s.size) (by omega) (by omega))
      have HI := Lib.hid ih
      generalize s.extract 1 s.size = s1 at *
      clear ih e1 e1'
      go_enter Try.func91, Try.ntmps91
      go_wp2_with fail
      (with_reducible refine (H1.out _).mono ?_)
      rintro e w' ⟨rfl, rfl⟩
      go_wp2_with fail
      (with_reducible refine (H2.out _).mono ?_)
      rintro e w' ⟨rfl, rfl⟩
      go_wp2_with fail
      (with_reducible refine (HR.out _).mono ?_)
      rintro e w' ⟨⟨v1, r1, rfl, hr1⟩, m1, rfl⟩
      rcases hr1 with ⟨a, ea, rfl⟩ | ⟨na, rfl, rfl⟩
      · have HEA := Lib.hid ea
        have hlr : r1.size ≤ s1.size := by
          have := congrArg List.length ea
          rw [List.length_append] at this
          simp at this
          omega
        have HR2 := Lib.hid (HI.out r1 (by omega) (by omega))
        clear ea
        go_wp2_with fail
        (with_reducible refine (HR2.out _).mono ?_)
        rintro e w' ⟨⟨v2, r2, rfl, hr2⟩, m2, rfl⟩
        rcases hr2 with ⟨b, eb, rfl⟩ | ⟨nb, rfl, rfl⟩
        · by_cases e3 : 0 < r2.size ∧ bt r2 0 = 41
          · have H3 := Lib.hid (fun W => cutPre_yes r2 41 W e3.1 e3.2)
            have hc2 := first_cons r2 41 e3.1 e3.2
            have ht2 := tail_list r2
            have HX := Lib.hid (show s.data.toList = sh (.node a b) ++ (r2.extract 1 r2.size).data.toList by
              rw [HC.out, ← HT.out, HEA.out, eb, sh_node, hc2, ht2])
            clear e3 hc2 ht2 eb
            go_wp2_with fail
            (with_reducible refine (H3.out _).mono ?_)
            rintro e w' ⟨rfl, rfl⟩
            go_wp2
            go_ret2
            first | exact ⟨⟨_, _, rfl, .inl ⟨.node a b, HX.out, rfl⟩⟩, 0, rfl⟩ | exact ⟨⟨_, _, rfl, .inl ⟨.node a b, HX.out, rfl⟩⟩, _, rfl⟩ | exact ⟨⟨_, _, rfl, .inl ⟨.node a b, HX.out, rfl⟩⟩, _, World.drewN_drewN _ _ _⟩ | exact ⟨⟨_, _, rfl, .inl ⟨.node a b, HX.out, rfl⟩⟩, _, by simp only [World.drewN_drewN]; rfl⟩
          · have e3' : r2.size = 0 ∨ bt r2 0 ≠ 41 := by
              by_cases h0 : r2.size = 0
              · exact .inl h0
              · exact .inr fun e => e3 ⟨by omega, e⟩
            have H3 := Lib.hid (fun W => cutPre_no r2 41 W e3')
            have HX := Lib.hid (show ∀ t q, s.data.toList ≠ sh t ++ q from fun t q e => by
              cases t with
              | leaf => rw [HC.out] at e; simp [sh] at e
              | node x y =>
                rw [HC.out, sh_node, ← HT.out, HEA.out] at e
                simp only [List.cons.injEq, true_and] at e
                obtain ⟨-, e⟩ := sh_free _ _ _ _ e
                rw [eb] at e
                obtain ⟨-, e⟩ := sh_free _ _ _ _ e
                exact first_ne r2 41 e3' _ e)
            clear e3 e3' eb
            go_wp2_with fail
            (with_reducible refine (H3.out _).mono ?_)
            rintro e w' ⟨rfl, rfl⟩
            go_wp2
            go_ret2
            first | exact ⟨⟨_, _, rfl, .inr ⟨HX.out, rfl, rfl⟩⟩, 0, rfl⟩ | exact ⟨⟨_, _, rfl, .inr ⟨HX.out, rfl, rfl⟩⟩, _, rfl⟩ | exact ⟨⟨_, _, rfl, .inr ⟨HX.out, rfl, rfl⟩⟩, _, World.drewN_drewN _ _ _⟩ | exact ⟨⟨_, _, rfl, .inr ⟨HX.out, rfl, rfl⟩⟩, _, by simp only [World.drewN_drewN]; rfl⟩
        · have HX := Lib.hid (show ∀ t q, s.data.toList ≠ sh t ++ q from fun t q e => by
            cases t with
            | leaf => rw [HC.out] at e; simp [sh] at e
            | node x y =>
              rw [HC.out, sh_node, ← HT.out, HEA.out] at e
              simp only [List.cons.injEq, true_and] at e
              obtain ⟨-, e⟩ := sh_free _ _ _ _ e
              exact nb _ _ e)
          clear nb
          by_cases e3 : 0 < r2.size ∧ bt r2 0 = 41
          · have H3 := Lib.hid (fun W => cutPre_yes r2 41 W e3.1 e3.2)
            clear e3
            go_wp2_with fail
            (with_reducible refine (H3.out _).mono ?_)
            rintro e w' ⟨rfl, rfl⟩
            go_wp2
            go_ret2
            first | exact ⟨⟨_, _, rfl, .inr ⟨HX.out, rfl, rfl⟩⟩, 0, rfl⟩ | exact ⟨⟨_, _, rfl, .inr ⟨HX.out, rfl, rfl⟩⟩, _, rfl⟩ | exact ⟨⟨_, _, rfl, .inr ⟨HX.out, rfl, rfl⟩⟩, _, World.drewN_drewN _ _ _⟩ | exact ⟨⟨_, _, rfl, .inr ⟨HX.out, rfl, rfl⟩⟩, _, by simp only [World.drewN_drewN]; rfl⟩
          · have e3' : r2.size = 0 ∨ bt r2 0 ≠ 41 := by
              by_cases h0 : r2.size = 0
              · exact .inl h0
              · exact .inr fun e => e3 ⟨by omega, e⟩
            have H3 := Lib.hid (fun W => cutPre_no r2 41 W e3')
            clear e3 e3'
            go_wp2_with fail
            (with_reducible refine (H3.out _).mono ?_)
            rintro e w' ⟨rfl, rfl⟩
            go_wp2
            go_ret2
            first | exact ⟨⟨_, _, rfl, .inr ⟨HX.out, rfl, rfl⟩⟩, 0, rfl⟩ | exact ⟨⟨_, _, rfl, .inr ⟨HX.out, rfl, rfl⟩⟩, _, rfl⟩ | exact ⟨⟨_, _, rfl, .inr ⟨HX.out, rfl, rfl⟩⟩, _, World.drewN_drewN _ _ _⟩ | exact ⟨⟨_, _, rfl, .inr ⟨HX.out, rfl, rfl⟩⟩, _, by simp only [World.drewN_drewN]; rfl⟩
      · have HX := Lib.hid (show ∀ t q, s.data.toList ≠ sh t ++ q from fun t q e => by
          cases t with
          | leaf => rw [HC.out] at e; simp [sh] at e
          | node x y =>
            rw [HC.out, sh_node, ← HT.out] at e
            simp only [List.cons.injEq, true_and] at e
            exact na _ _ e)
        clear na
        go_wp2
        go_ret2
        first | exact ⟨⟨_, _, rfl, .inr ⟨HX.out, rfl, rfl⟩⟩, 0, rfl⟩ | exact ⟨⟨_, _, rfl, .inr ⟨HX.out, rfl, rfl⟩⟩, _, rfl⟩ | exact ⟨⟨_, _, rfl, .inr ⟨HX.out, rfl, rfl⟩⟩, _, World.drewN_drewN _ _ _⟩ | exact ⟨⟨_, _, rfl, .inr ⟨HX.out, rfl, rfl⟩⟩, _, by simp only [World.drewN_drewN]; rfl⟩
    · have e2' : s.size = 0 ∨ bt s 0 ≠ 40 := by
        by_cases h0 : s.size = 0
        · exact .inl h0
        · exact .inr fun e => e2 ⟨by omega, e⟩
      have H2 := Lib.hid (fun W => cutPre_no s 40 W e2')
      have HX := Lib.hid (show ∀ t q, s.data.toList ≠ sh t ++ q from fun t q e => by
        cases t with
        | leaf => exact first_ne s 46 e1' _ e
        | node x y => rw [sh_node] at e; exact first_ne s 40 e2' _ e)
      clear e1 e1' e2 e2' ih h h25
      go_enter Try.func91, Try.ntmps91
      go_wp2_with fail
      (with_reducible refine (H1.out _).mono ?_)
      rintro e w' ⟨rfl, rfl⟩
      go_wp2_with fail
      (with_reducible refine (H2.out _).mono ?_)
      rintro e w' ⟨rfl, rfl⟩
      go_wp2
      go_ret2
      first | exact ⟨⟨_, _, rfl, .inr ⟨HX.out, rfl, rfl⟩⟩, 0, rfl⟩ | exact ⟨⟨_, _, rfl, .inr ⟨HX.out, rfl, rfl⟩⟩, _, rfl⟩ | exact ⟨⟨_, _, rfl, .inr ⟨HX.out, rfl, rfl⟩⟩, _, World.drewN_drewN _ _ _⟩ | exact ⟨⟨_, _, rfl, .inr ⟨HX.out, rfl, rfl⟩⟩, _, by simp only [World.drewN_drewN]; rfl⟩

theorem ret_vb {u v : Value} {x y : Bool} (h : u = v) (h' : x = y) : Ending.returned (.tuple #[u, .bool x]) = .returned (.tuple #[v, .bool y]) := by rw [h, h']
/-- What treeOf answers. -/
def TreeIs (s : ByteArray) (v : Value) : Prop := (binB s = true ∧ ∃ t, nds t ≤ 8 ∧ s = baL (sh t) ∧ v = .iface (ty t) (body t)) ∨ (binB s = false ∧ v = .nilIface)
set_option maxRecDepth 100000 in
set_option maxHeartbeats 1600000 in
theorem treeOf (s : ByteArray) (w : World) (hs : s.size ≤ 1099511627776) : Calls Try.prog 64 #[.string s] w fun e w' => (∃ v, e = .returned (.tuple #[v, .bool (binB s)]) ∧ TreeIs s v) ∧ ∃ m, w' = w.drewN m := by
  by_cases h25 : 25 < s.size
  · have hi : (25 : Int) < (s.size : Int) := by omega
    have HB := Lib.hid (show binB s = false by
      rcases hb : binB s with _ | _
      · rfl
      · have := (bin_full hb).1; omega)
    clear h25
    go_enter Try.func64, Try.ntmps64
    go_wp2
    go_ret2
    first | exact ⟨⟨_, ret_vb rfl HB.out.symm, .inr ⟨HB.out, rfl⟩⟩, 0, rfl⟩ | exact ⟨⟨_, ret_vb rfl HB.out.symm, .inr ⟨HB.out, rfl⟩⟩, _, rfl⟩ | exact ⟨⟨_, ret_vb rfl HB.out.symm, .inr ⟨HB.out, rfl⟩⟩, _, by simp only [World.drewN_drewN]; rfl⟩
  · have hi : ¬ ((25 : Int) < (s.size : Int)) := by omega
    have HR := Lib.hid (readTreeF s.size s (Nat.le_refl _) (by omega) w)
    go_enter Try.func64, Try.ntmps64
    go_wp2_with fail
    (with_reducible refine HR.out.mono ?_)
    rintro e w' ⟨⟨v, r, rfl, hr⟩, m1, rfl⟩
    rcases hr with ⟨t, et, rfl⟩ | ⟨nt, rfl, rfl⟩
    · by_cases h0 : r.size = 0
      · have hne := str_none r h0
        have HT := Lib.hid (show s = baL (sh t) by
          apply eq_baL
          rw [et]
          have : r.data.toList = [] := List.eq_nil_of_length_eq_zero (by rw [Array.length_toList]; exact h0)
          rw [this, List.append_nil])
        have hn : nds t ≤ 8 := by
          have := congrArg ByteArray.size HT.out
          rw [baL_size, sh_len] at this; omega
        have HB := Lib.hid (show binB s = true by rw [HT.out]; exact bin_tree t hn)
        clear h0 et h25 hi
        go_wp2
        go_ret2
        first | exact ⟨⟨_, ret_vb rfl HB.out.symm, .inl ⟨HB.out, t, hn, HT.out, rfl⟩⟩, 0, rfl⟩ | exact ⟨⟨_, ret_vb rfl HB.out.symm, .inl ⟨HB.out, t, hn, HT.out, rfl⟩⟩, _, rfl⟩ | exact ⟨⟨_, ret_vb rfl HB.out.symm, .inl ⟨HB.out, t, hn, HT.out, rfl⟩⟩, _, by simp only [World.drewN_drewN]; rfl⟩
      · have hne := str_full r (by omega)
        have HB := Lib.hid (show binB s = false by
          rcases hb : binB s with _ | _
          · rfl
          · obtain ⟨-, t', e'⟩ := (bin_iff s).1 hb
            rw [et] at e'
            have := (sh_free _ _ _ _ e').2
            exfalso
            apply h0
            have := congrArg List.length this
            simpa using this)
        clear h0 et h25 hi
        go_wp2
        go_ret2
        first | exact ⟨⟨_, ret_vb rfl HB.out.symm, .inr ⟨HB.out, rfl⟩⟩, 0, rfl⟩ | exact ⟨⟨_, ret_vb rfl HB.out.symm, .inr ⟨HB.out, rfl⟩⟩, _, rfl⟩ | exact ⟨⟨_, ret_vb rfl HB.out.symm, .inr ⟨HB.out, rfl⟩⟩, _, by simp only [World.drewN_drewN]; rfl⟩
    · have HB := Lib.hid (show binB r = false by
        rcases hb : binB r with _ | _
        · rfl
        · obtain ⟨-, t', e'⟩ := (bin_iff r).1 hb
          exact absurd e' (nt _ _))
      clear nt h25 hi
      go_wp2
      go_ret2
      first | exact ⟨⟨_, ret_vb rfl HB.out.symm, .inr ⟨HB.out, rfl⟩⟩, 0, rfl⟩ | exact ⟨⟨_, ret_vb rfl HB.out.symm, .inr ⟨HB.out, rfl⟩⟩, _, rfl⟩ | exact ⟨⟨_, ret_vb rfl HB.out.symm, .inr ⟨HB.out, rfl⟩⟩, _, by simp only [World.drewN_drewN]; rfl⟩

end Go.Proofs.Ytbbbnnkkjgikbaa
