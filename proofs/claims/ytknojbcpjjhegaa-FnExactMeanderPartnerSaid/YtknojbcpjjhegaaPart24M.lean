/- Tables of ints that the call owns, whose rows are only read: each row is some slice of ints. The sizes of listed paths (never beside Count18). MeanderPartner, both functions. The walks of exact laws, from the two functions' contracts (written by program). -/
import Derived.Test.YtknojbcpjjhegaaInts
import Derived.OneCell
import Derived.Deep.AppendLies
import Derived.Test.YtknojbcpjjhegaaSpec3F
import Derived.Test.YtknojbcpjjhegaaSpec24A
import Derived.Test.YtknojbcpjjhegaaImpl24A
import Derived.Test.YtknojbcpjjhegaaPaths3M
import Derived.Test.YtknojbcpjjhegaaMark2
import Derived.Test.YtknojbcpjjhegaaSpec2G
namespace Go.Proofs.Ytknojbcpjjhegaa
section STbO
open Go.ChangeShapes Go.WideShapes Go.ChangeAt Go.RowKit
set_option linter.unusedVariables false

theorem infoRO : (Try.prog.info? 24).map (fun i => (i.zero, i.size, i.bytes)) = some (some (.slice none 0 0), 1, 24) := by kernel_rfl
theorem own_ty {w : World} {base sz n : Nat} {e : TypeId} {v : Value} {xs : List Value} (h : w.ownsRow base e sz v n xs) {o : Nat} (ho : v.ownBlock = some o) : ∃ cur, w.heap[o]? = some (.cells cur e (0, 0)) := by
  rcases h.2 with ⟨e, -⟩ | ⟨o', cap, cur, e, hb, hh, -⟩
  · subst e; cases ho
  · subst e
    simp only [Value.ownBlock, Option.some.injEq] at ho
    subst ho
    exact ⟨cur, hh⟩
/-- A slice of ints stays what it is when a row of another type grows. -/
theorem OwnI.other {w w' : World} {lo hi : Nat} {u v : Value} {xs : List Int} (h : OwnI w lo hi u xs) (hg : w.grownBy w' v.ownBlock) (hv : ∀ o, v.ownBlock = some o → ∃ cur, w.heap[o]? = some (.cells cur 24 (0, 0))) : OwnI w' lo hi u xs := by
  obtain ⟨A, cap, e, h⟩ := h
  refine ⟨A, cap, e, ?_⟩
  rcases h with h | ⟨g, C, h1, h2, h3, h4, h5⟩
  · exact .inl h
  · refine .inr ⟨g, C, h1, h2, h3, ?_, h5⟩
    refine (hg.block g (Array.getElem?_eq_some_iff.1 h4).1 fun e2 => ?_).trans h4
    obtain ⟨cur, hc⟩ := hv g e2.symm
    rw [h4] at hc
    simp at hc
/-- v is a table of the rows ls, which are the slices vs. -/
structure TbO (w : World) (base : Nat) (v : Value) (vs : List Value) (ls : List (List Int)) : Prop where
  len : vs.length = ls.length
  own : w.ownsRow base 24 1 v ls.length vs
  row : ∀ j, j < ls.length → OwnI w base w.heap.size (vs.getD j (.slice none 0 0)) (ls.getD j [])
variable {w : World} {base : Nat} {v : Value} {vs : List Value} {ls : List (List Int)}
theorem TbO.nil (w : World) (base : Nat) : TbO w base (.slice none 0 0) [] [] :=
  ⟨rfl, World.ownsRow_nil _ _ _ _, fun j h => by simp at h⟩
theorem TbO.made (w : World) (base : Nat) (hb : base ≤ w.heap.size) : TbO (w.alloc (.cells #[] 24)) base (.slice (some ⟨w.heap.size, 0, none⟩) 0 0) [] [] :=
  ⟨rfl, World.ownsRow_made w #[] 0 hb (Nat.zero_le _) (by simp), fun j h => by simp at h⟩
theorem TbO.keep {w' : World} (h : TbO w base v vs ls) (hb : Below w.heap.size w w') : TbO w' base v vs ls := by
  refine ⟨h.len, ?_, fun j hj => ((h.row j hj).keep hb (Nat.le_refl _)).wide (Nat.le_refl _) hb.size⟩
  obtain ⟨h0, h⟩ := h.own
  refine ⟨h0, ?_⟩
  rcases h with h | ⟨g, cap, cur, rfl, h1, h2, h3⟩
  · exact .inl h
  · exact .inr ⟨g, cap, cur, rfl, h1, (hb.block g (Array.getElem?_eq_some_iff.1 h2).1).trans h2, h3⟩
theorem TbO.lower {b0 : Nat} (h : TbO w base v vs ls) (hb : b0 ≤ base) : TbO w b0 v vs ls := by
  refine ⟨h.len, ?_, fun j hj => (h.row j hj).wide hb (Nat.le_refl _)⟩
  obtain ⟨h0, h⟩ := h.own
  refine ⟨h0, ?_⟩
  rcases h with h | ⟨g, cap, cur, e, h1, h2⟩
  · exact .inl h
  · exact .inr ⟨g, cap, cur, e, by omega, h2⟩
theorem TbO.alloc (h : TbO w base v vs ls) (o : Obj) : TbO (w.alloc o) base v vs ls := h.keep ((Below.refl _ _).alloc (Nat.le_refl _) o)
theorem TbO.form (h : TbO w base v vs ls) : ∃ A cap, v = .slice A ls.length cap := by
  rcases h.own.2 with ⟨e, h0⟩ | ⟨g, cap, cur, e, -⟩
  · exact ⟨none, 0, by rw [e, h0]⟩
  · exact ⟨_, cap, e⟩
theorem TbO.cell (h : TbO w base v vs ls) {j : Nat} (hj : j < ls.length) :
    ∃ o cap, v = .slice (some ⟨o, 0, none⟩) ls.length cap ∧ base ≤ o ∧ o < w.heap.size ∧ w.cell? ⟨o, j, none⟩ = some (vs.getD j (.slice none 0 0)) := by
  obtain ⟨o, cap, e, h1, h2⟩ := h.own.form (by omega)
  have hown := h.own
  rw [e] at hown
  refine ⟨o, cap, e, h1, h2, ?_⟩
  rw [hown.cellAt j (by omega), List.getD_eq_getElem?_getD, List.getElem?_eq_getElem (by have := h.len; omega)]
  rfl
/-- A row appended to a table. -/
theorem wpAppTO {w : World} {ops : Array Oper} {rest : List Oper} {o : Oper} {a : Act} {Q : Exit → Act → World → Prop} (hgd : o.guard = none) (s x : Operand)
    (ho : o.op = .call { callee := .builtin .append, args := #[s, x], argTypes := #[73, 73] })
    (base : Nat) (v : Value) (vs : List Value) (ls : List (List Int)) (hs : a.eval s = v) (hown : TbO w base v vs ls)
    (b : Nat) (c : Nat) (u : Value) (xs : List Int) (hx : a.eval x = .slice (some ⟨b, 0, none⟩) 1 c) (hcell : w.cell? ⟨b, 0, none⟩ = some u)
    (hu : OwnI w base w.heap.size u xs) (hn : ls.length ≤ 1099511627776) (hbase : base ≤ w.heap.size)
    (h : ∀ v' w', TbO w' base v' (vs ++ [u]) (ls ++ [xs]) → w.grownBy w' v.ownBlock → wpList Try.prog ops Q rest (a.put o.dst v') w') : wpList Try.prog ops Q (o :: rest) a w := by
  obtain ⟨i0, hi, hz0, hz1, hz2⟩ := info_parts infoRO
  have hu1 : u.oneCell' = true := by obtain ⟨A, cap, rfl, -⟩ := hu; rfl
  refine wpList_append_own _ hgd s x 73 ho base 24 i0 (.slice none 0 0) 1 24 Try.underlying73 hi hz0 hz1 hz2 rfl (by decide) v ls.length _ hs hown.own ⟨b, 0, none⟩ 1 c [u] hx rfl ?_ ?_ (by unfold maxLen; omega) (by omega) hbase ?_
  · intro j u hj
    match j, hj with
    | 0, hj => simp at hj; subst hj; simpa [Addr.add] using hcell
  · intro u' hu'; simp at hu'; subst hu'; exact hu1
  · intro v' w' h1 h2 _
    have hl := hown.len
    have hty : ∀ o, v.ownBlock = some o → ∃ cur, w.heap[o]? = some (.cells cur 24 (0, 0)) := fun o ho => own_ty hown.own ho
    refine h v' w' ⟨by simp [hl], by simpa using h1, fun j hj => ?_⟩ h2
    rw [List.length_append, List.length_singleton] at hj
    by_cases e : j < ls.length
    · rw [show (vs ++ [u]).getD j (.slice none 0 0) = vs.getD j (.slice none 0 0) by rw [List.getD_eq_getElem?_getD, List.getElem?_append_left (by omega), ← List.getD_eq_getElem?_getD],
        show (ls ++ [xs]).getD j [] = ls.getD j [] by rw [List.getD_eq_getElem?_getD, List.getElem?_append_left e, ← List.getD_eq_getElem?_getD]]
      exact ((hown.row j e).other h2 hty).wide (Nat.le_refl _) h2.size
    · obtain rfl : j = ls.length := by omega
      rw [show (ls ++ [xs]).getD ls.length [] = xs by simp [List.getD], show (vs ++ [u]).getD ls.length (.slice none 0 0) = u by rw [← hl]; simp [List.getD]]
      exact (hu.other h2 hty).wide (Nat.le_refl _) h2.size
end STbO

section SPathsSz
open Go.ChangeShapes Go.WideShapes Go.ChangeAt Go.RowKit
set_option linter.unusedVariables false

theorem allF_sz : ∀ (f : Nat) (s : ByteArray) (u d : Nat), ∀ x ∈ allF f s u d, x.size ≤ s.size + f := by
  intro f
  induction f with
  | zero => intro s u d x hx; simp [allF] at hx; subst hx; omega
  | succ f ih =>
    intro s u d x hx
    rw [allF, List.mem_append] at hx
    have one : ∀ c : UInt8, (s ++ ⟨#[c]⟩ : ByteArray).size = s.size + 1 := fun c => by rw [ByteArray.size_append]; rfl
    rcases hx with hx | hx
    · split at hx
      · have := ih _ _ _ x hx
        rw [one] at this; omega
      · simp at hx
    · split at hx
      · have := ih _ _ _ x hx
        rw [one] at this; omega
      · simp at hx
theorem paths_sz (n : Int) (i : Nat) : ((pathsP n).getD i E0).size ≤ 100 := by
  rw [List.getD_eq_getElem?_getD]
  rcases Nat.lt_or_ge i (pathsP n).length with h | h
  · rw [List.getElem?_eq_getElem h, Option.getD_some]
    have hm := List.getElem_mem h
    generalize (pathsP n)[i] = x at hm ⊢
    unfold pathsP at hm
    split at hm
    · have := allF_sz _ _ _ _ _ hm
      have h0 : (⟨#[]⟩ : ByteArray).size = 0 := rfl
      have h5 : n.toNat ≤ 8 := by omega
      omega
    · exact absurd hm List.not_mem_nil
  · rw [List.getElem?_eq_none h]; show (0 : Nat) ≤ 100; omega
theorem paths_len (n : Int) : (pathsP n).length ≤ 4096 := by
  unfold pathsP
  split
  · exact allF_small _ _ _ _ (by omega)
  · simp
end SPathsSz

section SPart24
open Go.ChangeShapes Go.WideShapes Go.ChangeAt Go.RowKit
set_option linter.unusedVariables false

theorem find_hit {p : ByteArray → Bool} : ∀ {L : List ByteArray} {i : Nat}, i < L.length → (∀ j, j < i → p (L.getD j E0) = false) → p (L.getD i E0) = true → L.find? p = some (L.getD i E0) := by
  intro L
  induction L with
  | nil => intro i hi _ _; simp at hi
  | cons a t ih =>
    intro i hi hno hy
    cases i with
    | zero => rw [List.find?_cons, show p a = true from hy]; rfl
    | succ i =>
      rw [List.find?_cons, show p a = false from hno 0 (by omega)]
      exact ih (by simpa using hi) (fun j hj => hno (j + 1) (by omega)) hy
theorem find_miss {p : ByteArray → Bool} {L : List ByteArray} (h : ∀ j, j < L.length → p (L.getD j E0) = false) : L.find? p = none := by
  rw [List.find?_eq_none]
  intro x hx
  obtain ⟨i, hi, rfl⟩ := List.mem_iff_getElem.1 hx
  have := h i hi
  rw [List.getD_eq_getElem?_getD, List.getElem?_eq_getElem hi] at this
  simpa using this
/-- A path makes a meander with a matching. -/
def hitB (xs : List Int) (s : ByteArray) : Bool := lpP xs (matchingP s) == 1
def mpF (xs : List Int) : Option ByteArray := (pathsP ((xs.length / 2 : Nat) : Int)).find? (hitB xs)
def mpOk (xs : List Int) : Bool := (mpF xs).isSome
def mpP (xs : List Int) : List Int := match mpF xs with
  | some s => matchingP s
  | none => []
theorem matchingP_len (s : ByteArray) : (matchingP s).length ≤ 16 := by
  unfold matchingP
  split
  · rw [mtL_len]; exact dyck_size (by assumption)
  · simp
theorem mpP_len (xs : List Int) : (mpP xs).length ≤ 16 := by
  unfold mpP
  split
  · exact matchingP_len _
  · simp
theorem hit_no {xs : List Int} (h : (crossP xs == 0) = false) (s : ByteArray) : hitB xs s = false := by
  unfold hitB lpP lpOk; rw [h]; rfl
theorem mp_none {xs : List Int} (h : mpF xs = none) : mpOk xs = false ∧ mpP xs = [] := by
  unfold mpOk mpP; rw [h]; exact ⟨rfl, rfl⟩
theorem mp_some {xs : List Int} {s : ByteArray} (h : mpF xs = some s) : mpOk xs = true ∧ mpP xs = matchingP s := by
  unfold mpOk mpP; rw [h]; exact ⟨rfl, rfl⟩
theorem mp_cross {xs : List Int} (h : (crossP xs == 0) = false) : mpF xs = none := by
  unfold mpF
  exact find_miss fun j _ => hit_no h _
theorem match_one {xs : List Int} (h : xs.length = 1) : matchP xs = false := by
  refine match_no (j := 0) (by omega) fun hh => ?_
  obtain ⟨h1, h2, h3, -⟩ := hh
  have : (xs.length : Int) - 1 = 0 := by omega
  exact h3 (by simp; omega)
theorem mp_zero {xs : List Int} (h : xs.length / 2 = 0) : mpF xs = none := by
  by_cases hc : (crossP xs == 0) = true
  · have hm := match_cross hc
    have : xs.length ≠ 1 := fun e => by rw [match_one e] at hm; cases hm
    have h0 : xs = [] := List.eq_nil_of_length_eq_zero (by omega)
    subst h0
    unfold mpF
    refine find_miss fun j hj => ?_
    unfold hitB lpP
    split
    · have e : lpN [] (matchingP ((pathsP ((([] : List Int).length / 2 : Nat) : Int)).getD j E0)) = 0 := rfl
      rw [e]; rfl
    · rfl
  · exact mp_cross (by simpa using hc)
theorem mp_long {xs : List Int} (h : 6 < xs.length / 2) : mpF xs = none := by
  unfold mpF pathsP
  rw [if_neg (by omega)]; rfl

set_option maxRecDepth 100000 in
set_option maxHeartbeats 1600000 in
theorem meanderPartner (A : Option Addr) (xs : List Int) (cap lo hi : Nat) (w : World) (hv : OwnI w lo hi (.slice A xs.length cap) xs) (hhi : hi ≤ w.heap.size) (hl : xs.length ≤ 1099511627776) :
    Calls Try.prog 44 #[.slice A xs.length cap] w (AnsIB (mpP xs) (mpOk xs) w) := by
  have HN := Lib.hid (noncrossing _ xs lo hi w hv hl)
  have HV := Lib.hid hv
  clear hv
  obtain ⟨H, hH⟩ : ∃ H : Nat, H = xs.length / 2 := ⟨_, rfl⟩
  have q1 : ((xs.length : Int)).tdiv 2 = (H : Int) := by rw [Int.tdiv_eq_ediv_of_nonneg (by omega)]; omega
  have q2 : (xs.length : Int) / 2 = (H : Int) := by omega
  have q3 : IntKind.i64.wrap (H : Int) = (H : Int) := IntWalk.i64_in _ (by omega)
  rcases hx : (crossP xs == 0) with _ | _
  · have HP := Lib.hid (mp_none (mp_cross hx))
    rw [hx] at HN
    clear hx hH
    go_enter Try.func44, Try.ntmps44
    go_wp2_with fail
    (with_reducible refine HN.out.mono ?_)
    rintro e w' ⟨rfl, hb⟩
    have HB := Lib.hid hb
    clear hb
    go_wp2
    go_ret2
    exact ⟨_, ret_ib rfl HP.out.1.symm, by rw [HP.out.2]; exact ⟨_, _, rfl, .inl rfl⟩, HB.out.alloc HB.out.size _⟩
  rw [hx] at HN
  by_cases hr : 1 ≤ (H : Int) ∧ (H : Int) ≤ 6
  · obtain ⟨L, hL⟩ : ∃ L, L = pathsP (H : Int) := ⟨_, rfl⟩
    have HF := Lib.hid (show mpF xs = L.find? (hitB xs) by unfold mpF; rw [hL, hH])
    have HPA := Lib.hid (fun W => pathsOf (H : Int) W)
    have HLN := Lib.hid (show L.length ≤ 4096 by rw [hL]; exact paths_len _)
    have HSZ := Lib.hid (fun j => show (L.getD j E0).size ≤ 100 by rw [hL]; exact paths_sz _ j)
    have HME := Lib.hid (fun A' s c' lo' hi' W (h : OwnI W lo hi (.slice A xs.length cap) xs) (h' : OwnI W lo' hi' (.slice A' (matchingP s).length c') (matchingP s)) (hh : hi ≤ W.heap.size) (hh' : hi' ≤ W.heap.size) => isMeander A A' xs (matchingP s) cap c' lo hi lo' hi' W h h' hh hh' hl (by have := matchingP_len s; omega))
    rw [← hL] at HPA
    have h1 := hr.1
    have h6 := hr.2
    clear hx hH hr hL
    go_enter Try.func44, Try.ntmps44
    go_wp2_with fail
    (with_reducible refine HN.out.mono ?_)
    rintro e w1 ⟨rfl, hb⟩
    have HB := Lib.hid hb
    have HV1 := Lib.hid (HV.out.keep hb hhi)
    have z1 := hb.size
    clear hb
    go_wp2_with fail
    (with_reducible refine (l1In_yes _ 1 6 _ h1 h6).mono ?_)
    rintro e w' ⟨rfl, rfl⟩
    go_wp2_with fail
    (with_reducible refine (HPA.out _).mono ?_)
    rintro e w2 ⟨v, rfl, ho, hb⟩
    obtain ⟨A2, c2, rfl, -⟩ := id ho
    have HO := Lib.hid ho
    have HB2 := Lib.hid (HB.out.trans (hb.mono z1))
    have HV2 := Lib.hid (HV1.out.keep hb (by omega))
    have z2 := hb.size
    clear ho hb
    have hln := HLN.out
    go_wp2
    go_loopw [6] (fun y wr => ∃ i : Nat, i ≤ L.length ∧ y = .int .i64 i ∧ Below w2.heap.size w2 wr ∧ ∀ j, j < i → hitB xs (L.getD j E0) = false) (fun y _ => L.length - (intOf y).toNat)
    case atStart => exact ⟨0, Nat.zero_le _, rfl, Below.refl _ _, fun j h => absurd h (Nat.not_lt_zero _)⟩
    case round =>
      obtain ⟨i, hi1, rfl, hb, hno⟩ := hrel
      have HBW := Lib.hid hb
      have HNO := Lib.hid hno
      have z3 := hb.size
      clear hb hno
      by_cases hlt : i < L.length
      · have hii : (i : Int) < (L.length : Int) := by omega
        obtain ⟨g1, p1, e1, -, -, hc1, -⟩ := (HO.out.keep HBW.out (Nat.le_refl _)).cell (j := i) hlt
        simp only [Value.slice.injEq] at e1
        obtain ⟨rfl, -, -⟩ := e1
        have HHIT := Lib.hid (fun hy => find_hit hlt HNO.out hy)
        have HSTEP := Lib.hid (fun (hy : hitB xs (L.getD i E0) = false) => show ∀ j, j < i + 1 → hitB xs (L.getD j E0) = false from fun j hj => by
          by_cases ej : j = i
          · subst ej; exact hy
          · exact HNO.out j (by omega))
        have hsz := HSZ.out i
        have HEQ := Lib.hid (fun s => show hitB xs s = (lpP xs (matchingP s) == 1) from rfl)
        generalize L.getD i E0 = s at *
        go_wp2_with fail
        (with_reducible refine (matchingOf s _ (by omega)).mono ?_)
        rintro e w3 ⟨u, rfl, ho, hb⟩
        obtain ⟨A3, c3, rfl, -⟩ := id ho
        have HO3 := Lib.hid ho
        have HB3 := Lib.hid (HBW.out.trans (hb.mono z3))
        have z4 := hb.size
        have HV3 := Lib.hid (HV2.out.keep HB3.out (by omega))
        clear ho hb
        go_wp2_with fail
        (with_reducible refine (HME.out _ s _ _ _ _ HV3.out HO3.out (by omega) (Nat.le_refl _)).mono ?_)
        rintro e w4 ⟨rfl, hb⟩
        have HB4 := Lib.hid (HB3.out.trans (hb.mono (by omega)))
        have HO4 := Lib.hid (HO3.out.keep hb (Nat.le_refl _))
        have z5 := hb.size
        clear hb
        rcases hh : hitB xs s with _ | _
        · have HS2 := Lib.hid (HSTEP.out hh)
          rw [show (lpP xs (matchingP s) == 1) = false from (HEQ.out s).symm.trans hh]
          clear hh
          go_wp2
          exact ⟨⟨i + 1, by omega, by simp, HB4.out, HS2.out⟩, by simp [intOf]; omega⟩
        · have HP := Lib.hid (mp_some (HF.out.trans (HHIT.out hh)))
          rw [show (lpP xs (matchingP s) == 1) = true from (HEQ.out s).symm.trans hh]
          clear hh
          go_wp2
          go_ret2
          exact ⟨_, ret_ib rfl HP.out.1.symm, by rw [HP.out.2]; exact HO4.out.wide (by omega) z5, HB2.out.trans (HB4.out.mono (by omega))⟩
      · obtain rfl : i = L.length := by omega
        have HP := Lib.hid (mp_none (HF.out.trans (find_miss HNO.out)))
        go_wp2
        go_ret2
        exact ⟨_, ret_ib rfl HP.out.1.symm, by rw [HP.out.2]; exact ⟨_, _, rfl, .inl rfl⟩, (HB2.out.trans (HBW.out.mono (by omega))).alloc (by omega) _⟩
  · have HP := Lib.hid (mp_none (show mpF xs = none by
      by_cases h0 : H = 0
      · exact mp_zero (by omega)
      · exact mp_long (by omega)))
    have HNY := Lib.hid (fun W => l1In_nay (H : Int) 1 6 W hr)
    clear hx hH hr
    go_enter Try.func44, Try.ntmps44
    go_wp2_with fail
    (with_reducible refine HN.out.mono ?_)
    rintro e w1 ⟨rfl, hb⟩
    have HB := Lib.hid hb
    clear hb
    go_wp2_with fail
    (with_reducible refine (HNY.out _).mono ?_)
    rintro e w' ⟨rfl, rfl⟩
    go_wp2
    go_ret2
    exact ⟨_, ret_ib rfl HP.out.1.symm, by rw [HP.out.2]; exact ⟨_, _, rfl, .inl rfl⟩, HB.out.alloc HB.out.size _⟩

/-- The matchings of the first i paths. -/
def mtT (L : List ByteArray) (i : Nat) : List (List Int) := (List.range i).map fun q => matchingP (L.getD q E0)
theorem mtT_len (L : List ByteArray) (i : Nat) : (mtT L i).length = i := by simp [mtT]
theorem mtT_succ (L : List ByteArray) (i : Nat) : mtT L (i + 1) = mtT L i ++ [matchingP (L.getD i E0)] := by simp [mtT, List.range_succ]
theorem mtT_at (L : List ByteArray) {i q : Nat} (h : q < i) : (mtT L i).getD q [] = matchingP (L.getD q E0) := by simp [mtT, List.getD, h]

set_option maxRecDepth 100000 in
set_option maxHeartbeats 1600000 in
theorem matchingsOfI (n : Int) (w : World) : Calls Try.prog 70 #[.int .i64 n] w fun e w' => ∃ v vs, e = .returned v ∧ TbO w' w.heap.size v vs (mtT (pathsP n) (pathsP n).length) ∧ Below w.heap.size w w' := by
  obtain ⟨L, hL⟩ : ∃ L, L = pathsP n := ⟨_, rfl⟩
  have HPA := Lib.hid (pathsOfI2 n w)
  have HLN := Lib.hid (show L.length ≤ 4096 by rw [hL]; exact paths_len _)
  have HSZ := Lib.hid (fun j => show (L.getD j E0).size ≤ 100 by rw [hL]; exact paths_sz _ j)
  rw [← hL] at HPA ⊢
  clear hL
  go_enter Try.func70, Try.ntmps70
  go_wp2_with fail
  (with_reducible refine HPA.out.mono ?_)
  rintro e w1 ⟨v, rfl, ho, hb⟩
  obtain ⟨A2, c2, rfl, -⟩ := id ho
  have HO := Lib.hid ho
  have HB := Lib.hid hb
  have z1 := hb.size
  clear ho hb
  have hln := HLN.out
  have HT0 := Lib.hid (show TbO w1 w1.heap.size (.slice none 0 0) [] (mtT L 0) from TbO.nil _ _)
  go_wp2
  go_loopw [3, 11] (fun v y wr => ∃ (i : Nat) (vs : List Value), i ≤ L.length ∧ y = .int .i64 i ∧ TbO wr w1.heap.size v vs (mtT L i) ∧ Below w1.heap.size w1 wr) (fun _ y _ => L.length - (intOf y).toNat)
  case atStart => exact ⟨0, [], Nat.zero_le _, rfl, HT0.out, Below.refl _ _⟩
  case round =>
    obtain ⟨i, vs, hi1, rfl, ht, hb1⟩ := hrel
    have HT := Lib.hid ht
    have HB1 := Lib.hid hb1
    have z3 := hb1.size
    clear ht hb1
    by_cases hlt : i < L.length
    · have hii : (i : Int) < (L.length : Int) := by omega
      obtain ⟨g1, p1, e1, -, -, hc1, -⟩ := (HO.out.keep HB1.out (Nat.le_refl _)).cell (j := i) hlt
      simp only [Value.slice.injEq] at e1
      obtain ⟨rfl, -, -⟩ := e1
      have hsz := HSZ.out i
      have HSU := Lib.hid (mtT_succ L i)
      have hll : (mtT L i).length ≤ 1099511627776 := by rw [mtT_len]; omega
      generalize L.getD i E0 = s at *
      generalize mtT L i = T at *
      go_wp2_with fail
      (with_reducible refine (matchingOfI s _ (by omega)).mono ?_)
      rintro e w3 ⟨u, rfl, ho, hb⟩
      obtain ⟨A3, c3, rfl, -⟩ := id ho
      have HO3 := Lib.hid (ho.wide z3 (Nat.le_refl _))
      have HT3 := Lib.hid (HT.out.keep hb)
      have HB4 := Lib.hid (HB1.out.trans (hb.mono z3))
      have z4 := hb.size
      have zw : w1.heap.size ≤ w3.heap.size := by omega
      have HUA := Lib.hid ((HO3.out.keep ((Below.refl w3.heap.size w3).alloc (Nat.le_refl _) (.cells #[.slice A3 (matchingP s).length c3] 24)) (Nat.le_refl _)).wide (Nat.le_refl _) (show w3.heap.size ≤ (w3.alloc (.cells #[.slice A3 (matchingP s).length c3] 24)).heap.size by simp))
      clear ho hb
      go_wp2_with (at_builtin; go_must (refine wpAppTO rfl _ _ rfl w1.heap.size u3 vs _ rfl (HT3.out.alloc _) w3.heap.size _ (.slice A3 (matchingP s).length c3) _ rfl (cell_one _ _ _) HUA.out (by omega) (base_up zw) ?_); intro v' w' hown' hg')
      have HBN := Lib.hid ((HB4.out.alloc zw (.cells #[.slice A3 (matchingP s).length c3] 24)).grown hg' (base_up zw) (fun k hk => (HT3.out.own.lt k hk).1))
      go_roundw
      case rel => exact ⟨i + 1, _, by omega, by simp, by rw [HSU.out]; exact hown', HBN.out⟩
      case measure => simp [intOf]; omega
    · obtain rfl : i = L.length := by omega
      go_wp2
      go_ret
      exact ⟨_, vs, rfl, HT.out.lower z1, HB.out.trans (HB1.out.mono z1)⟩

set_option maxRecDepth 100000 in
set_option maxHeartbeats 1600000 in
theorem meanderPartnerI (A : Option Addr) (xs : List Int) (cap lo hi : Nat) (w : World) (hv : OwnI w lo hi (.slice A xs.length cap) xs) (hhi : hi ≤ w.heap.size) (hl : xs.length ≤ 1099511627776) :
    Calls Try.prog 46 #[.slice A xs.length cap] w (AnsIB (mpP xs) (mpOk xs) w) := by
  have HV := Lib.hid hv
  clear hv
  obtain ⟨H, hH⟩ : ∃ H : Nat, H = xs.length / 2 := ⟨_, rfl⟩
  have q1 : ((xs.length : Int)).tdiv 2 = (H : Int) := by rw [Int.tdiv_eq_ediv_of_nonneg (by omega)]; omega
  have q2 : (xs.length : Int) / 2 = (H : Int) := by omega
  have q3 : IntKind.i64.wrap (H : Int) = (H : Int) := IntWalk.i64_in _ (by omega)
  obtain ⟨L, hL⟩ : ∃ L, L = pathsP (H : Int) := ⟨_, rfl⟩
  have HF := Lib.hid (show mpF xs = L.find? (hitB xs) by unfold mpF; rw [hL, hH])
  have HPA := Lib.hid (fun W => matchingsOfI (H : Int) W)
  have HLN := Lib.hid (show L.length ≤ 4096 by rw [hL]; exact paths_len _)
  have HML := Lib.hid (mtT_len L L.length)
  have HMA := Lib.hid (fun i (h : i < L.length) => mtT_at L h)
  have HME := Lib.hid (fun A' s c' lo' hi' W (h : OwnI W lo hi (.slice A xs.length cap) xs) (h' : OwnI W lo' hi' (.slice A' (matchingP s).length c') (matchingP s)) (hh : hi ≤ W.heap.size) (hh' : hi' ≤ W.heap.size) => isMeanderI A A' xs (matchingP s) cap c' lo hi lo' hi' W h h' hh hh' hl (by have := matchingP_len s; omega))
  rw [← hL] at HPA
  clear hH hL
  go_enter Try.func46, Try.ntmps46
  go_wp2_with fail
  (with_reducible refine (HPA.out _).mono ?_)
  rintro e w2 ⟨v, vs, rfl, ht, hb⟩
  obtain ⟨A2, c2, rfl⟩ := ht.form
  rw [HML.out]
  have HT := Lib.hid ht
  have HB2 := Lib.hid hb
  have HV2 := Lib.hid (HV.out.keep hb hhi)
  have z2 := hb.size
  clear ht hb
  have hln := HLN.out
  go_wp2
  go_loopw [11] (fun y wr => ∃ i : Nat, i ≤ L.length ∧ y = .int .i64 i ∧ Below w2.heap.size w2 wr ∧ ∀ j, j < i → hitB xs (L.getD j E0) = false) (fun y _ => L.length - (intOf y).toNat)
  case atStart => exact ⟨0, Nat.zero_le _, rfl, Below.refl _ _, fun j h => absurd h (Nat.not_lt_zero _)⟩
  case round =>
    obtain ⟨i, hi1, rfl, hb, hno⟩ := hrel
    have HBW := Lib.hid hb
    have HNO := Lib.hid hno
    have z3 := hb.size
    clear hb hno
    by_cases hlt : i < L.length
    · have hii : (i : Int) < (L.length : Int) := by omega
      obtain ⟨o, c, e1, -, ho, hc⟩ := HT.out.cell (j := i) (by rw [HML.out]; exact hlt)
      simp only [Value.slice.injEq] at e1
      obtain ⟨rfl, -, -⟩ := e1
      have hc1 := (HBW.out.cell (p := ⟨o, i, none⟩) ho).trans hc
      have hrow := HT.out.row i (by rw [HML.out]; exact hlt)
      rw [HMA.out i hlt] at hrow
      have HHIT := Lib.hid (fun hy => find_hit hlt HNO.out hy)
      have HSTEP := Lib.hid (fun (hy : hitB xs (L.getD i E0) = false) => show ∀ j, j < i + 1 → hitB xs (L.getD j E0) = false from fun j hj => by
        by_cases ej : j = i
        · subst ej; exact hy
        · exact HNO.out j (by omega))
      have HEQ := Lib.hid (fun s => show hitB xs s = (lpP xs (matchingP s) == 1) from rfl)
      generalize L.getD i E0 = s at *
      generalize vs.getD i (.slice none 0 0) = u at *
      obtain ⟨A3, c3, rfl, -⟩ := id hrow
      have HO3 := Lib.hid (hrow.keep HBW.out (Nat.le_refl _))
      have HV3 := Lib.hid (HV2.out.keep HBW.out (by omega))
      clear hrow hc
      go_wp2_with fail
      (with_reducible refine (HME.out _ s _ _ _ _ HV3.out HO3.out (by omega) (by omega)).mono ?_)
      rintro e w4 ⟨rfl, hb⟩
      have HB4 := Lib.hid (HBW.out.trans (hb.mono (by omega)))
      have HO4 := Lib.hid (HO3.out.keep hb (by omega))
      have z5 := hb.size
      clear hb
      rcases hh : hitB xs s with _ | _
      · have HS2 := Lib.hid (HSTEP.out hh)
        rw [show (lpP xs (matchingP s) == 1) = false from (HEQ.out s).symm.trans hh]
        clear hh
        go_wp2
        exact ⟨⟨i + 1, by omega, by simp, HB4.out, HS2.out⟩, by simp [intOf]; omega⟩
      · have HP := Lib.hid (mp_some (HF.out.trans (HHIT.out hh)))
        rw [show (lpP xs (matchingP s) == 1) = true from (HEQ.out s).symm.trans hh]
        clear hh
        go_wp2
        go_ret2
        exact ⟨_, ret_ib rfl HP.out.1.symm, by rw [HP.out.2]; exact HO4.out.wide (Nat.le_refl _) (by omega), HB2.out.trans (HB4.out.mono (by omega))⟩
    · obtain rfl : i = L.length := by omega
      have HP := Lib.hid (mp_none (HF.out.trans (find_miss HNO.out)))
      go_wp2
      go_ret2
      exact ⟨_, ret_ib rfl HP.out.1.symm, by rw [HP.out.2]; exact ⟨_, _, rfl, .inl rfl⟩, HB2.out.trans (HBW.out.mono (by omega))⟩
end SPart24

section SLawPlain24
open Go.ChangeShapes Go.WideShapes Go.ChangeAt Go.RowKit
set_option linter.unusedVariables false

set_option maxRecDepth 100000 in
set_option maxHeartbeats 3200000 in
theorem lawMeanderPartner (v0 : Value) (xs0 : List Int) (ys : List Int) (R1 : Bool) (w : World) (hv0 : ArgI w v0 xs0) (mp0 : xs0.length ≤ 9223372036854775807) (hys : ys.length ≤ 1048576)
    (hS : xs0.length ≤ 1048576 → ∀ u0 lo0 hi0, ∀ w, OwnI w lo0 hi0 (.slice u0 xs0.length xs0.length) xs0 → hi0 ≤ w.heap.size → Calls Try.prog 44 #[(.slice u0 xs0.length xs0.length)] w fun e w' => ∃ v, e = .returned (.tuple #[v, .bool R1]) ∧ OwnI w' w.heap.size w'.heap.size v ys ∧ Below w.heap.size w w')
    (hI : xs0.length ≤ 1048576 → ∀ u0 lo0 hi0, ∀ w, OwnI w lo0 hi0 (.slice u0 xs0.length xs0.length) xs0 → hi0 ≤ w.heap.size → Calls Try.prog 46 #[(.slice u0 xs0.length xs0.length)] w fun e w' => ∃ v, e = .returned (.tuple #[v, .bool R1]) ∧ OwnI w' w.heap.size w'.heap.size v ys ∧ Below w.heap.size w w') :
    Calls Try.prog 6 #[v0] w fun e w' => e = .returned (.bool true) ∧ Below w.heap.size w w' := by
  obtain ⟨Aa0, ca0, rfl, -⟩ := id hv0
  by_cases hbig0 : 1048576 < xs0.length
  · have hbi0 : (1048576 : Int) < (xs0.length : Int) := by omega
    clear hS hI hv0
    go_enter Try.func6, Try.ntmps6
    go_wp2
    go_ret
    exact ⟨rfl, Below.refl _ _⟩
  have hsm0 : xs0.length ≤ 1048576 := by omega
  have HS := Lib.hid (hS hsm0)
  have HI := Lib.hid (hI hsm0)
  have HV0 := Lib.hid hv0
  clear hS hI hv0
  have hr1 : (R1 != R1) = false := by simp
  have hq1 : (R1 == R1) = true := by simp
  have Hw0 := Lib.hid (Below.refl w.heap.size w)
  go_enter Try.func6, Try.ntmps6
  go_wp2_with fail
  (with_reducible refine (toIntC _ xs0 _ (HV0.out.keep Hw0.out) hsm0).mono ?_)
  rintro e w1 ⟨A1, rfl, ho, hb⟩
  have z1 := hb.size
  have T0 := Lib.hid ho
  have Hw1 := Lib.hid (Hw0.out.trans (hb.mono Hw0.out.size))
  clear hb ho
  go_wp2_with fail
  (with_reducible refine (HS.out _ _ _ _ T0.out (by omega)).mono ?_)
  rintro e w2 ⟨v2, rfl, ho, hb⟩
  have z2 := hb.size
  obtain ⟨A2, c2, rfl, -⟩ := id ho
  have W0 := Lib.hid ho
  have T0_2 := Lib.hid (T0.out.keep hb (by omega))
  have Hw2 := Lib.hid (Hw1.out.trans (hb.mono Hw1.out.size))
  clear hb ho
  go_wp2_with fail
  (with_reducible refine (toIntC _ xs0 _ (HV0.out.keep Hw2.out) hsm0).mono ?_)
  rintro e w3 ⟨A3, rfl, ho, hb⟩
  have z3 := hb.size
  have X0 := Lib.hid ho
  have W0_3 := Lib.hid (W0.out.keep hb (by omega))
  have Hw3 := Lib.hid (Hw2.out.trans (hb.mono Hw2.out.size))
  clear hb ho
  go_wp2_with fail
  (with_reducible refine (HI.out _ _ _ _ X0.out (by omega)).mono ?_)
  rintro e w4 ⟨v4, rfl, ho, hb⟩
  have z4 := hb.size
  obtain ⟨A4, c4, rfl, -⟩ := id ho
  have G0 := Lib.hid ho
  have W0_4 := Lib.hid (W0_3.out.keep hb (by omega))
  have X0_4 := Lib.hid (X0.out.keep hb (by omega))
  have Hw4 := Lib.hid (Hw3.out.trans (hb.mono Hw3.out.size))
  clear hb ho
  go_wp2_with fail
  (with_reducible refine (eqI_same _ _ _ _ _ _ ys _ G0.out W0_4.out (by omega)).mono ?_)
  rintro e w5 ⟨rfl, hb⟩
  have z5 := hb.size
  have W0_5 := Lib.hid (W0_4.out.keep hb (by omega))
  have X0_5 := Lib.hid (X0_4.out.keep hb (by omega))
  have G0_5 := Lib.hid (G0.out.keep hb (by omega))
  have Hw5 := Lib.hid (Hw4.out.trans (hb.mono Hw4.out.size))
  clear hb
  go_wp2_with fail
  (with_reducible refine (toIntC _ xs0 _ (HV0.out.keep Hw5.out) hsm0).mono ?_)
  rintro e w6 ⟨A6, rfl, ho, hb⟩
  have z6 := hb.size
  have T0 := Lib.hid ho
  have W0_6 := Lib.hid (W0_5.out.keep hb (by omega))
  have X0_6 := Lib.hid (X0_5.out.keep hb (by omega))
  have G0_6 := Lib.hid (G0_5.out.keep hb (by omega))
  have Hw6 := Lib.hid (Hw5.out.trans (hb.mono Hw5.out.size))
  clear hb ho
  go_wp2_with fail
  (with_reducible refine (eqI_same _ _ _ _ _ _ xs0 _ X0_6.out T0.out (by omega)).mono ?_)
  rintro e w7 ⟨rfl, hb⟩
  have z7 := hb.size
  have W0_7 := Lib.hid (W0_6.out.keep hb (by omega))
  have X0_7 := Lib.hid (X0_6.out.keep hb (by omega))
  have G0_7 := Lib.hid (G0_6.out.keep hb (by omega))
  have T0_7 := Lib.hid (T0.out.keep hb (by omega))
  have Hw7 := Lib.hid (Hw6.out.trans (hb.mono Hw6.out.size))
  clear hb
  go_wp2_with fail
  (with_reducible refine (markO _ _ _ xs0 1 _ X0_7.out (by omega) (by omega) (by omega)).mono ?_)
  rintro e w8 ⟨rfl, ho, hb⟩
  have z8 := hb.size
  have X0_m := Lib.hid ho
  have W0_8 := Lib.hid (W0_7.out.apart hb (by omega))
  have G0_8 := Lib.hid (G0_7.out.apart hb (by omega))
  have Hw8 := Lib.hid (Hw7.out.trans (hb.below (by omega)))
  clear hb ho
  go_wp2_with fail
  (with_reducible refine (eqI_same _ _ _ _ _ _ ys _ G0_8.out W0_8.out (by omega)).mono ?_)
  rintro e w9 ⟨rfl, hb⟩
  have z9 := hb.size
  have W0_9 := Lib.hid (W0_8.out.keep hb (by omega))
  have G0_9 := Lib.hid (G0_8.out.keep hb (by omega))
  have Hw9 := Lib.hid (Hw8.out.trans (hb.mono Hw8.out.size))
  clear hb
  go_wp2_with fail
  (with_reducible refine (markO _ _ _ ys 1 _ G0_9.out (by omega) (by omega) (by omega)).mono ?_)
  rintro e w10 ⟨rfl, ho, hb⟩
  have z10 := hb.size
  have G0_m := Lib.hid ho
  have W0_10 := Lib.hid (W0_9.out.apart hb (by omega))
  have Hw10 := Lib.hid (Hw9.out.trans (hb.below (by omega)))
  clear hb ho
  have e1 : (1 : Int) + (ys.length : Int) = (1 : Int) + (ys.length : Int) := rfl
  go_wp2_with fail
  (with_reducible refine (heldI _ _ _ ys.length 1 _ G0_m.out (by omega) (by omega) (by omega)).mono ?_)
  rintro e w' ⟨rfl, hweq⟩
  subst hweq
  go_wp2_with fail
  (with_reducible refine (toIntC _ xs0 _ (HV0.out.keep Hw10.out) hsm0).mono ?_)
  rintro e w12 ⟨A12, rfl, ho, hb⟩
  have z12 := hb.size
  have T0 := Lib.hid ho
  have W0_12 := Lib.hid (W0_10.out.keep hb (by omega))
  have G0_12 := Lib.hid (G0_m.out.keep hb (by omega))
  have Hw12 := Lib.hid (Hw10.out.trans (hb.mono Hw10.out.size))
  clear hb ho
  go_wp2_with fail
  (with_reducible refine (HI.out _ _ _ _ T0.out (by omega)).mono ?_)
  rintro e w13 ⟨v13, rfl, ho, hb⟩
  have z13 := hb.size
  obtain ⟨A13, c13, rfl, -⟩ := id ho
  have H0 := Lib.hid ho
  have W0_13 := Lib.hid (W0_12.out.keep hb (by omega))
  have G0_13 := Lib.hid (G0_12.out.keep hb (by omega))
  have T0_13 := Lib.hid (T0.out.keep hb (by omega))
  have Hw13 := Lib.hid (Hw12.out.trans (hb.mono Hw12.out.size))
  clear hb ho
  go_wp2_with fail
  (with_reducible refine (eqI_same _ _ _ _ _ _ ys _ H0.out W0_13.out (by omega)).mono ?_)
  rintro e w14 ⟨rfl, hb⟩
  have z14 := hb.size
  have W0_14 := Lib.hid (W0_13.out.keep hb (by omega))
  have G0_14 := Lib.hid (G0_13.out.keep hb (by omega))
  have H0_14 := Lib.hid (H0.out.keep hb (by omega))
  have Hw14 := Lib.hid (Hw13.out.trans (hb.mono Hw13.out.size))
  clear hb
  go_wp2_with fail
  (with_reducible refine (heldI _ _ _ ys.length 1 _ G0_14.out (by omega) (by omega) (by omega)).mono ?_)
  rintro e w' ⟨rfl, hweq⟩
  subst hweq
  go_wp2
  go_ret
  exact ⟨rfl, Hw14.out⟩
end SLawPlain24

end Go.Proofs.Ytknojbcpjjhegaa
