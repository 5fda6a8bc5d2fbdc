/- The program's PathOfPartition. -/
import Derived.Test.YtdnljgoaflggeaaFact8P
import Derived.Test.YtdnljgoaflggeaaFact8
import Derived.Test.YtdnljgoaflggeaaRep
import Derived.Test.YtdnljgoaflggeaaSpec2G
import Derived.BigQuiet
namespace Go.Proofs.Ytdnljgoaflggeaa
open Go.ChangeShapes Go.WideShapes Go.ChangeAt Go.RowKit
set_option linter.unusedVariables false

theorem bldAtKeep8 {T e : TypeId} {B b : Nat} {p : Value} {bs : List Value} {w w' : World} (h : Lib.BuilderAtF T e B b p bs w) (hb : Below w.heap.size w w') : Lib.BuilderAtF T e B b p bs w' := by
  obtain ⟨h1, v, h2, h3, h4⟩ := h
  have hlt : ∀ {g : Nat} {o : Obj}, w.heap[g]? = some o → w'.heap[g]? = some o := fun hg => (hb.block _ (Array.getElem?_eq_some_iff.1 hg).1).trans hg
  refine ⟨h1, v, hlt h2, ⟨h3.1, ?_⟩, h4⟩
  rcases h3.2 with h | ⟨g, cap, cur, fz, a, b', c, d⟩
  · exact .inl h
  · exact .inr ⟨g, cap, cur, fz, a, b', hlt c, d⟩
theorem bldKeep8 {T e : TypeId} {B b : Nat} {bs : List Value} {w w' : World} (h : Lib.IsBuilderF T e B b bs w) (hb : Below w.heap.size w w') : Lib.IsBuilderF T e B b bs w' :=
  h.elim (fun h => .inl (bldAtKeep8 h hb)) (fun h => .inr (bldAtKeep8 h hb))
theorem repS_list8 (c : UInt8) (k : Nat) : (repS c k).data.toList = List.replicate k c := by
  show (Lib.repeatL [c] k).toArray.toList = _
  have := Lib.repeatL_replicate c 1 k
  rw [show List.replicate 1 c = [c] from rfl, Nat.mul_one] at this
  rw [this]
theorem repS_size8 (c : UInt8) (k : Nat) : (repS c k).size = k := by
  show (Lib.repeatL [c] k).toArray.size = k
  rw [List.size_toArray, Lib.repeatL_length]; simp

set_option maxRecDepth 100000 in
set_option maxHeartbeats 3200000 in
theorem pathOfPartitionI (A : Option Addr) (xs : List Int) (cap lo hi : Nat) (w : World) (hv : OwnI w lo hi (.slice A xs.length cap) xs) (hhi : hi ≤ w.heap.size) (hwf : ∀ y ∈ xs, (Lit.int .i64 y).wf = true) :
    Calls Try.prog 13 #[.slice A xs.length cap] w fun e w' => e = .returned (.tuple #[.string (popa xs), .bool (nonB xs)]) ∧ Below w.heap.size w w' := by
  have HN := Lib.hid (isNoncrossingI A xs cap lo hi w hv hhi hwf)
  have HV := Lib.hid hv
  have HBL := Lib.hid (fun w (h : OwnI w lo hi (.slice A xs.length cap) xs) (hh : hi ≤ w.heap.size) => blocksOfI A xs cap lo hi w h hh hwf)
  clear hv
  rcases hn : nonB xs with _ | _
  · have HP := Lib.hid (popa_no hn)
    rw [hn] at HN
    clear hn
    go_enter Try.func13, Try.ntmps13
    go_wp2_with fail
    (with_reducible refine HN.out.mono ?_)
    rintro e w' ⟨rfl, hb⟩
    go_wp2
    go_ret2
    exact ⟨ret_sb HP.out.symm rfl, hb⟩
  · have HP := Lib.hid (popa_yes hn)
    have hp := non_prt hn
    have h8 := (prt_yes hp).1
    have HIN := Lib.hid (fun i hi => blk_in hp (i := i) hi)
    have HRB := Lib.hid (fun i hi => rowOf_bd hp (i := i) hi)
    have HLN := Lib.hid (fun i hi => ppaL_len hp i hi)
    have HRO := Lib.hid (fun i => show rowOf xs i = (blP xs).getD (xs.getD i 0).toNat [] from rfl)
    rw [hn] at HN
    clear hn hp
    generalize blP xs = ls at *
    go_enter Try.func13, Try.ntmps13
    go_wp2_with fail
    (with_reducible refine HN.out.mono ?_)
    rintro e w1 ⟨rfl, hb⟩
    have z1 := hb.size
    have HB1 := Lib.hid hb
    have HV1 := Lib.hid (HV.out.keep hb hhi)
    clear hb
    go_wp2_with fail
    (with_reducible refine (HBL.out _ HV1.out (by omega)).mono ?_)
    rintro e w2 ⟨v, vs, rfl, htb, hb2⟩
    have z2 := hb2.size
    obtain ⟨AT, cT, rfl⟩ := htb.form
    have HTB := Lib.hid (OwnT.of htb)
    have HV2 := Lib.hid (HV1.out.keep hb2 (by omega))
    have HB2 := Lib.hid (HB1.out.trans (hb2.mono z1))
    clear htb hb2
    go_wp2
    go_loopw [16] (fun x wr => ∃ i : Nat, i ≤ xs.length ∧ x = .int .i64 i ∧ Lib.IsBuilderF 41 5 w2.heap.size w2.heap.size (Lib.byteCells (ppaL xs i)) wr ∧ w2.heap.size ≤ wr.heap.size ∧ Below w2.heap.size w2 wr) (fun x _ => xs.length - (intOf x).toNat)
    case atStart => exact ⟨0, Nat.zero_le _, rfl, Lib.IsBuilderF.of (Lib.fresh_isBuilder 41 5 w2), by simp, (Below.refl _ _).alloc (Nat.le_refl _) _⟩
    case round =>
      obtain ⟨i, hi1, rfl, hbd, hsz, hb⟩ := hrel
      have HBD := Lib.hid hbd
      have HB := Lib.hid hb
      clear hbd hb
      have hpl := HLN.out i hi1
      by_cases hlt : i < xs.length
      · obtain ⟨g1, p1, e1, -, -, hc1, -⟩ := (HV2.out.keep HB.out (by omega)).cell hlt
        simp only [Value.slice.injEq] at e1
        obtain ⟨rfl, -, rfl⟩ := e1
        have hii : (i : Int) < (xs.length : Int) := by omega
        obtain ⟨j0, j1⟩ := HIN.out i hlt
        obtain ⟨r1, r8⟩ := HRB.out i hlt
        have HSU := Lib.hid (show ppaL xs (i + 1) = (ppaL xs i ++ [117]) ++ ppaS xs i from rfl)
        have HSS := Lib.hid (show ppaS xs i = if (rowOf xs i).getD ((rowOf xs i).length - 1) 0 = (i : Int) then List.replicate (rowOf xs i).length 100 else [] from rfl)
        obtain ⟨j, hj⟩ : ∃ j : Nat, xs.getD i 0 = j := ⟨(xs.getD i 0).toNat, by omega⟩
        have hrow := HRO.out i
        rw [hj, Int.toNat_natCast] at hrow j1
        rw [hj] at hc1
        have hji : (j : Int) < (ls.length : Int) := by omega
        generalize hW : ppaL xs i = W at *
        clear hW
        go_wp2_with fail
        refine (writeByte w2.heap.size w2.heap.size _ 117 _ HBD.out (by rw [Lib.byteCells_length]; omega) hsz).mono ?_
        rintro e w5 ⟨rfl, h1, b1, -⟩
        have z5 := b1.size
        have HB5 := Lib.hid (HB.out.trans b1)
        have HBD5 := Lib.hid (show Lib.IsBuilderF 41 5 w2.heap.size w2.heap.size (Lib.byteCells (W ++ [117])) w5 by rw [Lib.byteCells_append]; exact Or.inr h1)
        obtain ⟨o1, rv, hA, -, -, hct, hr1⟩ := (HTB.out.keep HB5.out (Nat.le_refl _)).cell j1
        subst hA
        rw [← hrow] at hr1
        clear hrow hj j0 h1 b1 HBD HB
        obtain ⟨A6, c6, rfl, -⟩ := id hr1
        generalize rowOf xs i = row at *
        obtain ⟨l, hl⟩ : ∃ l, l = row.length - 1 := ⟨_, rfl⟩
        obtain ⟨g2, p2, e2, -, -, hc2, -⟩ := hr1.cell (j := l) (by omega)
        simp only [Value.slice.injEq] at e2
        obtain ⟨rfl, -, rfl⟩ := e2
        rw [← hl] at HSS
        have hli : (row.length : Int) - 1 = (l : Int) := by omega
        have hll : (l : Int) < (row.length : Int) := by omega
        have HL := Lib.hid hl
        have hVl : (W ++ [117]).length ≤ 80 := by rw [List.length_append, List.length_singleton]; omega
        clear hl hr1
        generalize row.getD l 0 = z at *
        generalize W ++ [117] = V at *
        by_cases ez : z = (i : Int)
        · have ezb : ((i : Int) == z) = true := by simp [ez]
          have HE := Lib.hid (HSU.out.trans (by rw [HSS.out, if_pos ez]))
          have HRP := Lib.hid (fun w => repD row.length w r8)
          clear ez HSU HSS
          go_wp2_with fail
          (with_reducible refine (HRP.out _).mono ?_)
          rintro e w6 ⟨rfl, hb6⟩
          have z6 := hb6.size
          have HBD6 := Lib.hid (bldKeep8 HBD5.out hb6)
          have HB6 := Lib.hid (HB5.out.trans (hb6.mono (by omega)))
          clear hb6
          go_wp2_with fail
          refine (writeString w2.heap.size w2.heap.size _ (repS 100 row.length) _ HBD6.out (by rw [Lib.byteCells_length, repS_size8]; omega) (by omega)).mono ?_
          rintro e w7 ⟨rfl, h1, b1, -⟩
          have z7 := b1.size
          go_wp2
          refine ⟨⟨i + 1, by omega, by simp, ?_, by omega, HB6.out.trans b1⟩, by simp [intOf]; omega⟩
          rw [HE.out, Lib.byteCells_append]
          rw [Lib.strCells_eq, repS_list8] at h1
          exact Or.inr h1
        · have ezb : ((i : Int) == z) = false := beq_eq_false_iff_ne.2 (fun h => ez h.symm)
          have HE := Lib.hid (HSU.out.trans (by rw [HSS.out, if_neg ez, List.append_nil]))
          clear ez HSU HSS
          go_wp2
          refine ⟨⟨i + 1, by omega, by simp, by rw [HE.out]; exact HBD5.out, by omega, HB5.out⟩, by simp [intOf]; omega⟩
      · obtain rfl : i = xs.length := by omega
        go_wp2_with fail
        refine (Try.Builder_String_any_k w2.heap.size w2.heap.size (ppaL xs xs.length) _ HBD.out hsz).mono ?_
        rintro e w5 ⟨rfl, -, b1, -⟩
        go_wp2
        go_ret2
        exact ⟨ret_sb HP.out.symm rfl, HB2.out.trans ((HB.out.trans b1).mono (by omega))⟩

end Go.Proofs.Ytdnljgoaflggeaa
