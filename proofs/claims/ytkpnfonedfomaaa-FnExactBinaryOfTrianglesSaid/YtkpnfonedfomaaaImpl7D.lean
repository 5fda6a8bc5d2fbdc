/- The program's polygons: isCutWell. -/
import Derived.Test.YtkpnfonedfomaaaImpl7C
namespace Go.Proofs.Ytkpnfonedfomaaa
open Go.ChangeShapes Go.WideShapes Go.ChangeAt Go.RowKit
set_option linter.unusedVariables false

theorem flF_even (cs : List Ch) (i : Nat) : flF cs (i * 2) = (cs.getD i (0, 0)).1 := by unfold flF; rw [if_pos (by omega), show i * 2 / 2 = i by omega]
theorem flF_odd (cs : List Ch) (i : Nat) : flF cs (i * 2 + 1) = (cs.getD i (0, 0)).2 := by unfold flF; rw [if_neg (by omega), show (i * 2 + 1) / 2 = i by omega]
theorem Pg.chord {W : World} {g : Nat} {n : Int} {k : Int} {cs : List Ch} (h : Pg W g n k (flF cs)) {i : Nat} (hi : i < 7) :
    W.cell? ⟨g, 2 + i * 2, none⟩ = some (.int .i64 (cs.getD i (0, 0)).1) ∧ W.cell? ⟨g, 2 + i * 2 + 1, none⟩ = some (.int .i64 (cs.getD i (0, 0)).2) := by
  rw [← flF_even, ← flF_odd]
  exact ⟨h.cs (i * 2) (by omega), h.cs (i * 2 + 1) (by omega)⟩
theorem cut_yes {n : Int} {cs : List Ch} (h : ∀ j, j < cs.length → okP n cs j) : cutB n cs = true := decide_eq_true h
theorem cut_no {n : Int} {cs : List Ch} {i : Nat} (hi : i < cs.length) (h : ¬ okP n cs i) : cutB n cs = false := decide_eq_false fun h2 => h (h2 i hi)
def bdC (cs : List Ch) : Prop := ∀ i, (-100 ≤ (cs.getD i (0, 0)).1 ∧ (cs.getD i (0, 0)).1 ≤ 100) ∧ (-100 ≤ (cs.getD i (0, 0)).2 ∧ (cs.getD i (0, 0)).2 ≤ 100)

set_option maxRecDepth 100000 in
set_option maxHeartbeats 6400000 in
theorem isCutWellI (n : Int) (cs : List Ch) (w : World) (hl : cs.length ≤ 7) (hn : 0 ≤ n ∧ n ≤ 100) (hbd : bdC cs) :
    Calls Try.prog 54 #[pgV n cs.length (flF cs)] w fun e w' => e = .returned (.bool (cutB n cs)) ∧ Below w.heap.size w w' := by
  have HSD := Lib.hid (fun a b ha hb W => isSideI n cs.length a b (flF cs) W hn ha hb)
  have HCH := Lib.hid (fun W => chordsB n cs W hl)
  have HBD := Lib.hid hbd
  have HP0 := Lib.hid (Pg.start w n cs.length (flF cs) 45)
  have hb0 : Below w.heap.size w (w.alloc (.cells (pgA n cs.length (flF cs)) 45)) := (Below.refl _ _).alloc (Nat.le_refl _) _
  have HB0 := Lib.hid hb0
  have hs0 : (w.alloc (.cells (pgA n cs.length (flF cs)) 45)).heap.size = w.heap.size + 1 := by simp
  clear hbd hb0
  go_enter Try.func54, Try.ntmps54
  go_wp2_with fail
  (with_reducible refine (HCH.out _).mono ?_)
  rintro e w1 ⟨rfl, hb1, hpg1⟩
  have z1 := hb1.size
  rw [hs0] at hpg1 z1
  have HC1 := Lib.hid hpg1
  have HP1 := Lib.hid (HP0.out.keep hb1 (by rw [hs0]; omega))
  have HG1 := Lib.hid (HB0.out.trans (hb1.mono (by rw [hs0]; omega)))
  rw [hs0]
  have hlt1 := hpg1.lt
  clear hb1 hpg1 HP0 HB0
  go_wp2
  go_loopw [10] (fun y wr => ∃ i : Nat, i ≤ cs.length ∧ y = .int .i64 i ∧ Below w1.heap.size w1 wr ∧ ∀ j, j < i → okP n cs j) (fun y _ => cs.length - (intOf y).toNat)
  case atStart => exact ⟨0, Nat.zero_le _, rfl, Below.refl _ _, fun j hj => absurd hj (Nat.not_lt_zero _)⟩
  case round =>
    obtain ⟨i, hi, rfl, hb, hok⟩ := hrel
    obtain ⟨wo, rfl⟩ : ∃ wo, wo = wr := ⟨_, rfl⟩
    have HB := Lib.hid hb
    have HOK := Lib.hid hok
    have zo := hb.size
    clear hb hok
    by_cases hlt : i < cs.length
    · have hii : (i : Int) < (cs.length : Int) := by omega
      have hi7 : (i : Int) ≤ 7 := by omega
      obtain ⟨hx0, hx1⟩ := (HC1.out.keep HB.out hlt1).chord (i := i) (by omega)
      obtain ⟨bd1, bd2⟩ := HBD.out i
      have HOI := Lib.hid (show okP n cs i ↔ sideB n (cs.getD i (0, 0)) = false ∧ ∀ k, k < i → cs.getD i (0, 0) ≠ cs.getD k (0, 0) ∧ crs (cs.getD i (0, 0)) (cs.getD k (0, 0)) = false from Iff.rfl)
      generalize cs.getD i (0, 0) = x at *
      obtain ⟨a, b⟩ := x
      simp only [] at hx0 hx1 bd1 bd2
      have HBA : Below wo.heap.size wo (wo.alloc (.cells #[.int .i64 a, .int .i64 b] 42)) := (Below.refl _ _).alloc (Nat.le_refl _) _
      have zA : (wo.alloc (.cells #[.int .i64 a, .int .i64 b] 42)).heap.size = wo.heap.size + 1 := by simp
      have HPA := Lib.hid ((HP1.out.keep HB.out (by omega)).keep HBA (by omega))
      obtain ⟨p0, p1, p2, p3, p4, p5, p6, p7, p8, p9, p10, p11, p12, p13, p14, p15⟩ := HPA.out.all
      have HQA0 : (wo.alloc (.cells #[.int .i64 a, .int .i64 b] 42)).cell? ⟨wo.heap.size, 0, none⟩ = some (.int .i64 a) := by rw [World.cell?_alloc_at _ _ _ _ rfl]; rfl
      have HQA1 : (wo.alloc (.cells #[.int .i64 a, .int .i64 b] 42)).cell? ⟨wo.heap.size, 1, none⟩ = some (.int .i64 b) := by rw [World.cell?_alloc_at _ _ _ _ rfl]; rfl
      have HQA := Lib.hid (And.intro HQA0 HQA1)
      have HBA' := Lib.hid HBA
      have HSI := Lib.hid (HSD.out a b bd1 bd2)
      clear HBA HQA0 HQA1 bd1 bd2
      rcases hsd : sideB n (a, b) with _ | _
      · rw [hsd] at HSI HOI
        have HOI2 := Lib.hid (show (∀ k, k < i → (a, b) ≠ cs.getD k (0, 0) ∧ crs (a, b) (cs.getD k (0, 0)) = false) → okP n cs i from fun h => HOI.out.2 ⟨rfl, h⟩)
        have HOI3 := Lib.hid (show okP n cs i → ∀ k, k < i → (a, b) ≠ cs.getD k (0, 0) ∧ crs (a, b) (cs.getD k (0, 0)) = false from fun h => (HOI.out.1 h).2)
        clear hsd HOI
        go_wp2_with fail
        (with_reducible refine (HSI.out _).mono ?_)
        rintro e w3 ⟨rfl, hb3⟩
        have z3 := hb3.size
        rw [zA] at hb3 z3
        clear p0 p1 p2 p3 p4 p5 p6 p7 p8 p9 p10 p11 p12 p13 p14 p15 hx0 hx1
        have HP3 := Lib.hid (HPA.out.keep hb3 (by omega))
        have q0 := (hb3.cell (p := ⟨wo.heap.size, 0, none⟩) (Nat.lt_succ_self _)).trans HQA.out.1
        have q1 := (hb3.cell (p := ⟨wo.heap.size, 1, none⟩) (Nat.lt_succ_self _)).trans HQA.out.2
        have HQ3 := Lib.hid (And.intro q0 q1)
        have HB3 := Lib.hid (HB.out.trans ((HBA'.out.trans (hb3.mono (by omega))).mono zo))
        clear hb3 HPA HQA HBA' q0 q1
        obtain ⟨p0, p1, p2, p3, p4, p5, p6, p7, p8, p9, p10, p11, p12, p13, p14, p15⟩ := HP3.out.all
        go_wp2_with fail
        (with_reducible refine (HCH.out _).mono ?_)
        rintro e w4 ⟨rfl, hb4, hpg4⟩
        clear p0 p1 p2 p3 p4 p5 p6 p7 p8 p9 p10 p11 p12 p13 p14 p15
        have z4 := hb4.size
        have hlt4 := hpg4.lt
        have HC4 := Lib.hid hpg4
        have q0 := (hb4.cell (p := ⟨wo.heap.size, 0, none⟩) (by show wo.heap.size < _; omega)).trans HQ3.out.1
        have q1 := (hb4.cell (p := ⟨wo.heap.size, 1, none⟩) (by show wo.heap.size < _; omega)).trans HQ3.out.2
        have HQ4 := Lib.hid (And.intro q0 q1)
        have HB4 := Lib.hid (HB3.out.trans (hb4.mono (by omega)))
        clear hb4 hpg4 HQ3 q0 q1 HB3 HP3
        go_wp2
        go_loopw [23] (fun y w2 => ∃ k : Nat, k ≤ i ∧ y = .int .i64 k ∧ Below w4.heap.size w4 w2 ∧ ∀ j, j < k → (a, b) ≠ cs.getD j (0, 0) ∧ crs (a, b) (cs.getD j (0, 0)) = false) (fun y _ => i - (intOf y).toNat)
        case atStart => exact ⟨0, Nat.zero_le _, rfl, Below.refl _ _, fun j hj => absurd hj (Nat.not_lt_zero _)⟩
        case round =>
          obtain ⟨k, hk, rfl, hb, hno⟩ := hrel
          have HBK := Lib.hid hb
          have HNO := Lib.hid hno
          have zk := hb.size
          clear hb hno
          by_cases hki : k < i
          · have hkk : (k : Int) < (i : Int) := by omega
            obtain ⟨hy0, hy1⟩ := (HC4.out.keep HBK.out hlt4).chord (i := k) (by omega)
            have HN2 := Lib.hid (show ((a, b) ≠ cs.getD k (0, 0) ∧ crs (a, b) (cs.getD k (0, 0)) = false) → ∀ j, j < k + 1 → (a, b) ≠ cs.getD j (0, 0) ∧ crs (a, b) (cs.getD j (0, 0)) = false from fun h j hj => by
              by_cases e : j < k
              · exact HNO.out j e
              · obtain rfl : j = k := by omega
                exact h)
            have HF := Lib.hid (show ¬ ((a, b) ≠ cs.getD k (0, 0) ∧ crs (a, b) (cs.getD k (0, 0)) = false) → cutB n cs = false from fun h => cut_no hlt fun h2 => h (HOI3.out h2 k hki))
            generalize cs.getD k (0, 0) = y at *
            obtain ⟨c, d⟩ := y
            simp only [] at hy0 hy1
            have q0 := ((World.cell?_alloc_lt wr (.cells #[.int .i64 c, .int .i64 d] 42) ⟨wo.heap.size, 0, none⟩ (by show wo.heap.size < _; omega)).trans (HBK.out.cell (p := ⟨wo.heap.size, 0, none⟩) (by show wo.heap.size < _; omega))).trans HQ4.out.1
            have q1 := ((World.cell?_alloc_lt wr (.cells #[.int .i64 c, .int .i64 d] 42) ⟨wo.heap.size, 1, none⟩ (by show wo.heap.size < _; omega)).trans (HBK.out.cell (p := ⟨wo.heap.size, 1, none⟩) (by show wo.heap.size < _; omega))).trans HQ4.out.2
            have he := fun W => eqlC a b c d W
            have HCR := Lib.hid (fun W => crossesI (a, b) (c, d) W)
            have HBL := Lib.hid ((HBK.out.alloc zk (.cells #[.int .i64 c, .int .i64 d] 42)))
            have zL : (wr.alloc (.cells #[.int .i64 c, .int .i64 d] 42)).heap.size = wr.heap.size + 1 := by simp
            rcases heq : (a == c && b == d) with _ | _
            · have hne : (a, b) ≠ (c, d) := fun h => by
                rw [Prod.mk.injEq] at h
                rw [h.1, h.2] at heq
                simp at heq
              rcases hcr : crs (a, b) (c, d) with _ | _
              · have HN3 := Lib.hid (HN2.out ⟨hne, hcr⟩)
                rw [hcr] at HCR
                clear hne hcr HN2 HF
                go_wp2_with fail
                (with_reducible refine (HCR.out _).mono ?_)
                rintro e w5 ⟨rfl, hb5⟩
                have z5 := hb5.size
                rw [zL] at hb5 z5
                have HB5 := Lib.hid (HBL.out.trans (hb5.mono (by omega)))
                clear hb5
                go_wp2
                exact ⟨⟨k + 1, by omega, by simp, HB5.out, HN3.out⟩, by simp [intOf]; omega⟩
              · have HF2 := Lib.hid (HF.out fun h => by rw [hcr] at h; simp at h)
                rw [hcr] at HCR
                clear hne hcr HN2 HF
                go_wp2_with fail
                (with_reducible refine (HCR.out _).mono ?_)
                rintro e w5 ⟨rfl, hb5⟩
                have z5 := hb5.size
                rw [zL] at hb5 z5
                have HB5 := Lib.hid (HBL.out.trans (hb5.mono (by omega)))
                clear hb5
                go_wp2
                go_ret
                exact ⟨ret_bool HF2.out.symm, HG1.out.trans ((HB4.out.trans (HB5.out.mono (by omega))).mono (by omega))⟩
            · have HF2 := Lib.hid (HF.out fun h => by
                simp only [Bool.and_eq_true, beq_iff_eq] at heq
                exact h.1 (by rw [heq.1, heq.2]))
              clear HN2 HF HCR
              go_wp2
              go_ret
              exact ⟨ret_bool HF2.out.symm, HG1.out.trans ((HB4.out.trans (HBL.out.mono (by omega))).mono (by omega))⟩
          · obtain rfl : k = i := by omega
            have hkk : ¬ (k : Int) < (k : Int) := by omega
            have HON := Lib.hid (show ∀ j, j < k + 1 → okP n cs j from fun j hj => by
              by_cases e : j < k
              · exact HOK.out j e
              · obtain rfl : j = k := by omega
                exact HOI2.out HNO.out)
            go_wp2
            go_roundw
            case rel => exact ⟨k + 1, by omega, by simp, HB4.out.trans (HBK.out.mono (by omega)), HON.out⟩
            case measure => simp [intOf]; omega
      · rw [hsd] at HSI HOI
        have HF2 := Lib.hid (cut_no hlt fun h => by have := (HOI.out.1 h).1; cases this)
        clear hsd HOI
        go_wp2_with fail
        (with_reducible refine (HSI.out _).mono ?_)
        rintro e w3 ⟨rfl, hb3⟩
        have HB3 := Lib.hid (HB.out.trans ((HBA'.out.trans (hb3.mono (by omega))).mono zo))
        clear hb3
        go_wp2
        go_ret
        exact ⟨ret_bool HF2.out.symm, HG1.out.trans (HB3.out.mono (by omega))⟩
    · obtain rfl : i = cs.length := by omega
      have hii : ¬ ((cs.length : Int) < (cs.length : Int)) := by omega
      have HR := Lib.hid (cut_yes HOK.out)
      go_wp2
      go_ret
      exact ⟨ret_bool HR.out.symm, HG1.out.trans (HB.out.mono (by omega))⟩

end Go.Proofs.Ytkpnfonedfomaaa
