/- The program's takenOff, OutputOf, ascending, PermutationOf. -/
import Derived.Test.YtamepojgpeblpaaPop31
import Derived.Test.YtamepojgpeblpaaSub31
import Derived.Test.YtamepojgpeblpaaFact31C
import Derived.Test.YtamepojgpeblpaaImpl10A
import Derived.Test.YtamepojgpeblpaaImpl2C
namespace Go.Proofs.Ytamepojgpeblpaa
open Go.ChangeShapes Go.WideShapes Go.ChangeAt Go.RowKit
open Go.PlainAid (bt bt_nonneg bt_le get_bt)
set_option linter.unusedVariables false

theorem St.iterAt {w : World} {B b k : Nat} {v : Value} {l : List Int} {s : ByteArray} {i j : Nat} (h : St w B b v l) (hb : b ≠ k) (hB : k < B) : St (w.iterAt k s j) B b v l :=
  h.keep (Nat.le_of_eq (Lib.iterAt_size _ _ _ _).symm) (Lib.iterAt_other _ _ _ _ _ hb) fun g e => Lib.iterAt_other _ _ _ _ _ (by have := (World.ownsRow.lt h.row g e).1; omega)
theorem St.newI (w : World) (B : Nat) (t : TypeId) (s : ByteArray) : St ((w.alloc (.cells #[.slice none 0 0] t)).alloc (.stringIter s 0)) B w.heap.size (.slice none 0 0) [] := by
  have h : St (w.alloc (.cells #[.slice none 0 0] t)) B w.heap.size (.slice none 0 0) [] := ⟨cell_one w _ _, by simp [World.frozen?, show (w.alloc (.cells #[.slice none 0 0] t)).heap = w.heap.push (.cells #[.slice none 0 0] t) from rfl], by simp, ⟨rfl, .inl ⟨rfl, rfl⟩⟩, by simp [Value.ownBlock]⟩
  exact h.allocN _

set_option maxRecDepth 100000 in
set_option maxHeartbeats 3200000 in
theorem takenOffI (s : ByteArray) (A : Option Addr) (xs : List Int) (cap : Nat) (w : World) (hv : SubI w A cap xs) (hd : dyck s = true) (hn : xs.length = s.size / 2) :
    Calls Try.prog 55 #[.string s, .slice A xs.length cap] w fun e w' => ∃ v, e = .returned v ∧ OwnI w' w.heap.size w'.heap.size v (tkO xs s s.size) ∧ Below w.heap.size w w' := by
  have HV := Lib.hid hv
  have HD := Lib.hid hd
  have h16 := dyck_size hd
  have HN := Lib.hid hn
  clear hv hd hn
  go_enter Try.func55, Try.ntmps55
  go_wp2
  go_loopw [1, 6] (fun x1 x6 wr => ∃ (i : Nat) (vv : Value) (A' : Option Addr) (c' : Nat), i ≤ s.size ∧ AtS wr (w.heap.size + 1) s i ∧ x1 = .slice A' (xs.length - psN s i) c' ∧ SubI w A' c' (xs.drop (psN s i)) ∧ RowN wr (w.heap.size + 2) x6 (tkO xs s i) ∧ St wr (w.heap.size + 2) w.heap.size vv (tkS xs s i) ∧ Apt x6 vv ∧ w.heap.size + 2 ≤ wr.heap.size ∧ Below w.heap.size w wr) (fun _ _ wr => s.size - wr.iterPos (w.heap.size + 1))
  case atStart =>
    have hIT : AtS ((w.alloc (.cells #[.slice none 0 0] 42)).iter s 0) (w.heap.size + 1) s 0 := by
      have h := World.iter_heap (w.alloc (.cells #[.slice none 0 0] 42)) s 0
      rw [World.size_alloc] at h
      exact h
    exact ⟨0, _, A, cap, Nat.zero_le _, hIT, rfl, by simpa [psN] using HV.out, ⟨rfl, .inl ⟨rfl, rfl⟩⟩, St.newI w _ _ s, by intro k e; simp [Value.ownBlock] at e, by simp [World.iter], ((Below.refl w.heap.size w).alloc (Nat.le_refl _) _).alloc (by simp) _⟩
  case round =>
    obtain ⟨i, vv, A', c', hi1, hit, rfl, hsub, hr, hst, hap, hsz, hb⟩ := hrel
    have HIT := Lib.hid hit
    have HR := Lib.hid hr
    have HST := Lib.hid hst
    have HAP := Lib.hid hap
    have HB := Lib.hid hb
    have HSUB := Lib.hid hsub
    clear hit hr hst hap hb hsub
    by_cases hlt : i < s.size
    · obtain ⟨W, hW⟩ : ∃ W, W = wr.iterAt (w.heap.size + 1) s (i + 1) := ⟨_, rfl⟩
      have HIT1 := Lib.hid (show AtS W (w.heap.size + 1) s (i + 1) by rw [hW]; exact HIT.out.move)
      have HR1 := Lib.hid (show RowN W (w.heap.size + 2) u6 (tkO xs s i) by rw [hW]; exact HR.out.iterAt HIT.out)
      have HST1 := Lib.hid (show St W (w.heap.size + 2) w.heap.size vv (tkS xs s i) by rw [hW]; exact HST.out.iterAt (i := i) (by omega) (by omega))
      have HB1 := Lib.hid (show Below w.heap.size w W by rw [hW]; exact Lib.below_iterAt HB.out (by omega) _ _)
      have hzW : w.heap.size + 2 ≤ W.heap.size := by rw [hW, Lib.iterAt_size]; exact hsz
      have hl := dyck_letter HD.out i hlt
      have hb := get_bt s i hlt
      obtain ⟨r1, r2⟩ := ps_room HD.out (i := i) hi1
      have hsl := tkS_len xs s i
      have hol := tkO_len xs s i
      have hrw := fun k (e : u6.ownBlock = some k) => (World.ownsRow.lt HR1.out k e).1
      have HRW := Lib.hid hrw
      clear hrw
      rcases hl with e1 | e1
      · have e2 : bt s i = 117 := by omega
        have hnx := next_letter (P := Try.prog) wr _ s i 117 HIT.out hlt e1 (by omega)
        rw [← hW] at hnx
        have hlx := ps_lt HD.out hlt e2
        have HSS := Lib.hid (tkS_up xs e2)
        have HSN := Lib.hid (show psN s (i + 1) = psN s i + 1 from if_pos e2)
        have HSO := Lib.hid (show tkO xs s (i + 1) = tkO xs s i from if_pos e2)
        have hn2 : psN s i < xs.length := by have := HN.out; omega
        obtain ⟨g1, o1, e3, hc1⟩ := (HSUB.out.keep HB1.out).2 0 (by rw [List.length_drop]; omega)
        subst e3
        rw [Nat.add_zero, show (xs.drop (psN s i)).getD 0 0 = xs.getD (psN s i) 0 by simp [List.getD]] at hc1
        have HSF := Lib.hid (HSUB.out.from 1 (by rw [List.length_drop]; omega))
        rw [List.drop_drop] at HSF
        have HLN := Lib.hid (show xs.length - psN s i - 1 = xs.length - (psN s i + 1) by omega)
        have hm1 : 1 ≤ xs.length - psN s i := by omega
        have hcc : xs.length - psN s i ≤ c' := by have := HSUB.out.1; rw [List.length_drop] at this; exact this
        clear e1 e2 hlx hW hb
        generalize psN s i = n0 at *
        generalize xs.getD n0 0 = y at *
        generalize tkS xs s i = S at *
        generalize tkO xs s i = O at *
        obtain ⟨m, hm⟩ : ∃ m, m = xs.length - n0 := ⟨_, rfl⟩
        rw [← hm] at hm1 hcc HLN
        rw [← hm]
        have HMM := Lib.hid hm
        clear hm
        have hsr : ∀ V, (Instr.slice 22 (.slice (some ⟨g1, o1, none⟩) m c') (some (.int .i64 1)) none none).run Try.prog V = .ok (.slice (if c' = 1 then (some ⟨g1, o1, none⟩) else (some (⟨g1, o1, none⟩ : Addr)).map (·.add 1)) (m - 1) (c' - 1)) V := fun V => run_from V _ m c' 1 hm1
        generalize (if c' = 1 then (some (⟨g1, o1, none⟩ : Addr)) else (some (⟨g1, o1, none⟩ : Addr)).map (·.add 1)) = A2 at hsr HSF
        have hpos : (0 : Int) < (m : Int) := by omega
        have HPU := Lib.hid (pushI w.heap.size (w.heap.size + 2) vv S y W HST1.out (by omega) (by omega))
        go_wp2_with fail
        (with_reducible refine HPU.out.mono ?_)
        rintro e w4 ⟨rfl, v4, hst4, ho4, hk4⟩
        have hz5 := hk4.below.size
        have hapb : ∀ k, vv.ownBlock = some k → w.heap.size + 2 ≤ k := fun k e => (World.ownsRow.lt HST1.out.row k e).1
        have hR5 := hk4.row HR1.out HAP.out (fun e => by have := HRW.out _ e; omega)
        have hA5 : AtS w4 (w.heap.size + 1) s (i + 1) := (hk4.block (w.heap.size + 1) (by omega) (by omega) (fun e => by have := hapb _ e; omega)).trans HIT1.out
        have HA5 := Lib.hid hA5
        have HB5 := Lib.hid (HB1.out.trans (hk4.to (Nat.le_refl _) (fun k e => by have := hapb k e; omega) (by omega)))
        have hap5 : Apt u6 v4 := fun k e e2 => by
          rcases ho4 with e3 | ⟨q, e3, hq⟩
          · rw [e3] at e2; exact HAP.out k e e2
          · rw [e3] at e2; simp only [Option.some.injEq] at e2; have := (World.ownsRow.lt HR1.out k e).2; omega
        have HR5 := Lib.hid hR5
        have HST5 := Lib.hid hst4
        have HAP5 := Lib.hid hap5
        clear hst4 ho4 hk4 hapb hR5 hA5 hap5
        go_wp2
        go_roundw
        case rel => exact ⟨i + 1, v4, A2, c' - 1, by omega, HA5.out, by rw [HSN.out, ← HLN.out, HMM.out], by rw [HSN.out]; exact HSF.out, by rw [HSO.out]; exact HR5.out, by rw [HSS.out]; exact HST5.out, HAP5.out, by omega, HB5.out⟩
        case measure => rw [HIT.out.pos, HA5.out.pos]; omega
      · have e2 : bt s i ≠ 117 := by omega
        have hnx := next_letter (P := Try.prog) wr _ s i 100 HIT.out hlt e1 (by omega)
        rw [← hW] at hnx
        obtain ⟨t1, t2, t3, t4, t5, t6⟩ := ps_top HD.out hlt e2
        have HSS := Lib.hid (tkS_down xs e2)
        have HSN := Lib.hid (show psN s (i + 1) = psN s i from if_neg e2)
        have HSO := Lib.hid (show tkO xs s (i + 1) = tkO xs s i ++ [xs.getD (psT s i) 0] from if_neg e2)
        have htop := tkS_top xs s i t1
        clear e1 e2 hW hb t3
        generalize xs.getD (psT s i) 0 = z at *
        generalize tkS xs s i = S at *
        generalize tkO xs s i = O at *
        have HPOP := Lib.hid (popI w.heap.size (w.heap.size + 2) vv S z W HST1.out (by omega) htop (by omega))
        have hrw6 := fun k (e : some k = u6.ownBlock) => (World.ownsRow.lt HR1.out k e.symm).1
        have HRW6 := Lib.hid hrw6
        clear hrw6 htop
        go_wp2_with fail
        (with_reducible refine HPOP.out.mono ?_)
        rintro e w4 ⟨rfl, v4, hst4, ho4, hk4⟩
        have hz5 := hk4.below.size
        have HR5 := Lib.hid (hk4.row (v := .slice none 0 0) HR1.out (by intro k e; simp [Value.ownBlock]) (fun e => by have := HRW.out _ e; omega))
        have HST5 := Lib.hid hst4
        have HO5 := Lib.hid ho4
        have hA5 : AtS w4 (w.heap.size + 1) s (i + 1) := (hk4.block (w.heap.size + 1) (by omega) (by omega) (by simp)).trans HIT1.out
        have HA5 := Lib.hid hA5
        have HB5 := Lib.hid (HB1.out.trans (hk4.to (Nat.le_refl _) (fun k e => by simp at e) (by omega)))
        clear hst4 ho4 hk4 hA5
        go_wp2_with (at_builtin; go_must (refine wpAppIntAt rfl _ _ rfl (w.heap.size + 2) u6 _ O rfl (HR5.out.allocN _) _ _ z rfl (cell_one w4 _ _) (by omega) (by simp; omega) ?_); intro v' w' hown' hg' hat')
        have hz6 := hg'.size
        simp only [World.size_alloc] at hz6
        have hal : ∀ k, k < w4.heap.size → some k ≠ u6.ownBlock → w'.heap[k]? = w4.heap[k]? := fun k hk hne => (hg'.block k (by simp; omega) hne).trans (Below.heap_alloc _ _ _ hk)
        have hST6 : St w' (w.heap.size + 2) w.heap.size v4 S.dropLast := HST5.out.keep (by omega) (hal _ HST5.out.lt (fun e => by have := HRW6.out _ e; omega)) (fun g e => hal g (World.ownsRow.lt HST5.out.row g e).2 (fun e2 => HAP.out g e2.symm (by rw [← HO5.out]; exact e)))
        have hA6 : AtS w' (w.heap.size + 1) s (i + 1) := (hal _ (by omega) (fun e => by have := HRW6.out _ e; omega)).trans HA5.out
        have hB6 : Below w.heap.size w w' := (HB5.out.alloc (by omega) _).grown hg' (by simp; omega) (fun k hk => by have := HRW6.out k hk.symm; omega)
        have hap6 : Apt v' v4 := fun k e e2 => by
          rcases hat' with e3 | e3
          · rw [e3] at e; rw [HO5.out] at e2; exact HAP.out k e e2
          · rw [e3] at e; simp only [Option.some.injEq, World.size_alloc] at e; have := (World.ownsRow.lt HST5.out.row k e2).2; omega
        have HA6 := Lib.hid hA6
        go_roundw
        case rel => exact ⟨i + 1, v4, A', c', by omega, hA6, by rw [HSN.out], by rw [HSN.out]; exact HSUB.out, by rw [HSO.out]; exact RowN.of_app hown', by rw [HSS.out]; exact hST6, hap6, by omega, hB6⟩
        case measure => rw [HIT.out.pos, HA6.out.pos]; omega
    · have hnx := fun ty => Lib.run_next_end_at (P := Try.prog) wr _ s i ty HIT.out hlt
      obtain rfl : i = s.size := by omega
      go_wp2
      go_ret
      exact ⟨_, rfl, (OwnI.of_row HR.out).wide (by omega) (Nat.le_refl _), HB.out⟩

set_option maxRecDepth 100000 in
set_option maxHeartbeats 1600000 in
theorem ascendingI (n : Nat) (w : World) (hn : n ≤ 1048576) :
    Calls Try.prog 61 #[.int .i64 (n : Int)] w fun e w' => ∃ g, e = .returned (.slice (some ⟨g, 0, none⟩) n n) ∧ OwnI w' w.heap.size w'.heap.size (.slice (some ⟨g, 0, none⟩) n n) (asL n) ∧ Below w.heap.size w w' := by
  obtain ⟨i0, hi0, hz0, hz1, hz2⟩ := info_parts info3
  go_enter Try.func61, Try.ntmps61
  go_wp2_with (at_make; go_must (refine wpList_make_full _ rfl _ _ 22 rfl w.heap.size 3 i0 (.int .i64 0) 1 Try.underlying22 hi0 hz0 hz1 .i64 .i64 (n : Int) (n : Int) n rfl rfl rfl rfl (by rw [hz2]; omega) (by unfold maxLen; omega) (Nat.le_refl _) ?_); intro w2 hown1 hgrow1)
  have HTB := Lib.hid (TbR.made hown1)
  have HB2 := Lib.hid ((Below.refl w.heap.size w).grown hgrow1 (Nat.le_refl _) (fun k hk => by cases hk))
  clear hown1 hgrow1
  go_loopw [9] (fun y wr => ∃ i : Nat, i ≤ n ∧ y = .int .i64 i ∧ TbR wr w.heap.size (asP n i) ∧ Below w.heap.size w wr) (fun y _ => n - (intOf y).toNat)
  case atStart => exact ⟨0, Nat.zero_le _, rfl, by rw [asP_zero]; exact HTB.out, HB2.out⟩
  case round =>
    obtain ⟨i, hi1, rfl, htb, hb⟩ := hrel
    have HT := Lib.hid htb
    have HB := Lib.hid hb
    clear htb hb
    by_cases hlt : i < n
    · have hii : (i : Int) < (n : Int) := by omega
      have HSU := Lib.hid (asP_step hlt)
      obtain ⟨hc2, hf2⟩ := HT.out.cell (j := i) (by rw [asP_len]; exact hlt)
      generalize (asP n i).getD i 0 = z0 at hc2
      go_wp2
      go_roundw
      case rel => exact ⟨i + 1, by omega, by simp, by rw [HSU.out]; exact HT.out.set _ _, HB.out.setCell (p := ⟨w.heap.size, i, none⟩) (Nat.le_refl _) _⟩
      case measure => simp [intOf]; omega
    · obtain rfl : i = n := by omega
      have HR := Lib.hid (HT.out.own (Nat.le_refl _) i)
      rw [asP_len, asP_all] at HR
      go_wp2
      go_ret
      exact ⟨_, rfl, HR.out, HB.out⟩

set_option maxRecDepth 100000 in
set_option maxHeartbeats 1600000 in
theorem permutationOfI (s : ByteArray) (w : World) (hs : s.size ≤ 1099511627776) : Calls Try.prog 37 #[.string s] w (AnsIB (permOfP s) (dyck s) w) := by
  rcases hd : dyck s with _ | _
  · have HP := Lib.hid (show permOfP s = [] from if_neg (by simp [hd]))
    have HD := Lib.hid hd
    clear hd
    go_enter Try.func37, Try.ntmps37
    go_wp2_with fail
    (with_reducible refine (isDyckI_no s _ HD.out).mono ?_)
    rintro e w' ⟨rfl, hb⟩
    go_wp2
    go_ret2
    exact ⟨_, rfl, by rw [HP.out]; exact ⟨none, 0, rfl, .inl rfl⟩, hb⟩
  · have HP := Lib.hid (perm_taken hd)
    have HD := Lib.hid hd
    have h16 := dyck_size hd
    obtain ⟨hpm, htl⟩ := taken_perm hd
    have HPM := Lib.hid hpm
    clear hd hpm
    obtain ⟨m, hm⟩ : ∃ m, m = s.size / 2 := ⟨_, rfl⟩
    have hmi : (s.size : Int).tdiv 2 = (m : Int) := by rw [Int.tdiv_eq_ediv_of_nonneg (by omega)]; omega
    have hm8 : m ≤ 8 := by omega
    rw [← hm] at HP HPM htl
    have HSM := Lib.hid hm
    clear hm
    have HAL := Lib.hid (asL_len m)
    have HTL := Lib.hid htl
    clear htl
    go_enter Try.func37, Try.ntmps37
    go_wp2_with fail
    (with_reducible refine (isDyckI_yes s _ HD.out).mono ?_)
    rintro e w1 ⟨rfl, hb⟩
    have HB1 := Lib.hid hb
    have z1 := hb.size
    clear hb
    go_wp2_with fail
    (with_reducible refine (ascendingI m _ (by omega)).mono ?_)
    rintro e w2 ⟨g, rfl, ho, hb⟩
    have hsub : SubI w2 (some ⟨g, 0, none⟩) m (asL m) := SubI.own (by rw [HAL.out]; exact ho) (by rw [HAL.out]; exact Nat.le_refl _)
    have hT := takenOffI s (some ⟨g, 0, none⟩) (asL m) m w2 hsub HD.out (by rw [HAL.out]; exact HSM.out)
    rw [HAL.out] at hT
    have HT := Lib.hid hT
    have HB2 := Lib.hid (HB1.out.trans (hb.mono z1))
    have z2 := hb.size
    clear hb ho hsub hT
    go_wp2_with fail
    (with_reducible refine HT.out.mono ?_)
    rintro e w3 ⟨v3, rfl, ho3, hb3⟩
    have z3 := hb3.size
    obtain ⟨A3, c3, e3, -⟩ := id ho3
    subst e3
    have hI := inverseI A3 _ c3 _ _ w3 ho3 (Nat.le_refl _) HPM.out
    have HI := Lib.hid hI
    have HB3 := Lib.hid (HB2.out.trans (hb3.mono (by omega)))
    clear hb3 ho3 hI
    go_wp2_with fail
    (with_reducible refine HI.out.mono ?_)
    rintro e w4 ⟨v4, rfl, ho4, hb4⟩
    have HO4 := Lib.hid (ho4.wide (show w.heap.size ≤ w3.heap.size by omega) (Nat.le_refl _))
    have HB4 := Lib.hid (HB3.out.trans (hb4.mono (by omega)))
    clear hb4 ho4
    go_wp2
    go_ret2
    exact ⟨_, rfl, by rw [HP.out]; exact HO4.out, HB4.out⟩

theorem outOkI_d {s : ByteArray} {xs : List Int} (h : dyck s = false) : outOk s xs = false := by unfold outOk; rw [h]; rfl
theorem outOkI_p {s : ByteArray} {xs : List Int} (h : permB xs = false) : outOk s xs = false := by unfold outOk; rw [h, Bool.and_false, Bool.false_and]
theorem outOkI_l {s : ByteArray} {xs : List Int} (h : s.size ≠ 2 * xs.length) : outOk s xs = false := by unfold outOk; rw [decide_eq_false h, Bool.and_false]
theorem outOkI_y {s : ByteArray} {xs : List Int} (h1 : dyck s = true) (h2 : permB xs = true) (h3 : s.size = 2 * xs.length) : outOk s xs = true := by unfold outOk; rw [h1, h2, decide_eq_true h3]; rfl

set_option maxRecDepth 100000 in
set_option maxHeartbeats 1600000 in
theorem outputOfI (s : ByteArray) (A1 : Option Addr) (xs : List Int) (c1 lo hi : Nat) (w : World) (hv : OwnI w lo hi (.slice A1 xs.length c1) xs) (hhi : hi ≤ w.heap.size) (hcap : xs.length ≤ c1) (hs : s.size ≤ 1099511627776) (hl : xs.length ≤ 1048576) :
    Calls Try.prog 25 #[.string s, .slice A1 xs.length c1] w (AnsIB (outP s xs) (outOk s xs) w) := by
  have HV := Lib.hid hv
  have HM := Lib.hid (fun W (hb : Below w.heap.size w W) => isPermutationI _ xs _ lo hi W (hv.keep hb hhi) (Nat.le_trans hhi hb.size))
  clear hv
  rcases hd : dyck s with _ | _
  · have HO := Lib.hid (outOkI_d (xs := xs) hd)
    have HP := Lib.hid (show outP s xs = [] from if_neg (by simp [HO.out]))
    have HD := Lib.hid hd
    clear hd
    go_enter Try.func25, Try.ntmps25
    go_wp2_with fail
    (with_reducible refine (isDyckI_no s _ HD.out).mono ?_)
    rintro e w' ⟨rfl, hb⟩
    go_wp2
    go_ret2
    exact ⟨_, ret_ib rfl HO.out.symm, by rw [HP.out]; exact ⟨_, _, rfl, .inl rfl⟩, hb⟩
  · have HD := Lib.hid hd
    have h16 := dyck_size hd
    have hsp : sizeP s = ((s.size / 2 : Nat) : Int) := if_pos hd
    rcases hm : permB xs with _ | _
    · have HO := Lib.hid (outOkI_p (s := s) hm)
      have HP := Lib.hid (show outP s xs = [] from if_neg (by simp [HO.out]))
      rw [hm] at HM
      clear hd hm
      go_enter Try.func25, Try.ntmps25
      go_wp2_with fail
      (with_reducible refine (isDyckI_yes s _ HD.out).mono ?_)
      rintro e w1 ⟨rfl, hb⟩
      have HB1 := Lib.hid hb
      clear hb
      go_wp2_with fail
      (with_reducible refine (HM.out _ HB1.out).mono ?_)
      rintro e w2 ⟨rfl, hb⟩
      have HB2 := Lib.hid (HB1.out.trans (hb.mono HB1.out.size))
      clear hb
      go_wp2
      go_ret2
      exact ⟨_, ret_ib rfl HO.out.symm, by rw [HP.out]; exact ⟨_, _, rfl, .inl rfl⟩, HB2.out⟩
    · rw [hm] at HM
      by_cases hsz : s.size = 2 * xs.length
      · have HO := Lib.hid (outOkI_y hd hm hsz)
        have HP := Lib.hid (show outP s xs = tkO xs s s.size from if_pos HO.out)
        have hne : ((xs.length : Int) != (xs.length : Int)) = false := by simp
        have hsx : sizeP s = (xs.length : Int) := by rw [hsp]; omega
        have HN := Lib.hid (show xs.length = s.size / 2 by omega)
        clear hd hm hsz hsp
        have HSZ := Lib.hid (fun W => sizeOfI s W hs)
        rw [hsx] at HSZ
        clear hsx
        go_enter Try.func25, Try.ntmps25
        go_wp2_with fail
        (with_reducible refine (isDyckI_yes s _ HD.out).mono ?_)
        rintro e w1 ⟨rfl, hb⟩
        have HB1 := Lib.hid hb
        clear hb
        go_wp2_with fail
        (with_reducible refine (HM.out _ HB1.out).mono ?_)
        rintro e w2 ⟨rfl, hb⟩
        have HB2 := Lib.hid (HB1.out.trans (hb.mono HB1.out.size))
        clear hb
        go_wp2_with fail
        (with_reducible refine (HSZ.out _).mono ?_)
        rintro e w3 ⟨rfl, hb⟩
        have hB3 := HB2.out.trans (hb.mono HB2.out.size)
        have HT := Lib.hid (takenOffI s A1 xs c1 w3 (SubI.own (HV.out.keep hB3 hhi) hcap) HD.out HN.out)
        have HB3 := Lib.hid hB3
        clear hb hB3
        go_wp2_with fail
        (with_reducible refine HT.out.mono ?_)
        rintro e w4 ⟨v4, rfl, ho4, hb4⟩
        have HO4 := Lib.hid (ho4.wide HB3.out.size (Nat.le_refl _))
        have HB4 := Lib.hid (HB3.out.trans (hb4.mono HB3.out.size))
        clear hb4 ho4
        go_wp2
        go_ret2
        exact ⟨_, ret_ib rfl HO.out.symm, by rw [HP.out]; exact HO4.out, HB4.out⟩
      · have HO := Lib.hid (outOkI_l (s := s) (xs := xs) hsz)
        have HP := Lib.hid (show outP s xs = [] from if_neg (by simp [HO.out]))
        have HSZ := Lib.hid (fun W => sizeOfI s W hs)
        have hev : s.size % 2 = 0 := by obtain ⟨q1, q2, -⟩ := ps_ok hd s.size (Nat.le_refl _); rw [(ps_end hd).1] at q1; simp at q1; omega
        have hne : (sizeP s != (xs.length : Int)) = true := by rw [hsp]; simp; omega
        clear hd hm hsz hsp hev
        generalize sizeP s = z at hne HSZ
        go_enter Try.func25, Try.ntmps25
        go_wp2_with fail
        (with_reducible refine (isDyckI_yes s _ HD.out).mono ?_)
        rintro e w1 ⟨rfl, hb⟩
        have HB1 := Lib.hid hb
        clear hb
        go_wp2_with fail
        (with_reducible refine (HM.out _ HB1.out).mono ?_)
        rintro e w2 ⟨rfl, hb⟩
        have HB2 := Lib.hid (HB1.out.trans (hb.mono HB1.out.size))
        clear hb
        go_wp2_with fail
        (with_reducible refine (HSZ.out _).mono ?_)
        rintro e w3 ⟨rfl, hb⟩
        have HB3 := Lib.hid (HB2.out.trans (hb.mono HB2.out.size))
        clear hb
        go_wp2
        go_ret2
        exact ⟨_, ret_ib rfl HO.out.symm, by rw [HP.out]; exact ⟨_, _, rfl, .inl rfl⟩, HB3.out⟩

end Go.Proofs.Ytamepojgpeblpaa
