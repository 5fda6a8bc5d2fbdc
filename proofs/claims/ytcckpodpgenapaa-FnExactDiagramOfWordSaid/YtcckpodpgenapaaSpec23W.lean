/- The model's DiagramOfWord. -/
import Derived.Test.YtcckpodpgenapaaFact23W
import Derived.Test.YtcckpodpgenapaaSpec23M
import Derived.OwnWalk
namespace Go.Proofs.Ytcckpodpgenapaa
open Go.ChangeShapes Go.WideShapes Go.ChangeAt Go.RowKit
set_option linter.unusedVariables false

set_option maxRecDepth 100000 in
set_option maxHeartbeats 6400000 in
theorem diagramOfWord_yes (m : Nat) (A : Option Addr) (xs : List Int) (cap lo hi : Nat) (w : World) (hv : OwnI w lo hi (.slice A xs.length cap) xs) (hhi : hi ≤ w.heap.size) (h1 : 1 ≤ m) (h8 : m ≤ 8) (h40 : xs.length ≤ 40) :
    Calls Try.prog 31 #[.int .i64 m, .slice A xs.length cap] w (AnsInB (dwP m xs) (dwN m xs) (dwOk m xs) w) := by
  have HV := Lib.hid hv
  have HID := Lib.hid (identityDiagram (m : Int) w)
  rw [show idOk m = true from decide_eq_true (by omega), show idP m = dwX m xs 0 from (if_pos (show idOk m = true from decide_eq_true (by omega))).trans (by rw [Int.toNat_natCast]; rfl)] at HID
  have h40i : (xs.length : Int) ≤ 40 := by omega
  have HFX := Lib.hid (fun (h : ∀ j, j < xs.length → hkOk m (xs.getD j 0) = true) => dwOk_true h1 h8 h40 h)
  have HFN := Lib.hid (fun (j : Nat) (hj : j < xs.length) (h : hkOk m (xs.getD j 0) = false) => dwOk_false hj h)
  clear hv
  go_enter Try.func31, Try.ntmps31
  go_wp2_with fail
  (with_reducible refine HID.out.mono ?_)
  rintro e w1 ⟨v0, rfl, ho, hb⟩
  have HO0 := Lib.hid ho
  have HB0 := Lib.hid hb
  clear ho hb
  go_wp2
  go_loopw [7, 9, 10] (fun v x y wr => ∃ i : Nat, i ≤ xs.length ∧ y = .int .i64 i ∧ x = .int .i64 (dwZ m xs i) ∧ OwnI wr w.heap.size wr.heap.size v (dwX m xs i) ∧ (∀ j, j < i → hkOk m (xs.getD j 0) = true) ∧ Below w.heap.size w wr) (fun _ _ y _ => xs.length - (intOf y).toNat)
  case atStart => exact ⟨0, Nat.zero_le _, rfl, rfl, HO0.out, fun j hj => absurd hj (Nat.not_lt_zero _), HB0.out⟩
  case round =>
    obtain ⟨i, hi', rfl, rfl, ho, hok, hb⟩ := hrel
    have HO := Lib.hid ho
    have HOK := Lib.hid hok
    have HB := Lib.hid hb
    have hz := dwZ_le m xs i
    have zw := hb.size
    obtain ⟨A5, c5, rfl, -⟩ := id ho
    clear ho hok hb
    by_cases hlt : i < xs.length
    · have hii : (i : Int) < (xs.length : Int) := by omega
      have HNX := Lib.hid (show dwX m xs (i + 1) = mdP (dwX m xs i) (hkP m (xs.getD i 0)) from rfl)
      have HNZ := Lib.hid (show dwZ m xs (i + 1) = dwZ m xs i + mdN (dwX m xs i) (hkP m (xs.getD i 0)) from rfl)
      have HFI := Lib.hid (HFN.out i hlt)
      obtain ⟨g1, p1, e1, -, -, hcx, -⟩ := (HV.out.keep HB.out hhi).cell (j := i) hlt
      simp only [Value.slice.injEq] at e1
      obtain ⟨rfl, -, -⟩ := e1
      have HHK := Lib.hid (fun W => hookDiagram (m : Int) (xs.getD i 0) W)
      rcases hk : hkOk m (xs.getD i 0) with _ | _
      · have HF := Lib.hid (HFI.out hk)
        have HNO := Lib.hid (dw_no HF.out)
        rw [hk] at HHK
        generalize xs.getD i 0 = x at *
        clear hk
        go_wp2_with fail
        (with_reducible refine (HHK.out _).mono ?_)
        rintro e w5 ⟨v5, rfl, ho5, hb5⟩
        have HB5 := Lib.hid (HB.out.trans (hb5.mono zw))
        clear ho5 hb5
        go_wp2
        go_ret3
        exact ⟨_, ret_inb rfl HNO.out.2.symm HF.out.symm, by rw [HNO.out.1]; exact ⟨_, _, rfl, .inl rfl⟩, HB5.out.alloc HB5.out.size _⟩
      · have HOK2 := Lib.hid (show ∀ j, j < i + 1 → hkOk m (xs.getD j 0) = true from fun j hj => by
          by_cases e : j < i
          · exact HOK.out j e
          · obtain rfl : j = i := by omega
            exact hk)
        have hmok := dw_ok h1 h8 HOK2.out
        have hm8 := mdN_le (dwX m xs i) (hkP m (xs.getD i 0))
        have hmy := mdOk_yes hmok
        have HKX := Lib.hid hmy.2.2.1.symm
        rw [hk] at HHK
        generalize hKK : hkP m (xs.getD i 0) = K at *
        generalize hXX : dwX m xs i = X at *
        generalize hzz : dwZ m xs i = z at *
        generalize hdd : mdN X K = d at *
        have hlX : X.length ≤ 16 := hmy.2.2.2.2.1
        have hlK : K.length ≤ 16 := by have := hmy.2.2.1; omega
        have hxl : X.length = K.length := hmy.2.2.1
        have HMD := Lib.hid (fun W (h1 : OwnI W w.heap.size wr.heap.size (.slice A5 X.length c5) X) (h3 : wr.heap.size ≤ W.heap.size) A6 c6 w5s (h2 : OwnI W wr.heap.size w5s (.slice A6 K.length c6) K) (h4 : w5s ≤ W.heap.size) => multiplyDiagrams A5 A6 X K c5 c6 _ _ _ _ W h1 h2 h3 h4 (by omega) (by omega))
        rw [hmok] at HMD
        rw [hdd] at HMD
        generalize xs.getD i 0 = x at *
        have q9 : IntKind.i64.wrap (z + d) = z + d := IntWalk.i64_in _ (by omega)
        clear hk hKK hXX hzz hdd hmok hmy hxl
        go_wp2_with fail
        (with_reducible refine (HHK.out _).mono ?_)
        rintro e w5 ⟨v5, rfl, ho5, hb5⟩
        have HO5 := Lib.hid ho5
        have HB5 := Lib.hid (HB.out.trans (hb5.mono zw))
        have HBB := Lib.hid hb5
        have z5 := hb5.size
        obtain ⟨A6, c6, ev, -⟩ := ho5
        subst ev
        clear hb5
        go_wp2_with fail
        (with_reducible refine (HMD.out _ (HO.out.keep HBB.out (Nat.le_refl _)) HBB.out.size _ _ _ HO5.out (Nat.le_refl _)).mono ?_)
        rintro e w6 ⟨v6, rfl, ho6, hb6⟩
        have z6 := hb6.size
        have HO6 := Lib.hid (ho6.wide (show w.heap.size ≤ w5.heap.size by omega) (Nat.le_refl _))
        have HB6 := Lib.hid (HB5.out.trans (hb6.mono (by omega)))
        clear ho6 hb6
        go_wp2
        refine ⟨⟨i + 1, by omega, by simp, by rw [HNZ.out], by rw [HNX.out]; exact HO6.out, HOK2.out, HB6.out⟩, by simp [intOf]; omega⟩
    · obtain rfl : i = xs.length := by omega
      have HT := Lib.hid (HFX.out HOK.out)
      have HY := Lib.hid (dw_yes HT.out)
      go_wp2
      go_ret3
      exact ⟨_, ret_inb rfl HY.out.2.symm HT.out.symm, by rw [HY.out.1]; exact HO.out, HB.out⟩

set_option maxRecDepth 100000 in
set_option maxHeartbeats 3200000 in
theorem diagramOfWord (n : Int) (A : Option Addr) (xs : List Int) (cap lo hi : Nat) (w : World) (hv : OwnI w lo hi (.slice A xs.length cap) xs) (hhi : hi ≤ w.heap.size) (hl : xs.length ≤ 1099511627776) :
    Calls Try.prog 31 #[.int .i64 n, .slice A xs.length cap] w (AnsInB (dwP n xs) (dwN n xs) (dwOk n xs) w) := by
  by_cases hn : 1 ≤ n ∧ n ≤ 8
  · obtain ⟨m, rfl⟩ : ∃ m : Nat, n = m := ⟨n.toNat, by omega⟩
    by_cases h40 : xs.length ≤ 40
    · exact diagramOfWord_yes m A xs cap lo hi w hv hhi (by omega) (by omega) h40
    · have HF := Lib.hid (show dwOk m xs = false by unfold dwOk; rw [decide_eq_false h40]; simp)
      have HNO := Lib.hid (dw_no HF.out)
      have HID := Lib.hid (identityDiagram (m : Int) w)
      rw [show idOk m = true from decide_eq_true (by omega)] at HID
      have h40i : (40 : Int) < (xs.length : Int) := by omega
      clear hv
      go_enter Try.func31, Try.ntmps31
      go_wp2_with fail
      (with_reducible refine HID.out.mono ?_)
      rintro e w1 ⟨v0, rfl, ho, hb⟩
      have HB := Lib.hid hb
      clear ho hb
      go_wp2
      go_ret3
      exact ⟨_, ret_inb rfl HNO.out.2.symm HF.out.symm, by rw [HNO.out.1]; exact ⟨_, _, rfl, .inl rfl⟩, HB.out.alloc HB.out.size _⟩
  · have hid : idOk n = false := decide_eq_false hn
    have HF := Lib.hid (show dwOk n xs = false by unfold dwOk; rw [hid]; rfl)
    have HNO := Lib.hid (dw_no HF.out)
    have HID := Lib.hid (identityDiagram n w)
    rw [hid] at HID
    clear hv hid
    go_enter Try.func31, Try.ntmps31
    go_wp2_with fail
    (with_reducible refine HID.out.mono ?_)
    rintro e w1 ⟨v0, rfl, ho, hb⟩
    have HB := Lib.hid hb
    clear ho hb
    go_wp2
    go_ret3
    exact ⟨_, ret_inb rfl HNO.out.2.symm HF.out.symm, by rw [HNO.out.1]; exact ⟨_, _, rfl, .inl rfl⟩, HB.out.alloc HB.out.size _⟩

end Go.Proofs.Ytcckpodpgenapaa
