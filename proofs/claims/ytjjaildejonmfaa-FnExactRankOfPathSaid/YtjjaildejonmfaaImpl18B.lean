/- The program's RankOfPath. -/
import Derived.Test.YtjjaildejonmfaaImpl18A
import Derived.Test.YtjjaildejonmfaaRepG18
namespace Go.Proofs.Ytjjaildejonmfaa
open Go.ChangeShapes Go.WideShapes Go.ChangeAt Go.RowKit
set_option linter.unusedVariables false

theorem zz_rep : ∀ k, Lib.repeatL [117, 100] k = zzL k
  | 0 => rfl
  | k + 1 => by show [117, 100] ++ Lib.repeatL [117, 100] k = _; rw [zz_rep k]; rfl
theorem zz_repW (k : Nat) : repW [117, 100] k = zzP k := by unfold repW zzP; rw [zz_rep]
set_option maxRecDepth 100000 in
set_option maxHeartbeats 800000 in
theorem rankOfPathI (a : ByteArray) (w : World) (ha : a.size ≤ 1099511627776) : Calls Try.prog 20 #[.string a] w fun e w' => e = .returned (.int .i64 (rnkP a)) ∧ Below w.heap.size w w' := by
  rcases hd : dyck a with _ | _
  · have HP := Lib.hid (rnk_no hd)
    have HD := Lib.hid hd
    clear hd
    go_enter Try.func20, Try.ntmps20
    go_wp2_with fail
    (with_reducible refine (isDyckI_no a _ HD.out).mono ?_)
    rintro e w1 ⟨rfl, hb1⟩
    go_wp2
    go_ret
    exact ⟨ret_int HP.out.symm, hb1⟩
  · have HP := Lib.hid (rank_dst hd)
    have HD := Lib.hid hd
    have h16 := dyck_size hd
    have HE := Lib.hid (dyck_even hd)
    obtain ⟨k, hk⟩ : ∃ k, k = a.size / 2 := ⟨_, rfl⟩
    have hk8 : k ≤ 8 := by omega
    have q1 : (a.size : Int).tdiv 2 = (k : Int) := by rw [Int.tdiv_eq_ediv_of_nonneg (by omega)]; omega
    have q2 : (a.size : Int) / 2 = (k : Int) := by omega
    have HR := Lib.hid (fun W => repZz k W hk8)
    rw [zz_repW] at HR
    have HDB := Lib.hid (fun W => distanceBetweenI a (zzP k) W ha (by rw [zzP_size]; omega))
    rw [← hk] at HP
    clear hd hk
    generalize zzP k = Z at *
    go_enter Try.func20, Try.ntmps20
    go_wp2_with fail
    (with_reducible refine (isDyckI_yes a _ HD.out).mono ?_)
    rintro e w1 ⟨rfl, hb1⟩
    have z1 := hb1.size
    go_wp2_with fail
    (with_reducible refine (HR.out _).mono ?_)
    rintro e w2 ⟨rfl, hb2⟩
    have HB2 := Lib.hid (hb1.trans (hb2.mono z1))
    have z2 := HB2.out.size
    go_wp2_with fail
    (with_reducible refine (HDB.out _).mono ?_)
    rintro e w3 ⟨rfl, hb3⟩
    go_wp2
    go_ret
    exact ⟨ret_int HP.out.symm, HB2.out.trans (hb3.mono z2)⟩

end Go.Proofs.Ytjjaildejonmfaa
