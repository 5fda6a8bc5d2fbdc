/- The calls of the law FnIntegerEncodings, each with what it answers for the text that the call before it has made. -/
import Derived.Test.YtamdmflofbpjkaaDoorM
namespace Go.Proofs.YtamdmflofbpjkaaDoor.Num
open Go.ChangeShapes Go.WideShapes Go.ChangeAt Go.RowKit
set_option linter.unusedVariables false

def Gives (f : FuncId) (args : Array Value) (v : Value) : Prop := ∀ w : World, Calls Tryd.prog f args w fun e w' => e = .returned v ∧ Below w.heap.size w w'
def GivesT (f : FuncId) (args : Array Value) (v : Value) : Prop := ∀ w : World, Tab w → Calls Tryd.prog f args w fun e w' => e = .returned v ∧ Below w.heap.size w w'

theorem app_size (S T : ByteArray) : (S ++ T).size = S.size + T.size := by simp
theorem ev_in (m : Nat) (hm : m ≤ 562949953421311) : ∃ S : ByteArray, 1 ≤ S.size ∧ S.size ≤ 7 ∧ Gives 9 #[.int .i64 m] (.string S) ∧
    ∀ T : ByteArray, T.size ≤ 40 → Gives 10 #[.string (S ++ T)] (.tuple #[.int .i64 m, .int .i64 S.size]) := by
  have hl := vr_len7 m hm
  have hp := vr_pos m
  refine ⟨strOfNums (vr m), by rw [strOfNums_size]; exact hp, by rw [strOfNums_size]; exact hl, fun w => implEV_yes m w hm, fun T hT w => ?_⟩
  refine (implDV _ w (by rw [app_size, strOfNums_size]; omega)).mono ?_
  rintro e w' ⟨a, b, h, rfl, hb⟩
  obtain ⟨rfl, rfl⟩ := DV_one h (DV_enc m hm T)
  exact ⟨by rw [strOfNums_size], hb⟩
theorem ev_out (n : Int) (h : n < 0 ∨ 562949953421311 < n) : Gives 9 #[.int .i64 n] (.string ⟨#[]⟩) := fun w => implEV_no n w h
theorem dv_any (S : ByteArray) (h : S.size ≤ 1048576) : ∀ w : World, Calls Tryd.prog 10 #[.string S] w (SaysDV S w) := fun w => implDV S w h

theorem ef_some (y k : Nat) (h1 : 1 ≤ k) (h7 : k ≤ 7) (hy : y ≤ 9223372036854775807) (hf : y / 256 ^ k = 0) : ∃ F : ByteArray, F.size = k ∧ Gives 12 #[.int .i64 y, .int .i64 k] (.string F) ∧ Gives 14 #[.int .i64 y, .int .i64 k] (.string F) ∧
    ∀ T : ByteArray, T.size ≤ 40 → Gives 13 #[.string (F ++ T), .int .i64 k] (.tuple #[.int .i64 y, .bool true]) := by
  have e := efS_yes hf
  refine ⟨efS y k, by rw [e, strOfNums_size, be_len], fun w => implEF y k w h1 h7 hy, fun w => specEF y k w h1 h7 hy, fun T hT w => ?_⟩
  have hsz : (efS y k ++ T).size = k + T.size := by rw [app_size, e, strOfNums_size, be_len]
  refine (implDF_yes (efS y k ++ T) k w (by rw [hsz]; unfold maxLen; omega) h1 h7 (by omega)).mono ?_
  rintro e' w' ⟨rfl, rfl⟩
  refine ⟨?_, Below.refl _ _⟩
  rw [e, dec_enc k y hf]
theorem ef_none (y k : Int) (hy0 : -9223372036854775808 ≤ y) (hy : y ≤ 9223372036854775807) (h : ¬ (1 ≤ k ∧ k ≤ 7 ∧ 0 ≤ y ∧ y.toNat / 256 ^ k.toNat = 0)) :
    Gives 12 #[.int .i64 y, .int .i64 k] (.string ⟨#[]⟩) ∧ Gives 14 #[.int .i64 y, .int .i64 k] (.string ⟨#[]⟩) := by
  by_cases hv : k < 1 ∨ 7 < k ∨ y < 0
  · exact ⟨fun w => implEF_no y k w hv, fun w => specEF_no y k w hv⟩
  · obtain ⟨n, rfl⟩ : ∃ n : Nat, y = n := ⟨y.toNat, by omega⟩
    obtain ⟨j, rfl⟩ : ∃ n : Nat, k = n := ⟨k.toNat, by omega⟩
    have hf : ¬ n / 256 ^ j = 0 := fun e => h ⟨by omega, by omega, by omega, by simpa using e⟩
    have e := efS_no hf
    rw [← e]
    exact ⟨fun w => implEF n j w (by omega) (by omega) (by omega), fun w => specEF n j w (by omega) (by omega) (by omega)⟩
/-- Whatever the text: a number of its range and a bool. -/
theorem df_any (S : ByteArray) (k : Int) (hS : S.size ≤ 1048576) : ∃ (u : Int) (b : Bool), Gives 13 #[.string S, .int .i64 k] (.tuple #[.int .i64 u, .bool b]) := by
  by_cases hv : k < 1 ∨ 7 < k ∨ (S.size : Int) < k
  · exact ⟨0, false, fun w => (implDF_no S k w (by unfold maxLen; omega) hv).mono fun e w' ⟨h1, h2⟩ => ⟨h1, h2 ▸ Below.refl _ _⟩⟩
  · obtain ⟨j, rfl⟩ : ∃ n : Nat, k = n := ⟨k.toNat, by omega⟩
    exact ⟨_, true, fun w => (implDF_yes S j w (by unfold maxLen; omega) (by omega) (by omega) (by omega)).mono fun e w' ⟨h1, h2⟩ => ⟨h1, h2 ▸ Below.refl _ _⟩⟩
theorem hex_some (T : ByteArray) (hT : T.size ≤ 40) : ∃ H : ByteArray, H.size = 2 * T.size ∧ Gives 15 #[.string T] (.string H) ∧ Gives 16 #[.string H] (.tuple #[.string T, .bool true]) := by
  have hsz : (strOfNums (hexL T.data.toList)).size = 2 * T.size := by rw [strOfNums_size, hexL_len]; simp
  refine ⟨strOfNums (hexL T.data.toList), hsz, fun w => implEH T w (by omega), fun w => ?_⟩
  have h := implDH (strOfNums (hexL T.data.toList)) w (by omega)
  rw [(dh_enc T).1, (dh_enc T).2] at h
  exact h
theorem num_some (y : Int) (h0 : -9223372036854775808 ≤ y) (h1 : y ≤ 9223372036854775807) : ∃ D : ByteArray, GivesT 17 #[.int .i64 y] (.string D) ∧ Gives 19 #[.int .i64 y] (.string D) ∧
    GivesT 18 #[.string D] (.tuple #[.int .i64 (if -1000000000 < y ∧ y < 1000000000 then y else 0), .bool (decide (-1000000000 < y ∧ y < 1000000000))]) := by
  refine ⟨⟨(Lib.itoa y).toArray⟩, fun w ht => implFI y w h0 h1 ht, fun w => specFI y w h0 h1, fun w ht => ?_⟩
  have hsz : (⟨(Lib.itoa y).toArray⟩ : ByteArray).size ≤ 1048576 := by
    have : (⟨(Lib.itoa y).toArray⟩ : ByteArray).size = (Lib.itoa y).length := by simp [ByteArray.size]
    rw [this]
    unfold Lib.itoa
    split
    · have := dec_len y.natAbs (by omega); simp only [List.length_cons]; omega
    · have := dec_len y.toNat (by omega); omega
  refine (implPI _ w hsz ht).mono ?_
  rintro e w' ⟨a, b, h, rfl, hb⟩
  obtain ⟨rfl, rfl⟩ := PI_one h (PI_enc y)
  exact ⟨rfl, hb⟩

end Go.Proofs.YtamdmflofbpjkaaDoor.Num
