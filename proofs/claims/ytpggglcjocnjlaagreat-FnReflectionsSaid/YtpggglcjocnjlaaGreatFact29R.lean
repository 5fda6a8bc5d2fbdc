/- Plain facts of reflections: turned twice they are as before; Catalan numbers are differences; bounded paths are counted. -/
import Derived.Test.YtpggglcjocnjlaaGreatFact29
import Derived.Test.YtpggglcjocnjlaaGreatWith29
import Derived.Test.YtpggglcjocnjlaaGreatImpl29B
import Derived.Test.YtpggglcjocnjlaaGreatSpec3F
import Derived.Test.YtpggglcjocnjlaaGreatSpec3C
import Derived.Test.YtpggglcjocnjlaaGreatSpec4B
namespace Go.Proofs.YtpggglcjocnjlaaGreat
open Go.ChangeShapes Go.WideShapes Go.ChangeAt Go.RowKit
open Go.PlainAid (bt bt_nonneg bt_le get_bt)
set_option linter.unusedVariables false

theorem ot_ot {c : UInt8} (h : c.toNat = 117 ∨ c.toNat = 100) : otA (otA c) = c := by
  rcases h with h | h
  · rw [show otA c = 100 from if_pos h]
    exact UInt8.toNat_inj.1 (by rw [h]; rfl)
  · rw [show otA c = 117 from if_neg (by omega)]
    exact UInt8.toNat_inj.1 (by rw [h]; rfl)
theorem ot_ud (c : UInt8) : (otA c).toNat = 117 ∨ (otA c).toNat = 100 := by
  unfold otA; split
  · exact .inr rfl
  · exact .inl rfl
theorem ud_head {c : UInt8} {l : List UInt8} (h : udA (c :: l) = true) : (c.toNat = 117 ∨ c.toNat = 100) ∧ udA l = true := by
  by_cases hc : c.toNat = 117 ∨ c.toNat = 100
  · rw [udA_up l hc] at h; exact ⟨hc, h⟩
  · rw [udA_no l hc] at h; cases h
theorem map_ot : ∀ l : List UInt8, udA l = true → (l.map otA).map otA = l ∧ udA (l.map otA) = true ∧ smA (l.map otA) = - smA l := by
  intro l
  induction l with
  | nil => intro _; exact ⟨rfl, rfl, rfl⟩
  | cons c l ih =>
    intro h
    obtain ⟨h1, h2⟩ := ud_head h
    obtain ⟨a1, a2, a3⟩ := ih h2
    refine ⟨by rw [List.map_cons, List.map_cons, a1, ot_ot h1], by rw [List.map_cons, udA_up _ (ot_ud c)]; exact a2, ?_⟩
    rw [List.map_cons]
    rcases h1 with h1 | h1
    · rw [smA_up l h1, smA_down _ (by unfold otA; rw [if_pos h1]; decide), a3]; omega
    · rw [smA_down l (by omega), smA_up _ (by unfold otA; rw [if_neg (by omega)]; decide), a3]; omega
theorem sm_st (c : UInt8) (l : List UInt8) : smA (c :: l) = stA c + smA l := rfl
/-- The flipped word: flipped again, its cut, its letters. -/
theorem flA_all : ∀ (l : List UInt8) (h : Int) (i : Nat), udA l = true → flA h (flA h l) = l ∧ cutA h (flA h l) i = cutA h l i ∧ udA (flA h l) = true ∧ (cutA h l i ≠ 0 → h + smA (flA h l) = -2 - (h + smA l)) := by
  intro l
  induction l with
  | nil => intro h i _; exact ⟨rfl, rfl, rfl, fun h => absurd rfl h⟩
  | cons c l ih =>
    intro h i hu
    obtain ⟨h1, h2⟩ := ud_head hu
    by_cases e : h + stA c = -1
    · obtain ⟨m1, m2, m3⟩ := map_ot l h2
      refine ⟨by rw [flA_hit _ _ _ e, flA_hit _ _ _ e, m1], by rw [flA_hit _ _ _ e, cutA_hit _ _ _ _ e, cutA_hit _ _ _ _ e], by rw [flA_hit _ _ _ e, udA_up _ h1]; exact m2, fun _ => ?_⟩
      rw [flA_hit _ _ _ e, sm_st, sm_st, m3]; omega
    · obtain ⟨a1, a2, a3, a4⟩ := ih (h + stA c) (i + 1) h2
      refine ⟨by rw [flA_miss _ _ _ e, flA_miss _ _ _ e, a1], by rw [flA_miss _ _ _ e, cutA_miss _ _ _ _ e, cutA_miss _ _ _ _ e]; exact a2, by rw [flA_miss _ _ _ e, udA_up _ h1]; exact a3, fun hc => ?_⟩
      rw [cutA_miss _ _ _ _ e] at hc
      have := a4 hc
      rw [flA_miss _ _ _ e, sm_st, sm_st]; omega
theorem flS_list (s : ByteArray) : (flS s).data.toList = flA 0 s.data.toList := rfl
theorem fls_all {s : ByteArray} (hu : udS s = true) (hc : 0 < ct s) : flS (flS s) = s ∧ ct (flS s) = ct s ∧ udS (flS s) = true ∧ smA (flS s).data.toList = -2 - smA s.data.toList := by
  obtain ⟨h1, h2⟩ := ud_parts hu
  obtain ⟨a1, a2, a3, a4⟩ := flA_all s.data.toList 0 0 h1
  refine ⟨?_, a2, ?_, ?_⟩
  · apply ByteArray.ext
    apply Array.ext'
    rw [flS_list, flS_list, a1]
  · unfold udS
    rw [flS_list, a3, flS_size, decide_eq_true h2]; rfl
  · have := a4 (Nat.pos_iff_ne_zero.1 hc)
    rw [flS_list]; omega
theorem bad_low {s : ByteArray} (h : badB s = true) : lowB (rbP s) = true ∧ ruP (rbP s) = s := by
  have hr : rbP s = flS s := if_pos h
  obtain ⟨hu, hc⟩ := bad_ud h
  obtain ⟨a1, a2, a3, a4⟩ := fls_all hu hc
  have hs : smA s.data.toList = 0 := by
    rw [bad_cut hu, Bool.and_eq_true, decide_eq_true_eq] at h
    exact h.1
  have hl : lowB (flS s) = true := by unfold lowB; rw [a3, a4, hs]; rfl
  rw [hr]
  exact ⟨hl, by unfold ruP; rw [if_pos hl, a1]⟩
theorem low_bad2 {s : ByteArray} (h : lowB s = true) : badB (ruP s) = true ∧ rbP (ruP s) = s := by
  have hr : ruP s = flS s := if_pos h
  obtain ⟨hu, hc⟩ := low_ud h
  obtain ⟨a1, a2, a3, a4⟩ := fls_all hu hc
  have hs : smA s.data.toList = -2 := by
    unfold lowB at h
    rw [Bool.and_eq_true, decide_eq_true_eq] at h
    exact h.2
  have hl : badB (flS s) = true := by rw [bad_cut a3, a4, hs, a2, decide_eq_true hc]; rfl
  rw [hr]
  exact ⟨hl, by unfold rbP; rw [if_pos hl, a1]⟩

/- Catalan numbers as differences. -/
def blN (u d : Nat) : Int := cwP u d - crP u d
theorem bln_rec : ∀ u, u < 14 → ∀ d, d < 14 → (u = d → blN (u + 1) (d + 1) = blN u (d + 1)) ∧ (u < d → blN (u + 1) (d + 1) = blN u (d + 1) + blN (u + 1) d) := by decide +kernel
theorem bln_zero : ∀ d, d < 15 → blN 0 d = 1 := by decide +kernel
theorem wy_bln : ∀ (d u : Nat), u ≤ d → d ≤ 14 → wy u d = blN u d := by
  intro d
  induction d with
  | zero => intro u hu _; obtain rfl : u = 0 := by omega
            exact (bln_zero 0 (by decide)).symm
  | succ d ihd =>
    intro u
    induction u with
    | zero => intro _ hd; rw [wy_zero, bln_zero _ (by omega)]
    | succ u ihu =>
      intro hu hd
      have h1 := ihu (by omega) hd
      have h2 := bln_rec u (by omega) d (by omega)
      by_cases e : u = d
      · subst e; rw [wy_diag, h2.1 rfl]; exact h1
      · rw [wy_step _ _ (by omega), h2.2 (by omega), h1, ihd (u + 1) (by omega) (by omega)]
theorem cat_diff {n : Int} (h0 : 0 ≤ n) (h : n ≤ 14) : cwP n n - cbP n = catP n := by
  obtain ⟨k, rfl⟩ : ∃ k : Nat, n = k := ⟨n.toNat, by omega⟩
  have h1 : catP (k : Int) = wy k k := by unfold catP; rw [if_pos (by omega)]; rfl
  have h2 : cbP (k : Int) = crP k k := by unfold cbP crP; rw [if_pos (by omega)]
  rw [h1, h2, wy_bln k k (Nat.le_refl _) (by omega)]
  rfl
theorem cat_bd {n : Int} (h0 : 0 ≤ n) (h : n ≤ 14) : 0 ≤ catP n ∧ catP n ≤ 155117520 := by
  rw [← cat_diff h0 h]
  obtain ⟨k, rfl⟩ : ∃ k : Nat, n = k := ⟨n.toNat, by omega⟩
  have : ∀ k : Nat, k < 15 → 0 ≤ cwP k k - cbP k ∧ cwP k k - cbP k ≤ 155117520 := by decide +kernel
  exact this k (by omega)

/- Bounded paths. -/
def allL : Nat → List UInt8 → Nat → Nat → List (List UInt8)
  | 0, s, _, _ => [s]
  | f + 1, s, u, d => (if 0 < u then allL f (s ++ [117]) (u - 1) d else []) ++ (if u < d then allL f (s ++ [100]) u (d - 1) else [])
theorem allF_L : ∀ (f : Nat) (s : ByteArray) (u d : Nat), (allF f s u d).map (fun x => x.data.toList) = allL f s.data.toList u d := by
  intro f
  induction f with
  | zero => intro s u d; rfl
  | succ f ih =>
    intro s u d
    have e : ∀ c : UInt8, (s ++ ⟨#[c]⟩ : ByteArray).data.toList = s.data.toList ++ [c] := fun c => by rw [ByteArray.data_append, Array.toList_append]
    rw [allF, allL, List.map_append]
    congr 1
    · split
      · rw [ih, e]
      · rfl
    · split
      · rw [ih, e]
      · rfl
def dpA (l : List UInt8) : Int := mxL 0 (hsL 0 l)
/-- How many of the first i words are at most h deep. -/
def cntA (ls : List (List UInt8)) (h : Int) : Nat → Nat
  | 0 => 0
  | i + 1 => cntA ls h i + if dpA (ls.getD i []) ≤ h then 1 else 0
def dps (m : Nat) : List Int := (allL (m + m) [] m m).map dpA
def cntD (ds : List Int) (h : Int) : Nat := (ds.filter fun d => decide (d ≤ h)).length
theorem cntA_le (ls : List (List UInt8)) (h : Int) : ∀ i, cntA ls h i ≤ i := by
  intro i
  induction i with
  | zero => exact Nat.le_refl _
  | succ i ih => rw [cntA]; split <;> omega
theorem cntA_all (h : Int) : ∀ (ls pre : List (List UInt8)), cntA (pre ++ ls) h (pre ++ ls).length = cntA (pre ++ ls) h pre.length + cntD (ls.map dpA) h := by
  intro ls
  induction ls with
  | nil => intro pre; simp [cntD]
  | cons l ls ih =>
    intro pre
    have h1 := ih (pre ++ [l])
    rw [List.append_assoc, List.singleton_append] at h1
    rw [h1, List.length_append, List.length_singleton, cntA]
    have h2 : (pre ++ l :: ls).getD pre.length [] = l := by simp [List.getD]
    rw [h2]
    unfold cntD
    rw [List.map_cons, List.filter_cons]
    by_cases e : dpA l ≤ h
    · rw [if_pos e, if_pos (decide_eq_true e), List.length_cons]; omega
    · rw [if_neg e, if_neg (by rw [decide_eq_false e]; simp)]; omega
theorem dps_dyck : ∀ m, m < 7 → (allL (m + m) [] m m).all (fun l => decide (l.length ≤ 16) && dyckFrom 0 l) = true := by decide +kernel
theorem dps_count : ∀ m, m < 7 → (List.range 16).all (fun h => decide (((cntD (dps m) (h : Int) : Nat) : Int) = wiP (m : Int) (h : Int))) = true := by decide +kernel
theorem paths_dyck {m : Int} : ∀ x ∈ pathsP m, dyck x = true := by
  intro x hx
  unfold pathsP at hx
  split at hx
  · rename_i hm
    have h1 : x.data.toList ∈ allL (m.toNat + m.toNat) [] m.toNat m.toNat := by
      have := allF_L (m.toNat + m.toNat) ⟨#[]⟩ m.toNat m.toNat
      rw [show (⟨#[]⟩ : ByteArray).data.toList = [] from rfl] at this
      rw [← this]
      exact List.mem_map_of_mem hx
    have h2 := List.all_eq_true.1 (dps_dyck m.toNat (by omega)) _ h1
    rw [Bool.and_eq_true, decide_eq_true_eq] at h2
    rw [dyck_short (by have : x.size = x.data.toList.length := by simp
                       omega)]
    exact h2.2
  · exact absurd hx List.not_mem_nil
/-- Depths of listed paths, counted as the formula says. -/
theorem within_count {m h : Int} (hm0 : 0 ≤ m) (hm : m ≤ 6) (hh : 0 ≤ h ∧ h ≤ 15) : ((cntA ((pathsP m).map (fun x => x.data.toList)) h (pathsP m).length : Nat) : Int) = wiP m h := by
  obtain ⟨k, rfl⟩ : ∃ k : Nat, m = k := ⟨m.toNat, by omega⟩
  obtain ⟨j, rfl⟩ : ∃ j : Nat, h = j := ⟨h.toNat, by omega⟩
  have h1 : (pathsP (k : Int)).map (fun x => x.data.toList) = allL (k + k) [] k k := by
    have := allF_L (k + k) ⟨#[]⟩ k k
    rw [show (⟨#[]⟩ : ByteArray).data.toList = [] from rfl] at this
    rw [← this]
    unfold pathsP
    rw [if_pos (by omega)]
    rfl
  have h2 := List.all_eq_true.1 (dps_count k (by omega)) j (List.mem_range.2 (by omega))
  have h3 := cntA_all (j : Int) ((pathsP (k : Int)).map (fun x => x.data.toList)) []
  rw [List.nil_append, List.length_map] at h3
  rw [← of_decide_eq_true h2, h3, h1]
  unfold dps
  simp [cntA]
theorem brL_atR (s : ByteArray) : ∀ (k j : Nat) (h : j < k) (h' : j < (brL s k).length), (brL s k)[j] = if bt s j = 117 then 40 else 41 := by
  intro k
  induction k with
  | zero => intro j h; omega
  | succ k ih =>
    intro j h h'
    have h2 : j < (brL s k ++ [if bt s k = 117 then 40 else 41]).length := h'
    rw [show (brL s (k + 1))[j] = (brL s k ++ [if bt s k = 117 then 40 else 41])[j]'h2 from rfl, List.getElem_append]
    split
    · exact ih j (by rw [brL_len] at *; assumption) _
    · obtain rfl : j = k := by rename_i h2; rw [brL_len] at h2; omega
      simp [brL_len]
theorem pbL_atR (s : ByteArray) : ∀ (k j : Nat) (h : j < k) (h' : j < (pbL s k).length), (pbL s k)[j] = if bt s j = 40 then 117 else 100 := by
  intro k
  induction k with
  | zero => intro j h; omega
  | succ k ih =>
    intro j h h'
    have h2 : j < (pbL s k ++ [if bt s k = 40 then 117 else 100]).length := h'
    rw [show (pbL s (k + 1))[j] = (pbL s k ++ [if bt s k = 40 then 117 else 100])[j]'h2 from rfl, List.getElem_append]
    split
    · exact ih j (by rw [pbL_len] at *; assumption) _
    · obtain rfl : j = k := by rename_i h2; rw [pbL_len] at h2; omega
      simp [pbL_len]
theorem pbW_btR (s : ByteArray) (k : Nat) (h : k < s.size) : bt (pobW s) k = if bt s k = 40 then 117 else 100 := by
  rw [← get_bt _ k (by rw [pobW_size]; exact h)]
  have e : (pobW s)[k]'(by rw [pobW_size]; exact h) = (pbL s s.size)[k]'(by rw [pbL_len]; exact h) := rfl
  rw [e, pbL_atR s _ k h]
  split <;> rfl
theorem brW_btR (s : ByteArray) (k : Nat) (h : k < s.size) : bt ⟨(brL s s.size).toArray⟩ k = if bt s k = 117 then 40 else 41 := by
  have hz : (⟨(brL s s.size).toArray⟩ : ByteArray).size = s.size := by rw [str_len, brL_len]
  rw [← get_bt _ k (by rw [hz]; exact h)]
  have e : (⟨(brL s s.size).toArray⟩ : ByteArray)[k]'(by rw [hz]; exact h) = (brL s s.size)[k]'(by rw [brL_len]; exact h) := rfl
  rw [e, brL_atR s _ k h]
  split <;> rfl
theorem br_depth {w : ByteArray} (hd : dyck w = true) : depthP (bracketsP w) = dpA w.data.toList := by
  have hb : bracketsP w = ⟨(brL w w.size).toArray⟩ := if_pos hd
  have hz : (bracketsP w).size = w.size := by rw [hb, str_len, brL_len]
  have e : pobW (bracketsP w) = w := by
    refine str_ext ((pobW_size _).trans hz) fun k hk => ?_
    rw [pobW_size, hz] at hk
    rw [pbW_btR _ _ (by rw [hz]; exact hk), hb, brW_btR w k hk]
    have h1 := dyck_letter hd k hk
    have h2 := get_bt w k hk
    rcases h1 with h1 | h1 <;> rw [← h2, h1] <;> rfl
  have hg : pobGood (bracketsP w) := by
    refine ⟨by rw [hz]; exact dyck_size hd, fun j hj => ?_, by rw [e]; exact hd⟩
    rw [hz] at hj
    rw [hb, brW_btR w j hj]
    split
    · exact .inl rfl
    · exact .inr rfl
  unfold depthP
  rw [(pob_yes hg).1, if_pos rfl, e, heightsP_yes hd]
  rfl

end Go.Proofs.YtpggglcjocnjlaaGreat
