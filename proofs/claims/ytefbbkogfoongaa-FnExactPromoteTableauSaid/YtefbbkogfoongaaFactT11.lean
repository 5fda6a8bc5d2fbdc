/- Tableaux of two rows and their words, plain. -/
import Derived.Test.YtefbbkogfoongaaFact11
import Derived.Test.YtefbbkogfoongaaCyc28
namespace Go.Proofs.Ytefbbkogfoongaa
open Go.ChangeShapes Go.WideShapes Go.ChangeAt Go.RowKit
open Go.PlainAid (bt bt_nonneg bt_le get_bt)
set_option linter.unusedVariables false

theorem sub_lenT : ∀ (l m : List Int), l.Nodup → (∀ x ∈ l, x ∈ m) → l.length ≤ m.length := by
  intro l
  induction l with
  | nil => intro m _ _; exact Nat.zero_le _
  | cons a t ih =>
    intro m hn hs
    obtain ⟨ha, ht⟩ := List.nodup_cons.1 hn
    have hm := hs a (List.mem_cons_self ..)
    have h1 := ih (m.erase a) ht fun x hx => (List.mem_erase_of_ne (fun e => ha (by rw [← e]; exact hx))).2 (hs x (List.mem_cons_of_mem _ hx))
    have h2 := List.length_erase_of_mem hm
    have h3 := List.length_pos_of_mem hm
    rw [List.length_cons]; omega
theorem sorted_ext : ∀ l m : List Int, l.Pairwise (· < ·) → m.Pairwise (· < ·) → (∀ x, x ∈ l ↔ x ∈ m) → l = m := by
  intro l
  induction l with
  | nil =>
    intro m _ _ h
    cases m with
    | nil => rfl
    | cons b m => exact absurd ((h b).2 (List.mem_cons_self ..)) (List.not_mem_nil)
  | cons a l ih =>
    intro m hl hm h
    cases m with
    | nil => exact absurd ((h a).1 (List.mem_cons_self ..)) (List.not_mem_nil)
    | cons b m =>
      obtain ⟨hl1, hl2⟩ := List.pairwise_cons.1 hl
      obtain ⟨hm1, hm2⟩ := List.pairwise_cons.1 hm
      have hab : a = b := by
        rcases List.mem_cons.1 ((h a).1 (List.mem_cons_self ..)) with e | e
        · exact e
        · rcases List.mem_cons.1 ((h b).2 (List.mem_cons_self ..)) with e2 | e2
          · exact e2.symm
          · have := hm1 a e
            have := hl1 b e2
            omega
      subst hab
      congr 1
      refine ih m hl2 hm2 fun x => ⟨fun hx => ?_, fun hx => ?_⟩
      · rcases List.mem_cons.1 ((h x).1 (List.mem_cons_of_mem _ hx)) with e | e
        · have := hl1 x hx; omega
        · exact e
      · rcases List.mem_cons.1 ((h x).2 (List.mem_cons_of_mem _ hx)) with e | e
        · have := hm1 x hx; omega
        · exact e
theorem getD_mem {l : List Int} {i : Nat} (h : i < l.length) : l.getD i 0 ∈ l := by
  rw [List.getD_eq_getElem?_getD, List.getElem?_eq_getElem h]; exact List.getElem_mem h
theorem mem_getD {l : List Int} {x : Int} (h : x ∈ l) : ∃ i, i < l.length ∧ l.getD i 0 = x := by
  obtain ⟨i, hi, e⟩ := List.mem_iff_getElem.1 h
  exact ⟨i, hi, by rw [List.getD_eq_getElem?_getD, List.getElem?_eq_getElem hi]; exact e⟩
theorem sorted_lt {l : List Int} (h : l.Pairwise (· < ·)) {i j : Nat} (hij : i < j) (hj : j < l.length) : l.getD i 0 < l.getD j 0 := by
  have := List.pairwise_iff_getElem.1 h i j (by omega) hj hij
  rw [List.getD_eq_getElem?_getD, List.getElem?_eq_getElem (by omega : i < l.length), List.getD_eq_getElem?_getD, List.getElem?_eq_getElem hj]
  exact this
theorem sorted_of {l : List Int} (h : ∀ i, i < l.length → 0 < i → l.getD (i - 1) 0 < l.getD i 0) : l.Pairwise (· < ·) := by
  have h2 : ∀ d i, i + d + 1 < l.length → l.getD i 0 < l.getD (i + d + 1) 0 := by
    intro d
    induction d with
    | zero => intro i hi; have := h (i + 1) (by omega) (by omega); rwa [Nat.add_sub_cancel] at this
    | succ d ih =>
      intro i hi
      have h3 := ih i (by omega)
      have h4 := h (i + d + 1 + 1) (by omega) (by omega)
      rw [Nat.add_sub_cancel] at h4
      rw [show i + (d + 1) + 1 = i + d + 1 + 1 by omega]
      omega
  rw [List.pairwise_iff_getElem]
  intro i j hi hj hij
  have := h2 (j - i - 1) i (by omega)
  rw [show i + (j - i - 1) + 1 = j by omega] at this
  rw [List.getD_eq_getElem?_getD, List.getElem?_eq_getElem hi, List.getD_eq_getElem?_getD, List.getElem?_eq_getElem hj] at this
  exact this

/- What plU and plD are. -/
theorem plU_mem (s : ByteArray) (x : Int) : ∀ k, x ∈ plU s k ↔ ∃ p, p < k ∧ x = (p : Int) + 1 ∧ bt s p = 117 := by
  intro k
  induction k with
  | zero => exact ⟨fun h => absurd h List.not_mem_nil, fun ⟨p, h, _⟩ => absurd h (Nat.not_lt_zero _)⟩
  | succ k ih =>
    rw [plU]
    by_cases e : bt s k = 117
    · rw [if_pos e, List.mem_append, ih, List.mem_singleton]
      refine ⟨fun h => h.elim (fun ⟨p, a, b, c⟩ => ⟨p, by omega, b, c⟩) (fun h => ⟨k, by omega, h, e⟩), fun ⟨p, a, b, c⟩ => ?_⟩
      by_cases hp : p = k
      · subst hp; exact .inr b
      · exact .inl ⟨p, by omega, b, c⟩
    · rw [if_neg e, ih]
      refine ⟨fun ⟨p, a, b, c⟩ => ⟨p, by omega, b, c⟩, fun ⟨p, a, b, c⟩ => ⟨p, ?_, b, c⟩⟩
      by_cases hp : p = k
      · subst hp; exact absurd c e
      · omega
theorem plD_mem (s : ByteArray) (x : Int) : ∀ k, x ∈ plD s k ↔ ∃ p, p < k ∧ x = (p : Int) + 1 ∧ bt s p ≠ 117 := by
  intro k
  induction k with
  | zero => exact ⟨fun h => absurd h List.not_mem_nil, fun ⟨p, h, _⟩ => absurd h (Nat.not_lt_zero _)⟩
  | succ k ih =>
    rw [plD]
    by_cases e : bt s k = 117
    · rw [if_pos e, ih]
      refine ⟨fun ⟨p, a, b, c⟩ => ⟨p, by omega, b, c⟩, fun ⟨p, a, b, c⟩ => ⟨p, ?_, b, c⟩⟩
      by_cases hp : p = k
      · subst hp; exact absurd e c
      · omega
    · rw [if_neg e, List.mem_append, ih, List.mem_singleton]
      refine ⟨fun h => h.elim (fun ⟨p, a, b, c⟩ => ⟨p, by omega, b, c⟩) (fun h => ⟨k, by omega, h, e⟩), fun ⟨p, a, b, c⟩ => ?_⟩
      by_cases hp : p = k
      · subst hp; exact .inr b
      · exact .inl ⟨p, by omega, b, c⟩
theorem plU_sorted (s : ByteArray) : ∀ k, (plU s k).Pairwise (· < ·) := by
  intro k
  induction k with
  | zero => exact List.Pairwise.nil
  | succ k ih =>
    rw [plU]
    split
    · refine List.pairwise_append.2 ⟨ih, List.pairwise_singleton _ _, fun a ha b hb => ?_⟩
      obtain ⟨p, h1, h2, -⟩ := (plU_mem s a k).1 ha
      rw [List.mem_singleton.1 hb]; omega
    · exact ih
theorem plD_sorted (s : ByteArray) : ∀ k, (plD s k).Pairwise (· < ·) := by
  intro k
  induction k with
  | zero => exact List.Pairwise.nil
  | succ k ih =>
    rw [plD]
    split
    · exact ih
    · refine List.pairwise_append.2 ⟨ih, List.pairwise_singleton _ _, fun a ha b hb => ?_⟩
      obtain ⟨p, h1, h2, -⟩ := (plD_mem s a k).1 ha
      rw [List.mem_singleton.1 hb]; omega
theorem plU_pre (s : ByteArray) (k : Nat) : ∀ d, ∃ t, plU s (k + d) = plU s k ++ t := by
  intro d
  induction d with
  | zero => exact ⟨[], by simp⟩
  | succ d ih =>
    obtain ⟨t, ht⟩ := ih
    rw [show k + (d + 1) = k + d + 1 by omega, plU]
    split
    · exact ⟨t ++ [((k + d : Nat) : Int) + 1], by rw [ht, List.append_assoc]⟩
    · exact ⟨t, ht⟩
theorem plD_pre (s : ByteArray) (k : Nat) : ∀ d, ∃ t, plD s (k + d) = plD s k ++ t := by
  intro d
  induction d with
  | zero => exact ⟨[], by simp⟩
  | succ d ih =>
    obtain ⟨t, ht⟩ := ih
    rw [show k + (d + 1) = k + d + 1 by omega, plD]
    split
    · exact ⟨t, ht⟩
    · exact ⟨t ++ [((k + d : Nat) : Int) + 1], by rw [ht, List.append_assoc]⟩
theorem pre_getD {a t l : List Int} (h : l = a ++ t) {i : Nat} (hi : i < a.length) : a.getD i 0 = l.getD i 0 := by
  rw [h, List.getD_eq_getElem?_getD, List.getD_eq_getElem?_getD, List.getElem?_append_left hi]
/-- The height behind k letters. -/
theorem sm_pl {s : ByteArray} (hu : udA s.data.toList = true) : ∀ k, k ≤ s.size → smA (s.data.toList.take k) = ((plU s k).length : Int) - ((plD s k).length : Int) := by
  intro k
  induction k with
  | zero => intro _; rfl
  | succ k ih =>
    intro hk
    have h := ih (by omega)
    have hl : k < s.data.toList.length := by
      have : s.data.toList.length = s.size := by simp
      omega
    have e : s.data.toList.take (k + 1) = s.data.toList.take k ++ [s.data.toList[k]] := by rw [List.take_append_getElem]
    have hb : bt s k = (s.data.toList[k].toNat : Int) := by rw [bt_at s k (by omega)]; rfl
    rw [e, smA_app, h, plU, plD, hb]
    by_cases e2 : s.data.toList[k].toNat = 117
    · rw [smA_up _ e2, if_pos (by omega), if_pos (by omega), List.length_append]; simp only [smA, List.length_singleton]; omega
    · rw [smA_down _ e2, if_neg (by omega), if_neg (by omega), List.length_append]; simp only [smA, List.length_singleton]; omega
theorem pl_sum (s : ByteArray) : ∀ k, (plU s k).length + (plD s k).length = k := by
  intro k
  induction k with
  | zero => rfl
  | succ k ih =>
    rw [plU, plD]
    split
    · rw [List.length_append, List.length_singleton]; omega
    · rw [List.length_append, List.length_singleton]; omega

/- The word of an upper row. -/
def wdL (L : List Int) : Nat → List UInt8
  | 0 => []
  | k + 1 => wdL L k ++ [if L.contains ((k : Int) + 1) = true then 117 else 100]
theorem wdL_len (L : List Int) : ∀ k, (wdL L k).length = k := by
  intro k
  induction k with
  | zero => rfl
  | succ k ih => rw [wdL, List.length_append, ih]; rfl
theorem wdL_ud (L : List Int) : ∀ k, udA (wdL L k) = true := by
  intro k
  induction k with
  | zero => rfl
  | succ k ih => rw [wdL, udA_app, ih]; split <;> rfl
theorem wdL_at (L : List Int) (p : Nat) : ∀ k, p < k → (wdL L k)[p]? = some (if L.contains ((p : Int) + 1) = true then 117 else 100) := by
  intro k
  induction k with
  | zero => intro h; omega
  | succ k ih =>
    intro h
    rw [wdL]
    by_cases e : p = k
    · subst e; rw [List.getElem?_append_right (by rw [wdL_len]; exact Nat.le_refl _), wdL_len, Nat.sub_self]; rfl
    · rw [List.getElem?_append_left (by rw [wdL_len]; omega)]; exact ih (by omega)
def wB (L : List Int) (k : Nat) : ByteArray := ⟨(wdL L k).toArray⟩
theorem wB_size (L : List Int) (k : Nat) : (wB L k).size = k := by
  show (wdL L k).toArray.size = k
  rw [List.size_toArray, wdL_len]
theorem wB_list (L : List Int) (k : Nat) : (wB L k).data.toList = wdL L k := rfl
theorem wB_bt (L : List Int) (k p : Nat) (h : p < k) : bt (wB L k) p = if L.contains ((p : Int) + 1) = true then 117 else 100 := by
  have hs := wB_size L k
  rw [bt_at _ p (by omega)]
  have h1 := wdL_at L p k h
  have h2 : (wB L k)[p]'(by omega) = (wdL L k)[p]'(by rw [wdL_len]; exact h) := rfl
  rw [h2]
  rw [List.getElem?_eq_getElem (by rw [wdL_len]; exact h)] at h1
  rw [Option.some.inj h1]
  split <;> rfl
theorem wB_u (L : List Int) (k p : Nat) (h : p < k) : bt (wB L k) p = 117 ↔ ((p : Int) + 1) ∈ L := by
  rw [wB_bt L k p h]
  by_cases e : ((p : Int) + 1) ∈ L
  · rw [if_pos (List.contains_iff_mem.2 e)]; exact ⟨fun _ => e, fun _ => rfl⟩
  · rw [if_neg (fun h => e (List.contains_iff_mem.1 h))]; exact ⟨fun h => by omega, fun h => absurd h e⟩

/- Tableaux. -/
def okT (L M : List Int) (n i : Nat) : Bool :=
  decide (1 ≤ L.getD i 0 ∧ L.getD i 0 ≤ 2 * (n : Int) ∧ 1 ≤ M.getD i 0 ∧ M.getD i 0 ≤ 2 * (n : Int) ∧ (0 < i → L.getD (i - 1) 0 < L.getD i 0) ∧ (0 < i → M.getD (i - 1) 0 < M.getD i 0) ∧ L.getD i 0 < M.getD i 0) && (List.range n).all fun k => decide (L.getD i 0 ≠ M.getD k 0)
def tab2 (L M : List Int) : Bool := decide (L.length = M.length ∧ L.length ≤ 8) && (List.range L.length).all (okT L M L.length)
def tabB : List (List Int) → Bool
  | [L, M] => tab2 L M
  | _ => false
theorem okT_iff {L M : List Int} {n i : Nat} : okT L M n i = true ↔ (1 ≤ L.getD i 0 ∧ L.getD i 0 ≤ 2 * (n : Int) ∧ 1 ≤ M.getD i 0 ∧ M.getD i 0 ≤ 2 * (n : Int) ∧ (0 < i → L.getD (i - 1) 0 < L.getD i 0) ∧ (0 < i → M.getD (i - 1) 0 < M.getD i 0) ∧ L.getD i 0 < M.getD i 0) ∧ ∀ k, k < n → L.getD i 0 ≠ M.getD k 0 := by
  unfold okT
  rw [Bool.and_eq_true, decide_eq_true_eq, List.all_eq_true]
  refine and_congr Iff.rfl ⟨fun h k hk => of_decide_eq_true (h k (List.mem_range.2 hk)), fun h k hk => decide_eq_true (h k (List.mem_range.1 hk))⟩
theorem tab2_iff {L M : List Int} : tab2 L M = true ↔ (L.length = M.length ∧ L.length ≤ 8) ∧ ∀ i, i < L.length → okT L M L.length i = true := by
  unfold tab2
  rw [Bool.and_eq_true, decide_eq_true_eq, List.all_eq_true]
  exact and_congr Iff.rfl ⟨fun h k hk => h k (List.mem_range.2 hk), fun h k hk => h k (List.mem_range.1 hk)⟩
/-- The word of a tableau. -/
theorem tab_word {L M : List Int} (h : tab2 L M = true) : L.length ≤ 8 ∧ (∀ x ∈ L, 1 ≤ x ∧ x ≤ 2 * (L.length : Int)) ∧ dyck (wB L (2 * L.length)) = true ∧ plU (wB L (2 * L.length)) (2 * L.length) = L ∧ plD (wB L (2 * L.length)) (2 * L.length) = M := by
  obtain ⟨⟨hl, h8⟩, hk⟩ := tab2_iff.1 h
  have hk2 := fun i hi => okT_iff.1 (hk i hi)
  have hLs : L.Pairwise (· < ·) := sorted_of fun i hi h0 => (hk2 i hi).1.2.2.2.2.1 h0
  have hMs : M.Pairwise (· < ·) := sorted_of fun i hi h0 => (hk2 i (by omega)).1.2.2.2.2.2.1 h0
  have hLr : ∀ x ∈ L, 1 ≤ x ∧ x ≤ 2 * (L.length : Int) := fun x hx => by
    obtain ⟨i, hi, rfl⟩ := mem_getD hx
    exact ⟨(hk2 i hi).1.1, (hk2 i hi).1.2.1⟩
  have hMr : ∀ x ∈ M, 1 ≤ x ∧ x ≤ 2 * (L.length : Int) := fun x hx => by
    obtain ⟨i, hi, rfl⟩ := mem_getD hx
    exact ⟨(hk2 i (by omega)).1.2.2.1, (hk2 i (by omega)).1.2.2.2.1⟩
  have hdis : ∀ x ∈ L, x ∉ M := fun x hx hm => by
    obtain ⟨i, hi, rfl⟩ := mem_getD hx
    obtain ⟨k, hk3, e⟩ := mem_getD hm
    exact (hk2 i hi).2 k (by omega) e.symm
  have hall : ∀ p, p < 2 * L.length → ((p : Int) + 1) ∈ L ∨ ((p : Int) + 1) ∈ M := fun p hp => by
    by_cases hm : ((p : Int) + 1) ∈ L ++ M
    · exact List.mem_append.1 hm
    · exfalso
      have hnd : (L ++ M).Nodup := List.nodup_append.2 ⟨hLs.imp fun h => Int.ne_of_lt h, hMs.imp fun h => Int.ne_of_lt h, fun a ha b hb e => hdis a ha (e ▸ hb)⟩
      have h1 := sub_lenT (L ++ M) (((List.range (2 * L.length)).map fun (k : Nat) => (k : Int) + 1).erase ((p : Int) + 1)) hnd fun x hx => by
        have hx2 : 1 ≤ x ∧ x ≤ 2 * (L.length : Int) := (List.mem_append.1 hx).elim (hLr x) (hMr x)
        exact (List.mem_erase_of_ne (fun e2 => hm (by rw [← e2]; exact hx))).2 (List.mem_map.2 ⟨x.toNat - 1, List.mem_range.2 (by omega), by omega⟩)
      rw [List.length_erase_of_mem (List.mem_map.2 ⟨p, List.mem_range.2 hp, rfl⟩)] at h1
      simp at h1
      omega
  obtain ⟨s, hs⟩ : ∃ s, s = wB L (2 * L.length) := ⟨_, rfl⟩
  have hsz : s.size = 2 * L.length := by rw [hs]; exact wB_size _ _
  have hbu : ∀ p, p < 2 * L.length → (bt s p = 117 ↔ ((p : Int) + 1) ∈ L) := fun p hp => by rw [hs]; exact wB_u L _ p hp
  have hU : plU s (2 * L.length) = L := sorted_ext _ _ (plU_sorted s _) hLs fun x => by
    rw [plU_mem]
    refine ⟨fun ⟨p, h1, h2, h3⟩ => by rw [h2]; exact (hbu p h1).1 h3, fun hx => ?_⟩
    have h2 := hLr x hx
    refine ⟨x.toNat - 1, by omega, by omega, (hbu _ (by omega)).2 ?_⟩
    rwa [show ((x.toNat - 1 : Nat) : Int) + 1 = x by omega]
  have hD : plD s (2 * L.length) = M := sorted_ext _ _ (plD_sorted s _) hMs fun x => by
    rw [plD_mem]
    refine ⟨fun ⟨p, h1, h2, h3⟩ => by rw [h2]; exact (hall p h1).resolve_left fun h => h3 ((hbu p h1).2 h), fun hx => ?_⟩
    have h2 := hMr x hx
    refine ⟨x.toNat - 1, by omega, by omega, fun h3 => ?_⟩
    have h4 := (hbu _ (by omega)).1 h3
    rw [show ((x.toNat - 1 : Nat) : Int) + 1 = x by omega] at h4
    exact hdis x h4 hx
  have hud : udA s.data.toList = true := by rw [hs]; exact wdL_ud L _
  have hlen : s.data.toList.length = s.size := by simp
  refine ⟨h8, hLr, ?_, by rw [← hs]; exact hU, by rw [← hs]; exact hD⟩
  rw [← hs, dyck_short (by omega)]
  refine df_of _ 0 hud (fun k hk3 => ?_) ?_
  · rw [sm_pl hud k (by omega)]
    by_cases hlt : (plU s k).length < (plD s k).length
    · exfalso
      obtain ⟨t1, e1⟩ := plU_pre s k (2 * L.length - k)
      obtain ⟨t2, e2⟩ := plD_pre s k (2 * L.length - k)
      rw [show k + (2 * L.length - k) = 2 * L.length by omega] at e1 e2
      rw [hU] at e1
      rw [hD] at e2
      have hdl : (plD s k).length ≤ M.length := by rw [e2, List.length_append]; omega
      obtain ⟨a, ha⟩ : ∃ a, a = (plU s k).length := ⟨_, rfl⟩
      have h1 := pre_getD e2 (i := a) (by omega)
      have h2 := getD_mem (l := plD s k) (i := a) (by omega)
      rw [h1] at h2
      obtain ⟨p, hp1, hp2, -⟩ := (plD_mem s _ k).1 h2
      have h3 := (hk2 a (by omega)).1
      have h4 := (plU_mem s (L.getD a 0) k).2 ⟨(L.getD a 0).toNat - 1, by omega, by omega, (hbu _ (by omega)).2 (by
        rw [show (((L.getD a 0).toNat - 1 : Nat) : Int) + 1 = L.getD a 0 by omega]
        exact getD_mem (by omega))⟩
      obtain ⟨j, hj, ej⟩ := mem_getD h4
      rw [pre_getD e1 hj] at ej
      have := sorted_lt hLs (show j < a by omega) (by omega)
      omega
    · omega
  · have h1 := sm_pl hud s.size (Nat.le_refl _)
    rw [List.take_of_length_le (by omega), hsz, hU, hD] at h1
    rw [h1]; omega
/-- A word whose places are two rows makes a tableau of them. -/
theorem tab_of {L M : List Int} (h8 : L.length ≤ 8) (hd : dyck (wB L (2 * L.length)) = true) (hU : plU (wB L (2 * L.length)) (2 * L.length) = L) (hD : plD (wB L (2 * L.length)) (2 * L.length) = M) : tab2 L M = true := by
  obtain ⟨s, hs⟩ : ∃ s, s = wB L (2 * L.length) := ⟨_, rfl⟩
  have hsz : s.size = 2 * L.length := by rw [hs]; exact wB_size _ _
  rw [← hs] at hd hU hD
  have h16 := dyck_size hd
  rw [dyck_short h16] at hd
  obtain ⟨hud, hsum, hpre⟩ := df_pref _ _ hd
  have hlen : s.data.toList.length = s.size := by simp
  have h1 := sm_pl hud s.size (Nat.le_refl _)
  rw [List.take_of_length_le (by omega), hsz, hU, hD] at h1
  have hll : L.length = M.length := by omega
  have hLs : L.Pairwise (· < ·) := by rw [← hU]; exact plU_sorted s _
  have hMs : M.Pairwise (· < ·) := by rw [← hD]; exact plD_sorted s _
  have hLm : ∀ x ∈ L, ∃ p, p < 2 * L.length ∧ x = (p : Int) + 1 ∧ bt s p = 117 := fun x hx => (plU_mem s x _).1 (by rw [hU]; exact hx)
  have hMm : ∀ x ∈ M, ∃ p, p < 2 * L.length ∧ x = (p : Int) + 1 ∧ bt s p ≠ 117 := fun x hx => (plD_mem s x _).1 (by rw [hD]; exact hx)
  have hdis : ∀ x ∈ L, x ∉ M := fun x hx hm => by
    obtain ⟨p, -, e1, e2⟩ := hLm x hx
    obtain ⟨q, -, e3, e4⟩ := hMm x hm
    obtain rfl : p = q := by omega
    exact e4 e2
  refine tab2_iff.2 ⟨⟨hll, h8⟩, fun i hi => okT_iff.2 ⟨?_, fun k hk e => hdis _ (getD_mem hi) (by rw [e]; exact getD_mem (by omega))⟩⟩
  obtain ⟨p, hp1, hp2, hp3⟩ := hLm _ (getD_mem hi)
  obtain ⟨q, hq1, hq2, hq3⟩ := hMm _ (getD_mem (l := M) (i := i) (by omega))
  refine ⟨by omega, by omega, by omega, by omega, fun h0 => sorted_lt hLs (by omega) hi, fun h0 => sorted_lt hMs (by omega) (by omega), ?_⟩
  by_cases hlt : L.getD i 0 < M.getD i 0
  · exact hlt
  · exfalso
    have hne : p ≠ q := fun e => hq3 (e ▸ hp3)
    have h2 := hpre (q + 1)
    rw [sm_pl hud (q + 1) (by omega)] at h2
    obtain ⟨t1, e1⟩ := plU_pre s (q + 1) (2 * L.length - (q + 1))
    obtain ⟨t2, e2⟩ := plD_pre s (q + 1) (2 * L.length - (q + 1))
    rw [show q + 1 + (2 * L.length - (q + 1)) = 2 * L.length by omega] at e1 e2
    rw [hU] at e1
    rw [hD] at e2
    have h3 : i < (plD s (q + 1)).length := by
      obtain ⟨j, hj, ej⟩ := mem_getD ((plD_mem s (M.getD i 0) (q + 1)).2 ⟨q, by omega, hq2, hq3⟩)
      have hjl : (plD s (q + 1)).length ≤ M.length := by rw [e2, List.length_append]; omega
      rw [pre_getD e2 hj] at ej
      rcases Nat.lt_trichotomy i j with h | h | h
      · omega
      · omega
      · have := sorted_lt hMs h (by omega); omega
    have h4 : (plU s (q + 1)).length ≤ i := by
      by_cases h5 : i < (plU s (q + 1)).length
      · exfalso
        have h6 := getD_mem h5
        rw [pre_getD e1 h5] at h6
        obtain ⟨r, hr1, hr2, -⟩ := (plU_mem s _ _).1 h6
        omega
      · omega
    omega

end Go.Proofs.Ytefbbkogfoongaa
