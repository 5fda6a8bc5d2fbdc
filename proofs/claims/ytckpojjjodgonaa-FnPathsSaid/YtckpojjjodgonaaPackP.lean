/- What the functions of chapter 2 answer for a word that is drawn, with letters for the answers. -/
import Derived.Test.YtckpojjjodgonaaFactsP
import Derived.Test.YtckpojjjodgonaaImpl2P
import Derived.Test.YtckpojjjodgonaaImpl2D
import Derived.Test.YtckpojjjodgonaaImpl2E
namespace Go.Proofs.Ytckpojjjodgonaa
open Go.ChangeShapes Go.WideShapes Go.ChangeAt Go.RowKit
set_option linter.unusedVariables false

/-- In each world the function answers v and changes nothing that was there. -/
def Gv (f : FuncId) (args : Array Value) (v : Value) : Prop := ∀ w : World, Calls Try.prog f args w fun e w' => e = .returned v ∧ Below w.heap.size w w'
def GvM (f : FuncId) (args : Array Value) (v : Value) : Prop := ∀ w : World, MaxInt w → Calls Try.prog f args w fun e w' => e = .returned v ∧ Below w.heap.size w w'
theorem Gv.now {f : FuncId} {a : Array Value} {v : Value} (h : Gv f a v) (w : World) : Calls Try.prog f a w fun e w' => e = .returned v ∧ Below w.heap.size w w' := h w
theorem GvM.now {f : FuncId} {a : Array Value} {v : Value} (h : GvM f a v) (w : World) (hM : MaxInt w) : Calls Try.prog f a w fun e w' => e = .returned v ∧ Below w.heap.size w w' := h w hM
theorem gv_of {f : FuncId} {args : Array Value} {v : Value} (h : ∀ w : World, Calls Try.prog f args w fun e w' => e = .returned v ∧ w = w') : Gv f args v := fun w => (h w).mono fun _ _ h => ⟨h.1, h.2 ▸ Below.refl _ _⟩
theorem firstA_size (s : ByteArray) : (firstA s).size ≤ s.size := by
  unfold firstA; split
  · rw [ByteArray.size_extract]; omega
  · exact Nat.zero_le _
theorem firstB_size (s : ByteArray) : (firstB s).size ≤ s.size := by
  unfold firstB; split
  · rw [ByteArray.size_extract]; omega
  · exact Nat.zero_le _
theorem reverse_size (s : ByteArray) : (reverseP s).size ≤ s.size := by
  unfold reverseP; split
  · rw [str_len, backL_len]; omega
  · exact Nat.zero_le _

/-- Size, peaks, returns, area. -/
theorem pkAll (s : ByteArray) (hs : s.size ≤ 1000) : ∃ z k r x : Int, k = peaksP s ∧ r = returnsP s ∧ x = areaP s ∧ Gv 23 #[.string s] (.int .i64 z) ∧ Gv 24 #[.string s] (.int .i64 z) ∧
    GvM 35 #[.string s] (.int .i64 k) ∧ Gv 40 #[.string s] (.int .i64 k) ∧ Gv 29 #[.string s] (.int .i64 r) ∧ Gv 41 #[.string s] (.int .i64 r) ∧ Gv 28 #[.string s] (.int .i64 x) ∧ Gv 42 #[.string s] (.int .i64 x) :=
  ⟨sizeP s, peaksP s, returnsP s, areaP s, rfl, rfl, rfl, fun w => sizeOfI s w (by omega), gv_of fun w => sizeOf s w (by omega), fun w hM => peaksOfI s w hM, gv_of fun w => peaksOf s w (by omega), fun w => returnsOfI s w (by omega), fun w => returnsOf s w (by omega), fun w => areaOfI s w (by omega), fun w => areaOf s w (by omega)⟩
/-- No path: nothing is cut. -/
theorem pkNone (s : ByteArray) (hs : s.size ≤ 1000) (hd : dyck s = false) : Gv 22 #[.string s] (.bool false) ∧ Gv 21 #[.string s] (.bool false) ∧
    Gv 25 #[.string s] (.tuple #[.string ⟨#[]⟩, .string ⟨#[]⟩, .bool false]) ∧ Gv 26 #[.string s] (.tuple #[.string ⟨#[]⟩, .string ⟨#[]⟩, .bool false]) ∧
    Gv 33 #[.string s] (.tuple #[.string ⟨#[]⟩, .bool false]) ∧ Gv 34 #[.string s] (.tuple #[.string ⟨#[]⟩, .bool false]) ∧
    (∀ w, Calls Try.prog 30 #[.string s] w (AnsS [] w)) ∧ (∀ w, Calls Try.prog 32 #[.string s] w (AnsS [] w)) ∧
    (∀ w, Calls Try.prog 17 #[.string s] w (AnsI [] w)) ∧ (∀ w, Calls Try.prog 20 #[.string s] w (AnsI [] w)) ∧
    (∀ v lo hi w, OwnI w lo hi v [] → hi ≤ w.heap.size → Calls Try.prog 18 #[v] w fun e w' => e = .returned (.tuple #[.string ⟨#[]⟩, .bool false]) ∧ Below w.heap.size w w') := by
  obtain ⟨h1, h2, h3, h4, h5⟩ := no_path hd
  obtain ⟨g1, g2, g3⟩ := poh_none hd
  refine ⟨fun w => isDyckI_no s w hd, gv_of fun w => isDyck_no s w (by omega) hd, fun w => ?_, fun w => ?_, fun w => ?_, gv_of fun w => ?_, fun w => ?_, fun w => ?_, fun w => ?_, fun w => ?_, fun v lo hi w hv hh => ?_⟩
  · have := firstReturnI s w (by omega); rwa [h1, h2, h3] at this
  · have := firstReturn s w (by omega); rwa [h1, h2, h3] at this
  · have := reversePathI s w (by omega); rwa [h5, hd] at this
  · have := reversePath s w (by omega); rwa [h5, hd] at this
  · have := primesOfI s w; rwa [h4] at this
  · have := primesOf s w (by omega); rwa [h4] at this
  · have := heightsOfI s w; rwa [g1] at this
  · have := heightsOf s w (by omega); rwa [g1] at this
  · have := pathOfHeightsI v [] lo hi w hv hh (by simp); rwa [g2, g3] at this
/-- A path that is drawn. -/
theorem pkPath (s : ByteArray) (hw : Word s) (hd : dyck s = true) : ∃ (hs : List Int) (ps : List ByteArray) (v : ByteArray), Gv 22 #[.string s] (.bool true) ∧ Gv 21 #[.string s] (.bool true) ∧
    Gv 33 #[.string s] (.tuple #[.string v, .bool true]) ∧ Gv 34 #[.string s] (.tuple #[.string v, .bool true]) ∧
    GvM 35 #[.string v] (.int .i64 (peaksP s)) ∧ Gv 28 #[.string v] (.int .i64 (areaP s)) ∧
    (∀ w, Calls Try.prog 30 #[.string s] w (AnsS ps w)) ∧ (∀ w, Calls Try.prog 32 #[.string s] w (AnsS ps w)) ∧ (∀ p ∈ ps, Gv 29 #[.string p] (.int .i64 1) ∧ p.size ≤ 16) ∧ catS ps = s ∧ (ps.length : Int) = returnsP s ∧ ps.length ≤ 1000 ∧
    (∀ w, Calls Try.prog 17 #[.string s] w (AnsI hs w)) ∧ (∀ w, Calls Try.prog 20 #[.string s] w (AnsI hs w)) ∧ hs.length ≤ 1000 ∧
    (∀ v lo hi w, OwnI w lo hi v hs → hi ≤ w.heap.size → Calls Try.prog 18 #[v] w fun e w' => e = .returned (.tuple #[.string s, .bool true]) ∧ Below w.heap.size w w') := by
  have hz := hw.size
  have hf := facts hw hd
  obtain ⟨g2, g3⟩ := poh_heights hd
  have hlen : (heightsP s).length = s.size + 1 := by rw [heightsP_yes hd, hsL_len]; simp
  have hpl := primesP_len s
  have hrv := reverse_size s
  refine ⟨heightsP s, primesP s, reverseP s, fun w => isDyckI_yes s w hd, gv_of fun w => isDyck_yes s w (by omega) hd, fun w => ?_, gv_of fun w => ?_, fun w hM => ?_, fun w => ?_, fun w => primesOfI s w, fun w => primesOf s w (by omega), fun p hp => ⟨fun w => ?_, (hf.one p hp).2⟩, hf.cat, hf.len, by omega, fun w => heightsOfI s w, fun w => heightsOf s w (by omega), by omega, fun v lo hi w hv hh => ?_⟩
  · have := reversePathI s w (by omega); rwa [hd] at this
  · have := reversePath s w (by omega); rwa [hd] at this
  · have := peaksOfI (reverseP s) w hM; rwa [hf.peaks] at this
  · have := areaOfI (reverseP s) w (by omega); rwa [hf.area] at this
  · have := returnsOfI p w (by have := (hf.one p hp).2; omega); rwa [(hf.one p hp).1] at this
  · have := pathOfHeightsI v (heightsP s) lo hi w hv hh (by omega); rwa [g2, g3] at this
/-- A path that is cut. -/
theorem pkCut (s : ByteArray) (hw : Word s) (hd : dyck s = true) (h0 : 0 < s.size) : ∃ (a b : ByteArray) (x1 z1 x2 r2 : Int), 0 ≤ x1 ∧ x1 ≤ 1000 ∧ 0 ≤ z1 ∧ z1 ≤ 1000 ∧ 0 ≤ x2 ∧ x2 ≤ 1000 ∧ 0 ≤ r2 ∧ r2 ≤ 1000 ∧ areaP s = x1 + z1 + x2 ∧ returnsP s = 1 + r2 ∧
    Gv 25 #[.string s] (.tuple #[.string a, .string b, .bool true]) ∧ Gv 26 #[.string s] (.tuple #[.string a, .string b, .bool true]) ∧ Gv 27 #[.string a, .string b] (.tuple #[.string s, .bool true]) ∧
    Gv 28 #[.string a] (.int .i64 x1) ∧ Gv 24 #[.string a] (.int .i64 z1) ∧ Gv 28 #[.string b] (.int .i64 x2) ∧ Gv 29 #[.string b] (.int .i64 r2) := by
  have hz := hw.size
  obtain ⟨h1, h2, h3, h4, b1, b2, b3, b4, b5, b6, b7, b8⟩ := (facts hw hd).join h0
  have ha := firstA_size s
  have hb := firstB_size s
  have ho : firstOk s = true := decide_eq_true ⟨hd, h0⟩
  refine ⟨firstA s, firstB s, areaP (firstA s), sizeP (firstA s), areaP (firstB s), returnsP (firstB s), b1, b2, b3, b4, b5, b6, b7, b8, h3, h4, fun w => ?_, fun w => ?_, fun w => ?_, fun w => areaOfI _ w (by omega), gv_of fun w => sizeOf _ w (by omega), fun w => areaOfI _ w (by omega), fun w => returnsOfI _ w (by omega)⟩
  · have := firstReturnI s w (by omega); rwa [ho] at this
  · have := firstReturn s w (by omega); rwa [ho] at this
  · have := joinAtReturnI (firstA s) (firstB s) w (by omega) (by omega); rwa [h1, h2] at this
theorem pkEmpty (s : ByteArray) (hd : dyck s = true) (h0 : s.size = 0) : Gv 25 #[.string s] (.tuple #[.string ⟨#[]⟩, .string ⟨#[]⟩, .bool false]) ∧ Gv 26 #[.string s] (.tuple #[.string ⟨#[]⟩, .string ⟨#[]⟩, .bool false]) := by
  have h : ¬ (dyck s = true ∧ 0 < s.size) := by omega
  have ho : firstOk s = false := decide_eq_false h
  have ha : firstA s = ⟨#[]⟩ := if_neg h
  have hb : firstB s = ⟨#[]⟩ := if_neg h
  refine ⟨fun w => ?_, fun w => ?_⟩
  · have := firstReturnI s w (by omega); rwa [ho, ha, hb] at this
  · have := firstReturn s w (by omega); rwa [ho, ha, hb] at this
/-- Any heights, any two words. -/
theorem pkHeights (xs : List Int) (hl : xs.length ≤ 1000) : ∃ (p : ByteArray) (o : Bool), (∀ v lo hi w, OwnI w lo hi v xs → hi ≤ w.heap.size → Calls Try.prog 18 #[v] w fun e w' => e = .returned (.tuple #[.string p, .bool o]) ∧ Below w.heap.size w w') ∧
    (∀ v lo hi w, OwnI w lo hi v xs → hi ≤ w.heap.size → Calls Try.prog 37 #[v] w fun e w' => e = .returned (.tuple #[.string p, .bool o]) ∧ Below w.heap.size w w') :=
  ⟨pohP xs, pohOk xs, fun v lo hi w hv hh => pathOfHeightsI v xs lo hi w hv hh (by omega), fun v lo hi w hv hh => pathOfHeights v xs w (ArgI.of_own hv hh) (by omega)⟩
theorem pkJoin (a b : ByteArray) (ha : a.size ≤ 1000) (hb : b.size ≤ 1000) : ∃ (p : ByteArray) (o : Bool), Gv 27 #[.string a, .string b] (.tuple #[.string p, .bool o]) ∧ Gv 39 #[.string a, .string b] (.tuple #[.string p, .bool o]) :=
  ⟨joinP a b, joinOk a b, fun w => joinAtReturnI a b w (by omega) (by omega), gv_of fun w => joinAtReturn a b w (by omega) (by omega)⟩

end Go.Proofs.Ytckpojjjodgonaa
