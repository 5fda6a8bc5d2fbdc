/- The contracts of the program's stepOf and IsDyck; what the next letter of a range over a path is. -/
import Derived.Test.YtkpnfonedfomaaaSpec2A
import Derived.Lib.OthersKept
namespace Go.Proofs.Ytkpnfonedfomaaa
open Go.ChangeShapes Go.WideShapes Go.ChangeAt Go.RowKit
set_option linter.unusedVariables false

/-- The next letter of a range over a string, where it is an ASCII letter. -/
theorem next_letter {P : Program} (wr : World) (k : Nat) (s : ByteArray) (i : Nat) (c : Nat) (hk : wr.heap[k]? = some (.stringIter s i)) (h : i < s.size) (hc : s[i].toNat = c) (h7 : c < 128) (ty : TypeId) :
    (Instr.next (.pointer (some ⟨k, 0, none⟩)) true ty).run P wr = .ok (.tuple #[.bool true, .int .i64 i, .int .i32 c]) (wr.iterAt k s (i + 1)) := by
  rw [Lib.run_next_ascii_at wr k s i ty hk h (by omega), hc]
/-- A rune that is no letter of a path, at a byte that is none. -/
theorem next_other {P : Program} (wr : World) (k : Nat) (s : ByteArray) (i : Nat) (hk : wr.heap[k]? = some (.stringIter s i)) (h : i < s.size) (h1 : s[i].toNat ≠ 117) (h2 : s[i].toNat ≠ 100) :
    ∃ (c : Int) (j : Nat), (c == 117) = false ∧ (c == 100) = false ∧ ∀ ty, (Instr.next (.pointer (some ⟨k, 0, none⟩)) true ty).run P wr = .ok (.tuple #[.bool true, .int .i64 i, .int .i32 c]) (wr.iterAt k s j) := by
  by_cases ha : s[i].toNat < 128
  · exact ⟨(s[i].toNat : Int), i + 1, by simp; omega, by simp; omega, fun ty => Lib.run_next_ascii_at wr k s i ty hk h ha⟩
  · have hd := (decode_high s i h (by omega)).1
    exact ⟨((Utf8.decode s i).1 : Int), i + (Utf8.decode s i).2, by simp; omega, by simp; omega, fun ty => Lib.run_next_any_at wr k s i ty hk h⟩

end Go.Proofs.Ytkpnfonedfomaaa
