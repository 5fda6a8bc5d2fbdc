/- The contracts of the model's IsDyck, SizeOf and l1In. -/
import Derived.Test.YtjmdamjbbggncaaPlain2
import Derived.Test.YtjmdamjbbggncaaRows
import Derived.WalkKit
import Derived.ProofKit
import Derived.OpenShut
import Derived.ShutString
import Derived.IntWalk
import Derived.Deep.DeepMust
import Derived.Deep.QuietTactic
import Derived.BigQuiet
import Derived.OwnWalk
import Derived.Laws.BytesArg
namespace Go.Proofs.Ytjmdamjbbggncaa
open Go.ChangeShapes Go.WideShapes Go.ChangeAt Go.RowKit
open Go.PlainAid (bt bt_nonneg bt_le get_bt)
set_option linter.unusedVariables false

theorem ret_bool {a b : Bool} (h : a = b) : Ending.returned (.bool a) = .returned (.bool b) := by rw [h]
theorem ret_int {a b : Int} (h : a = b) : Ending.returned (.int .i64 a) = .returned (.int .i64 b) := by rw [h]
theorem ret_str {a b : ByteArray} (h : a = b) : Ending.returned (.string a) = .returned (.string b) := by rw [h]

/-- What SizeOf answers. -/
def sizeP (s : ByteArray) : Int := if dyck s = true then ((s.size / 2 : Nat) : Int) else -1
end Go.Proofs.Ytjmdamjbbggncaa
