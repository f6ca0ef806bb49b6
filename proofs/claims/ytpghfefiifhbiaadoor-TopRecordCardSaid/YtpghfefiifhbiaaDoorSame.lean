/-
  WALKS: hammerpondlaw.same: an error and its number: true where they belong together.
-/
import Derived.Test.YtpghfefiifhbiaaDoorRows
import Derived.WalkKit
import Derived.WalkSpells
import Derived.WalkLawsBesides
import Derived.Deep.QuietTactic
import Derived.BigQuiet
import Derived.Lib.Hide
import Derived.WideLaws
namespace Go.Proofs.YtpghfefiifhbiaaDoor
open Go.RowKit


theorem assert_err (v : Value) (W : World) : (Instr.typeAssert (.iface 47 v) 29 47 true).run Tryd.prog W = .ok (.tuple #[v, .bool true]) W := by kernel_rfl

end Go.Proofs.YtpghfefiifhbiaaDoor
