/-
  WALKS: hammerpondlaw.same: an error and its number: true where they belong together.
-/
import Derived.Test.YtpghfefiifhbiaaGreatDoorRows
import Derived.WalkKit
import Derived.WalkSpells
import Derived.WalkLawsBesides
import Derived.Deep.QuietTactic
import Derived.BigQuiet
import Derived.Lib.Hide
import Derived.WideLaws
namespace Go.Proofs.YtpghfefiifhbiaaGreatDoor
open Go.RowKit

set_option maxHeartbeats 400000 in
set_option maxRecDepth 100000 in
theorem same_nil (w : World) : Calls Tryz.prog 16 #[.nilIface, .int .i64 0] w fun e w' => e = .returned (.bool true) ∧ w = w' := by
  go_enter Tryz.func16, Tryz.ntmps16
  go_wp2
  go_ret
  exact ⟨rfl, rfl⟩

theorem assert_err (v : Value) (W : World) : (Instr.typeAssert (.iface 66 v) 36 66 true).run Tryz.prog W = .ok (.tuple #[v, .bool true]) W := by kernel_rfl

set_option maxHeartbeats 400000 in
set_option maxRecDepth 100000 in
theorem same_err (k : Int) (hk : 0 < k) (w : World) : Calls Tryz.prog 16 #[.iface 66 (.int .i64 k), .int .i64 k] w fun e w' => e = .returned (.bool true) ∧ w = w' := by
  have ha := fun v W => assert_err v W
  go_enter Tryz.func16, Tryz.ntmps16
  go_wp2
  go_ret
  exact ⟨rfl, rfl⟩
end Go.Proofs.YtpghfefiifhbiaaGreatDoor
