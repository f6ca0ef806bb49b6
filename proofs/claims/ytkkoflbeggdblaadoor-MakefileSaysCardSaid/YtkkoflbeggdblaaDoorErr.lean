/-
  An error by its number, and hammerpondlaw.same of the two: true, for every number that is not below 0.
-/
import Derived.Test.YtkkoflbeggdblaaDoorRows
import Derived.WalkKit
import Derived.WalkSpells
import Derived.WalkLawsBesides
import Derived.Deep.QuietTactic
import Derived.BigQuiet
import Derived.Lib.Hide
import Derived.WideLaws
namespace Go.Proofs.YtkkoflbeggdblaaDoor
open Go.RowKit

set_option maxHeartbeats 400000 in
set_option maxRecDepth 100000 in
theorem same_nil (w : World) : Calls Tryd.prog 9 #[.nilIface, .int .i64 0] w fun e w' => e = .returned (.bool true) ∧ w = w' := by
  go_enter Tryd.func9, Tryd.ntmps9
  go_wp2
  go_ret
  exact ⟨rfl, rfl⟩

theorem assert_err (v : Value) (W : World) : (Instr.typeAssert (.iface 23 v) 27 23 true).run Tryd.prog W = .ok (.tuple #[v, .bool true]) W := by kernel_rfl

set_option maxHeartbeats 400000 in
set_option maxRecDepth 100000 in
theorem same_err (k : Int) (hk : 0 < k) (w : World) : Calls Tryd.prog 9 #[.iface 23 (.int .i64 k), .int .i64 k] w fun e w' => e = .returned (.bool true) ∧ w = w' := by
  have ha := fun v W => assert_err v W
  go_enter Tryd.func9, Tryd.ntmps9
  go_wp2
  go_ret
  exact ⟨rfl, rfl⟩
end Go.Proofs.YtkkoflbeggdblaaDoor
namespace Go.Proofs.YtkkoflbeggdblaaDoor
open Go.RowKit

/-- An error by its number: nil for 0. -/
def errV (k : Int) : Value := if k = 0 then .nilIface else .iface 23 (.int .i64 k)
theorem same_errV (k : Int) (hk : 0 ≤ k) (w : World) : Calls Tryd.prog 9 #[errV k, .int .i64 k] w fun e w' => e = .returned (.bool true) ∧ w = w' := by
  unfold errV
  by_cases h : k = 0
  · rw [if_pos h, h]; exact same_nil w
  · rw [if_neg h]; exact same_err k (by omega) w
end Go.Proofs.YtkkoflbeggdblaaDoor
