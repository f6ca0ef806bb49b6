/-
  An error by its number, and hammerpondlaw.same of the two: true, for every number that is not below 0.
-/
import Derived.Test.YtpghfefiifhbiaaGreatDoorSame
namespace Go.Proofs.YtpghfefiifhbiaaGreatDoor
open Go.RowKit

/-- An error by its number: nil for 0. -/
def errV (k : Int) : Value := if k = 0 then .nilIface else .iface 66 (.int .i64 k)
theorem same_errV (k : Int) (hk : 0 ≤ k) (w : World) : Calls Tryz.prog 16 #[errV k, .int .i64 k] w fun e w' => e = .returned (.bool true) ∧ w = w' := by
  unfold errV
  by_cases h : k = 0
  · rw [if_pos h, h]; exact same_nil w
  · rw [if_neg h]; exact same_err k (by omega) w
end Go.Proofs.YtpghfefiifhbiaaGreatDoor
