/-
  An error by its number, and hammerpondlaw.same of the two: true, for every number that is not below 0.
-/
import Derived.Test.YtpghfefiifhbiaaDoorSame
namespace Go.Proofs.YtpghfefiifhbiaaDoor
open Go.RowKit

/-- An error by its number: nil for 0. -/
def errV (k : Int) : Value := if k = 0 then .nilIface else .iface 47 (.int .i64 k)
end Go.Proofs.YtpghfefiifhbiaaDoor
