/-
  WALK: hammerpondtop.number of an error by its number.
-/
import Derived.Test.YtpolnompiinanaaDoorErr
namespace Go.Proofs.YtpolnompiinanaaDoor
open Go.RowKit

set_option maxHeartbeats 400000 in
theorem numb_nil (w : World) : Calls Tryd.prog 22 #[.nilIface] w fun e w' => e = .returned (.int .i64 0) ∧ w = w' := by
  go_enter Tryd.func22, Tryd.ntmps22
  go_wp2
  go_ret
  exact ⟨rfl, rfl⟩
set_option maxHeartbeats 400000 in
theorem numb_err (k : Int) (w : World) : Calls Tryd.prog 22 #[.iface 23 (.int .i64 k)] w fun e w' => e = .returned (.int .i64 k) ∧ w = w' := by
  have ha := fun v W => assert_err v W
  go_enter Tryd.func22, Tryd.ntmps22
  go_wp2
  go_ret
  exact ⟨rfl, rfl⟩
theorem numb_any (k : Int) (w : World) : Calls Tryd.prog 22 #[errV k] w fun e w' => e = .returned (.int .i64 k) ∧ w = w' := by
  unfold errV
  by_cases h : k = 0
  · rw [if_pos h, h]; exact numb_nil w
  · rw [if_neg h]; exact numb_err k w
end Go.Proofs.YtpolnompiinanaaDoor
