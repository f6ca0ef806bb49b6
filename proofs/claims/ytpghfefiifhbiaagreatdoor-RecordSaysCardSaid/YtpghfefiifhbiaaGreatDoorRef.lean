/-
  WALKS: files.Check, hammerpondref.FileFault: what each gives, for every file.
-/
import Derived.Test.YtpghfefiifhbiaaGreatDoorName
import Derived.Test.YtpghfefiifhbiaaGreatDoorErr
namespace Go.Proofs.YtpghfefiifhbiaaGreatDoor
open Go.RowKit

def faultN (x t : ByteArray) : Int := if nameB x = true then (if 20 < t.size then 2 else 0) else 3
theorem faultN_nn (x t : ByteArray) : 0 ≤ faultN x t := by unfold faultN; split <;> (try split) <;> omega

set_option maxHeartbeats 400000 in
set_option maxRecDepth 100000 in
theorem check_any (x t : ByteArray) (w : World) (hx : x.size ≤ 1000000) : Calls Tryz.prog 49 #[.agg #[.string x, .string t]] w fun e w' => e = .returned (errV (faultN x t)) ∧ Below w.heap.size w w' := by
  have hb : Below w.heap.size w (w.alloc (.cells #[.string x, .string t] 44)) := (Below.refl _ _).alloc (Nat.le_refl _) _
  cases hn : nameB x with
  | false =>
    have e3 : errV (faultN x t) = .iface 66 (.int .i64 3) := by simp [faultN, hn, errV]
    rw [e3]
    have HN := Lib.hid hn
    clear hn e3
    go_enter Tryz.func49, Tryz.ntmps49
    go_wp2_with fail
    refine (name_any _ _ hx).mono ?_
    rintro e w1 ⟨rfl, rfl⟩
    rw [HN.out]
    go_wp2
    go_ret
    exact ⟨rfl, hb⟩
  | true =>
    have HN := Lib.hid hn
    by_cases ht : 20 < t.size
    · have e3 : errV (faultN x t) = .iface 66 (.int .i64 2) := by simp [faultN, hn, errV, ht]
      rw [e3]
      have t1 : (20 : Int) < (t.size : Int) := by omega
      clear hn e3
      go_enter Tryz.func49, Tryz.ntmps49
      go_wp2_with fail
      refine (name_any _ _ hx).mono ?_
      rintro e w1 ⟨rfl, rfl⟩
      rw [HN.out]
      go_wp2
      go_ret
      exact ⟨rfl, hb⟩
    · have e3 : errV (faultN x t) = .nilIface := by simp [faultN, hn, errV, ht]
      rw [e3]
      have t1 : decide ((20 : Int) < (t.size : Int)) = false := decide_eq_false (by omega)
      clear hn e3
      go_enter Tryz.func49, Tryz.ntmps49
      go_wp2_with fail
      refine (name_any _ _ hx).mono ?_
      rintro e w1 ⟨rfl, rfl⟩
      rw [HN.out]
      go_wp2
      go_ret
      exact ⟨rfl, hb⟩


end Go.Proofs.YtpghfefiifhbiaaGreatDoor
