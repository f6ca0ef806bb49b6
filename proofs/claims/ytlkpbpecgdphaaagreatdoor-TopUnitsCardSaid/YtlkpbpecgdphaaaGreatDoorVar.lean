/-
  WALK: expand.Var: is a text a variable's name? For every text.
-/
import Derived.Test.YtlkpbpecgdphaaaGreatDoorRows
import Derived.WalkKit
import Derived.WalkSpells
import Derived.WalkLawsBesides
import Derived.Deep.QuietTactic
import Derived.BigQuiet
import Derived.Lib.Hide
import Derived.WideLaws
import Derived.Test.YtlkpbpecgdphaaaGreatDoorMax
import Derived.Test.YtlkpbpecgdphaaaGreatDoorSearch
namespace Go.Proofs.YtlkpbpecgdphaaaGreatDoor
open Go.RowKit

set_option maxHeartbeats 400000 in
set_option maxRecDepth 100000 in
theorem same_nil (w : World) : Calls Tryz.prog 13 #[.nilIface, .int .i64 0] w fun e w' => e = .returned (.bool true) ∧ w = w' := by
  go_enter Tryz.func13, Tryz.ntmps13
  go_wp2
  go_ret
  exact ⟨rfl, rfl⟩

theorem assert_err (v : Value) (W : World) : (Instr.typeAssert (.iface 80 v) 34 80 true).run Tryz.prog W = .ok (.tuple #[v, .bool true]) W := by kernel_rfl

set_option maxHeartbeats 400000 in
set_option maxRecDepth 100000 in
theorem same_err (k : Int) (hk : 0 < k) (w : World) : Calls Tryz.prog 13 #[.iface 80 (.int .i64 k), .int .i64 k] w fun e w' => e = .returned (.bool true) ∧ w = w' := by
  have ha := fun v W => assert_err v W
  go_enter Tryz.func13, Tryz.ntmps13
  go_wp2
  go_ret
  exact ⟨rfl, rfl⟩
end Go.Proofs.YtlkpbpecgdphaaaGreatDoor
namespace Go.Proofs.YtlkpbpecgdphaaaGreatDoor
open Go.RowKit

/-- An error by its number: nil for 0. -/
def errV (k : Int) : Value := if k = 0 then .nilIface else .iface 80 (.int .i64 k)
theorem same_errV (k : Int) (hk : 0 ≤ k) (w : World) : Calls Tryz.prog 13 #[errV k, .int .i64 k] w fun e w' => e = .returned (.bool true) ∧ w = w' := by
  unfold errV
  by_cases h : k = 0
  · rw [if_pos h, h]; exact same_nil w
  · rw [if_neg h]; exact same_err k (by omega) w
end Go.Proofs.YtlkpbpecgdphaaaGreatDoor
namespace Go.Proofs.YtlkpbpecgdphaaaGreatDoor
open Go.RowKit

def capB (b : UInt8) : Bool := decide (65 ≤ b.toNat) && decide (b.toNat ≤ 90)
theorem varOk_def (s : ByteArray) : varOk s = (decide (1 ≤ s.size) && decide (s.size ≤ 4) && s.data.toList.all capB) := rfl
theorem varOk_short {s : ByteArray} (h : s.size < 1) : varOk s = false := by rw [varOk_def, decide_eq_false (by omega : ¬ 1 ≤ s.size)]; rfl
theorem varOk_long {s : ByteArray} (h : 4 < s.size) : varOk s = false := by rw [varOk_def, decide_eq_false (by omega : ¬ s.size ≤ 4)]; simp
theorem varOk_bad {s : ByteArray} {k : Nat} (hk : k < s.size) (h : capB s[k] = false) : varOk s = false := by
  have : s.data.toList.all capB = false := by
    rw [List.all_eq_false]
    exact ⟨s[k], by rw [List.mem_iff_getElem]; exact ⟨k, by simpa using hk, rfl⟩, by simp [h]⟩
  rw [varOk_def, this]
  simp
theorem varOk_all {s : ByteArray} (h1 : 1 ≤ s.size) (h4 : s.size ≤ 4) (h : ∀ j (hj : j < s.size), capB s[j] = true) : varOk s = true := by
  rw [varOk_def, decide_eq_true h1, decide_eq_true h4]
  simp only [Bool.and_self, Bool.true_and, List.all_eq_true]
  intro b hb
  obtain ⟨j, hj, e⟩ := List.mem_iff_getElem.1 hb
  rw [← e]
  exact h j (by simpa using hj)
def VarRel (s : ByteArray) (i : Value) : Prop := ∃ k : Nat, k ≤ s.size ∧ i = .int .i64 k ∧ ∀ j (hj : j < s.size), j < k → capB s[j] = true

set_option maxHeartbeats 1000000 in
set_option maxRecDepth 100000 in
theorem var_any (s : ByteArray) (w : World) (hs : s.size ≤ 1000000) : Calls Tryz.prog 123 #[.string s] w fun e w' => e = .returned (.bool (varOk s)) ∧ w = w' := by
  generalize hb : varOk s = b
  have HB := Lib.hid hb
  clear hb
  by_cases h1 : s.size < 1
  · have hd : (s.size : Int) < 1 := by omega
    have H1 := Lib.hid (varOk_short h1)
    go_enter Tryz.func123, Tryz.ntmps123
    go_wp2
    go_ret
    exact ⟨by rw [← HB.out, H1.out]; rfl, rfl⟩
  have hd1 : decide ((s.size : Int) < 1) = false := decide_eq_false (by omega)
  by_cases h4 : 4 < s.size
  · have hd : (4 : Int) < (s.size : Int) := by omega
    have H1 := Lib.hid (varOk_long h4)
    go_enter Tryz.func123, Tryz.ntmps123
    go_wp2
    go_ret
    exact ⟨by rw [← HB.out, H1.out]; rfl, rfl⟩
  have hd4 : decide ((4 : Int) < (s.size : Int)) = false := decide_eq_false (by omega)
  go_enter Tryz.func123, Tryz.ntmps123
  go_wp2
  go_loop [14] (fun i => VarRel s i) (fun i => s.size - (intOf i).toNat)
  case atStart => exact ⟨0, Nat.zero_le _, rfl, fun j hj h => by omega⟩
  case round =>
    obtain ⟨k, hk, rfl, hall⟩ := hrel
    have HA := Lib.hid hall
    clear hall
    by_cases hlt : k < s.size
    · have hkz : (k : Int) < (s.size : Int) := by omega
      cases hq1 : decide ((s[k].toNat : Int) < 65) with
      | true =>
        have hq1' : (s[k].toNat : Int) < 65 := of_decide_eq_true hq1
        have H1 := Lib.hid (varOk_bad hlt (by unfold capB; rw [decide_eq_false (by omega : ¬ 65 ≤ s[k].toNat)]; rfl))
        go_wp2
        go_ret
        exact ⟨by rw [← HB.out, H1.out]; rfl, rfl⟩
      | false =>
        have hq1' : ¬ (s[k].toNat : Int) < 65 := of_decide_eq_false hq1
        cases hq2 : decide ((90 : Int) < (s[k].toNat : Int)) with
        | true =>
          have hq2' : (90 : Int) < (s[k].toNat : Int) := of_decide_eq_true hq2
          have H1 := Lib.hid (varOk_bad hlt (by unfold capB; rw [decide_eq_false (by omega : ¬ s[k].toNat ≤ 90)]; simp))
          go_wp2
          go_ret
          exact ⟨by rw [← HB.out, H1.out]; rfl, rfl⟩
        | false =>
          have hq2' : ¬ (90 : Int) < (s[k].toNat : Int) := of_decide_eq_false hq2
          have hc : capB s[k] = true := by unfold capB; rw [decide_eq_true (by omega : 65 ≤ s[k].toNat), decide_eq_true (by omega : s[k].toNat ≤ 90)]; rfl
          have HC := Lib.hid hc
          clear hc
          go_wp2
          go_round
          case rel =>
            refine ⟨k + 1, by omega, by go_num, fun j hj h => ?_⟩
            rcases Nat.lt_or_ge j k with h' | h'
            · exact HA.out j hj h'
            · obtain rfl : j = k := by omega
              exact HC.out
          case measure => simp [intOf]; omega
    · obtain rfl : k = s.size := by omega
      have H1 := Lib.hid (varOk_all (by omega) (by omega) (fun j hj => HA.out j hj hj))
      go_wp2
      go_ret
      exact ⟨by rw [← HB.out, H1.out]; rfl, rfl⟩
end Go.Proofs.YtlkpbpecgdphaaaGreatDoor
