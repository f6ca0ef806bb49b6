/-
  WALK: expand.Var: is a text a variable's name? For every text.
-/
import Derived.Test.YtpghfefiifhbiaaGreatDoorExp
import Derived.Test.YtpghfefiifhbiaaGreatDoorSearch
import Derived.Test.YtpghfefiifhbiaaGreatDoorErr
namespace Go.Proofs.YtpghfefiifhbiaaGreatDoor
open Go.RowKit

def capB (b : UInt8) : Bool := decide (65 ≤ b.toNat) && decide (b.toNat ≤ 90)
theorem varOk_def (s : ByteArray) : varOk s = (decide (1 ≤ s.size) && decide (s.size ≤ 4) && s.data.toList.all capB) := rfl
theorem varOk_short {s : ByteArray} (h : s.size < 1) : varOk s = false := by rw [varOk_def, decide_eq_false (by omega : ¬ 1 ≤ s.size)]; rfl
theorem varOk_long {s : ByteArray} (h : 4 < s.size) : varOk s = false := by rw [varOk_def, decide_eq_false (by omega : ¬ s.size ≤ 4)]; simp
theorem varOk_bad {s : ByteArray} {k : Nat} (hk : k < s.size) (h : capB s[k] = false) : varOk s = false := by
  have : s.data.toList.all capB = false := by
    rw [List.all_eq_false]
    exact ⟨s[k], by rw [List.mem_iff_getElem]; exact ⟨k, by simpa using hk, rfl⟩, by simp [h]⟩
  rw [varOk_def, this]
  simp
theorem varOk_all {s : ByteArray} (h1 : 1 ≤ s.size) (h4 : s.size ≤ 4) (h : ∀ j (hj : j < s.size), capB s[j] = true) : varOk s = true := by
  rw [varOk_def, decide_eq_true h1, decide_eq_true h4]
  simp only [Bool.and_self, Bool.true_and, List.all_eq_true]
  intro b hb
  obtain ⟨j, hj, e⟩ := List.mem_iff_getElem.1 hb
  rw [← e]
  exact h j (by simpa using hj)
def VarRel (s : ByteArray) (i : Value) : Prop := ∃ k : Nat, k ≤ s.size ∧ i = .int .i64 k ∧ ∀ j (hj : j < s.size), j < k → capB s[j] = true

end Go.Proofs.YtpghfefiifhbiaaGreatDoor
