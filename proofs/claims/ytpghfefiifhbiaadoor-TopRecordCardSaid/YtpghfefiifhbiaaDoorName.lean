/-
  WALKS: hammerpondref.NameMay: what it gives, for every name.
-/
import Derived.Test.YtpghfefiifhbiaaDoorNameA
namespace Go.Proofs.YtpghfefiifhbiaaDoor
open Go.RowKit

theorem chB_of {k : Nat} {c : Int} {b : Bool} (h : b = true ↔ (97 ≤ c ∧ c ≤ 122) ∨ (0 < k ∧ ((48 ≤ c ∧ c ≤ 57) ∨ c = 46))) : chB k c = b := by
  rw [Bool.eq_iff_iff, h]
  simp [chB, letB, digB]

end Go.Proofs.YtpghfefiifhbiaaDoor
