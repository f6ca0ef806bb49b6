/-
  WALKS: files.Put: what the call gives for a slice that reads as a sorted list of at most 900000 files.
-/
import Derived.Test.YtpghfefiifhbiaaGreatDoorConcat
namespace Go.Proofs.YtpghfefiifhbiaaGreatDoor
open Go.RowKit

theorem owns_less {w : World} {base base' : Nat} {e : TypeId} {size : Nat} {v : Value} {n : Nat} {xs : List Value} (h : w.ownsRow base e size v n xs) (hb : base' ≤ base) : w.ownsRow base' e size v n xs := by
  refine ⟨h.1, ?_⟩
  rcases h.2 with h2 | ⟨g, cap, cur, hv, hg, r⟩
  · exact .inl h2
  · exact .inr ⟨g, cap, cur, hv, Nat.le_trans hb hg, r⟩

theorem RdL_one {w : World} {g off : Nat} {B : Nat} {A : Option Addr} {n c : Nat} {l : List F} (hc : w.cell? ⟨g, off, none⟩ = some (.slice A n c)) (h : RdF w B A n c l)
    {L : List (Option Addr × Nat × Nat × List F)} (hL : RdL w B g (off + 1) L) : RdL w B g off ((A, n, c, l) :: L) := by
  intro j s hs
  cases j with
  | zero => simp at hs; subst hs; exact ⟨hc, h⟩
  | succ j =>
    have := hL j s (by simpa using hs)
    rw [show off + 1 + j = off + (j + 1) by omega] at this
    exact this
theorem RdL_nil {w : World} {g off : Nat} {B : Nat} : RdL w B g off [] := by
  intro j s hs
  simp at hs

end Go.Proofs.YtpghfefiifhbiaaGreatDoor
