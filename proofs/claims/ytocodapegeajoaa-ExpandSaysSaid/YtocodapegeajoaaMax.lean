/-
  WORDS: internal/bytealg.MaxLen holds some number; strings.Cut, by the shelf's contract: for texts of at most a million bytes.
-/
import Derived.Test.YtocodapegeajoaaExp
import Derived.Test.YtocodapegeajoaaSearch
import Derived.Test.YtocodapegeajoaaShelf
namespace Go.Proofs.Ytocodapegeajoaa
open Go.RowKit

/-- internal/bytealg.MaxLen holds some number. -/
def MaxOk (w : World) : Prop := ∃ m : Int, w.cell? ⟨0, 0, none⟩ = some (.int .i64 m)
theorem MaxOk.below {w w' : World} (h : MaxOk w) (hb : Below w.heap.size w w') : MaxOk w' := by
  obtain ⟨m, hm⟩ := h
  exact ⟨m, (hb.cell (World.block_lt_of_cell? _ _ hm)).trans hm⟩
theorem MaxOk.drewN {w : World} (h : MaxOk w) (n : Nat) : MaxOk (w.drewN n) := h

def cutB (s : ByteArray) (p : Bs) : Bs × Bs × Bool := Lib.cut s.data.toList p
theorem cut_any (s sep : ByteArray) (p : Bs) (hp : sep.data.toList = p) (w : World) (hs : s.size ≤ 1000000) (hm : MaxOk w) :
    Calls Try.prog 53 #[.string s, .string sep] w fun e w' => ∃ n, e = .returned (.tuple #[.string (ba (cutB s p).1), .string (ba (cutB s p).2.1), .bool (cutB s p).2.2]) ∧ w' = w.drewN n := by
  obtain ⟨m, hm⟩ := hm
  subst hp
  refine (Try.strings_Cut s sep m w (by omega) hm).mono ?_
  rintro e w' ⟨rfl, n, rfl⟩
  exact ⟨n, rfl, rfl⟩
theorem below_drewN (w : World) (n : Nat) : Below w.heap.size w (w.drewN n) := by
  induction n with
  | zero => exact Below.refl _ _
  | succ n ih => exact ih.trans (Below.refl _ _).drew
end Go.Proofs.Ytocodapegeajoaa
