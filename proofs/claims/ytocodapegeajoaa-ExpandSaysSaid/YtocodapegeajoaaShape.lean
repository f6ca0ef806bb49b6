/-
  internal/bytealg.MaxLen holds some number in a world of the program's shape. Under no condition of its own.
-/
import Derived.Test.YtocodapegeajoaaMax
import Derived.HandedShaped
import Derived.Shelf.Vars
import Derived.ProofKit
namespace Go.Proofs.Ytocodapegeajoaa
open Go.RowKit

theorem maxOk_of_shape {W : World} (h : W.ShapedOpen Try.prog) : MaxOk W :=
  cell_of_shapedOpen_int (g := 0) (t := 3) (zero := #[.int .i64 0]) h (of_decide_eq_true (by kernel_rfl)) (by kernel_rfl) rfl (by kernel_rfl) (by kernel_rfl) Try.underlying3
section
open Go.ChangeMaps (open_string)
set_option maxRecDepth 100000 in
/-- An argument that is a text. -/
theorem open_text {H : Type} {enc : TypeId × Value → H} {W : World} {base : Nat} {v : Value} {d : DataW H} {p : List MemPlace} (hv : Value.okWide Try.prog W .any base 9 v) (h : ∃ fuel, DataW.trod enc Try.prog W 0 (fun _ => true) true fuel 9 v.cells.toList = some (d, p)) : ∃ s : ByteArray, v = .string s ∧ s.size ≤ 9223372036854775807 := by
  obtain ⟨s, e, _⟩ := open_string Try.underlying9 hv h
  subst e
  obtain ⟨fuel, hf⟩ := h
  obtain ⟨s', e', _, hs⟩ := DataW.trod_string Try.underlying9 hf
  have : s' = s := by simpa [Value.cells] using e'.symm
  subst this
  exact ⟨s', rfl, hs⟩
end
end Go.Proofs.Ytocodapegeajoaa
