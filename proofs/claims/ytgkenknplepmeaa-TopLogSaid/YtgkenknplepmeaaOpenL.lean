/-
  ARGUMENTS OPENED, under no condition of its own: a slice of slices of changes that can be read is one that reads as entries.
-/
import Derived.Test.YtgkenknplepmeaaLsA
import Derived.Test.YtgkenknplepmeaaOpenD
namespace Go.Proofs.Ytgkenknplepmeaa
open Go.RowKit Go.ChangeShapes Go.WideShapes Go.Deep Go.Joins

section
variable {H : Type} {enc : TypeId × Value → H} {P : Program} {W : World}
theorem open_entries {t tc ec ts tb : TypeId} {c0 c1 c2 : Field} (ht : P.underlying t = some (.slice tc)) (hC : P.cellsOf tc = 1) (TC : ChTy P tc ec ts tb c0 c1 c2) {A : Option Addr} {len cap : Nat} {d : DataW H} {p : List MemPlace} (h : DataW.Trod enc P W 0 (fun _ => true) true t (.slice A len cap) d p) :
    ∃ es : List (List Ch), RdE W W.heap.size A len cap es := by
  obtain ⟨fuel, hf⟩ := h
  obtain ⟨A', len', cap', hcs, hl, hm, g, hg⟩ := open_each (α := List Ch) ht hC (fun f cs => ∃ A1 n1 c1, cs = [.slice A1 n1 c1] ∧ RdC W W.heap.size A1 n1 c1 f) (fun n cs x hx => by
    obtain ⟨A1, n1, c1, hcs1, l, hl1⟩ := open_changes TC hx
    exact ⟨l, A1, n1, c1, hcs1, hl1⟩) hf (by omega)
  simp [Value.cells] at hcs
  obtain ⟨rfl, rfl, rfl⟩ := hcs
  refine ⟨(List.range len).map g, by simp, hl, hm, fun hpos => ?_⟩
  obtain ⟨b, off, e, hb, hc⟩ := hg hpos
  refine ⟨b, off, e, hb, fun i f hif => ?_⟩
  rw [List.getElem?_map, Option.map_eq_some_iff] at hif
  obtain ⟨j, hj, rfl⟩ := hif
  obtain ⟨hjl, rfl⟩ := List.getElem?_eq_some_iff.1 hj
  rw [List.getElem_range]
  obtain ⟨cs', ⟨A1, n1, c1, hcs', h7⟩, _, hcell⟩ := hc i (by simpa using hjl)
  rw [hcs'] at hcell
  have h0 := hcell 0 _ rfl
  rw [Nat.mul_one, Nat.add_zero] at h0
  exact ⟨A1, n1, c1, h0, h7⟩
end
end Go.Proofs.Ytgkenknplepmeaa
