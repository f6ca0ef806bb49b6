/-
  WORDS: a change as bytes (encR, encV); a change that lies in a block of its own (StC).
-/
import Derived.Test.YtgkenknplepmeaaRwB
import Derived.Test.YtgkenknplepmeaaNum
namespace Go.Proofs.Ytgkenknplepmeaa
open Go.RowKit

/-- A change as bytes. -/
def encR (c : Ch) : ByteArray := numR (if c.gone then 1 else 0) 1 ++ numR c.key.size 1 ++ c.key ++ c.val
def encV (c : Ch) : Value := if ckR c = 0 then .tuple #[.string (encR c), .nilIface] else .tuple #[.string ByteArray.empty, erV (ckR c)]
theorem ckR_cases (c : Ch) : ckR c = 0 ∨ ckR c = 2 ∨ ckR c = 3 := by
  unfold ckR
  split
  · split
    · exact .inr (.inl rfl)
    · exact .inl rfl
  · exact .inr (.inr rfl)
/-- A change that lies in a block of its own. -/
structure StC (w0 : World) (key val : ByteArray) (gone : Bool) (w : World) : Prop where
  c0 : w.cell? ⟨w0.heap.size, 0, none⟩ = some (.string key)
  c1 : w.cell? ⟨w0.heap.size, 1, none⟩ = some (.string val)
  c2 : w.cell? ⟨w0.heap.size, 2, none⟩ = some (.bool gone)
  b : Below w0.heap.size w0 w
  lt : w0.heap.size < w.heap.size
theorem StC.new (w : World) (key val : ByteArray) (gone : Bool) (t : TypeId) : StC w key val gone (w.alloc (.cells #[.string key, .string val, .bool gone] t)) := by
  have h := Blk.new w t #[.string key, .string val, .bool gone]
  exact ⟨h.cell 0, h.cell 1, h.cell 2, (Below.refl _ _).alloc (Nat.le_refl _) _, by simp⟩
theorem StC.step {w0 w w' : World} {key val : ByteArray} {gone : Bool} (h : StC w0 key val gone w) (hb : Below w.heap.size w w') : StC w0 key val gone w' :=
  ⟨(hb.cell (p := ⟨w0.heap.size, 0, none⟩) h.lt).trans h.c0, (hb.cell (p := ⟨w0.heap.size, 1, none⟩) h.lt).trans h.c1, (hb.cell (p := ⟨w0.heap.size, 2, none⟩) h.lt).trans h.c2, h.b.trans (hb.mono (Nat.le_of_lt h.lt)), by have := hb.size; have := h.lt; omega⟩
theorem StC.drewN {w0 w : World} {key val : ByteArray} {gone : Bool} (h : StC w0 key val gone w) (k : Nat) : StC w0 key val gone (w.drewN k) := ⟨h.c0, h.c1, h.c2, ⟨h.b.1, h.b.2, h.b.3, h.b.4, h.b.5⟩, h.lt⟩
theorem StC.drew {w0 w : World} {key val : ByteArray} {gone : Bool} (h : StC w0 key val gone w) : StC w0 key val gone w.drew := h.drewN 1
theorem numR_size (n k : Nat) : (numR n k).size = k := by
  show (((List.range k).map (numF n)).toArray).size = k
  simp
theorem num1 (g : Nat) (w : World) (hg : g < 2 ^ 64) : Calls Try.prog 67 #[.int .u64 (g : Int), .int .i64 1] w fun e w' => e = .returned (.string (numR g 1)) ∧ Below w.heap.size w w' := number_any g 1 w hg (by omega)
end Go.Proofs.Ytgkenknplepmeaa
