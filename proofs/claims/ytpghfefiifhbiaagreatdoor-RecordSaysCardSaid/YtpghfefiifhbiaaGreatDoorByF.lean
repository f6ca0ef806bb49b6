/-
  WORDS: a row of bytes in memory by place; a text out of it.
-/
import Derived.Test.YtpghfefiifhbiaaGreatDoorRows
import Derived.WalkKit
import Derived.WalkSpells
import Derived.WalkLawsBesides
import Derived.Lib.Hide
import Derived.Lib.SmallJoins
import Derived.Lib.ConvBytes
import Derived.Laws.IdiomStrings
import Derived.WideShapes
namespace Go.Proofs.YtpghfefiifhbiaaGreatDoor
open Go.RowKit Go.Joins

/-- The first n cells of block g are the bytes f, and may be written. -/
def ByF (w : World) (g n : Nat) (f : Nat → UInt8) : Prop :=
  ∃ (C : Array Value) (t : TypeId) (fr : Nat × Nat), w.heap[g]? = some (.cells C t fr) ∧ (n ≤ fr.1 ∨ fr = (0, 0)) ∧ ∀ j, j < n → C[j]? = some (.int .u8 ((f j).toNat : Int))
section
variable {w w' : World} {g n : Nat} {f : Nat → UInt8}
theorem ByF.cell (h : ByF w g n f) {j : Nat} (hj : j < n) : w.cell? ⟨g, j, none⟩ = some (.int .u8 ((f j).toNat : Int)) := by
  obtain ⟨C, t, fr, hh, _, hc⟩ := h
  rw [cell_of_row w g j C t fr hh]; exact hc j hj
theorem ByF.frozen (h : ByF w g n f) {j : Nat} (hj : j < n) : w.frozen? ⟨g, j, none⟩ = false := by
  obtain ⟨C, t, fr, hh, hf, hc⟩ := h
  rcases hf with hf | rfl
  · simp [World.frozen?, hh]
    omega
  · simp [World.frozen?, hh]
theorem ByF.lt (h : ByF w g n f) : g < w.heap.size := by obtain ⟨_, _, _, hh, _⟩ := h; exact (Array.getElem?_eq_some_iff.1 hh).1
theorem ByF.set (h : ByF w g n f) {j : Nat} (b : UInt8) : ByF (w.setCell ⟨g, j, none⟩ (.int .u8 (b.toNat : Int))) g n (fun m => if m = j then b else f m) := by
  obtain ⟨C, t, fr, hh, hf, hc⟩ := h
  refine ⟨C.setIfInBounds j (.int .u8 (b.toNat : Int)), t, fr, by simp [World.setCell, Array.getElem?_modify, hh], hf, fun m hm => ?_⟩
  have hcm := hc m hm
  have hms : m < C.size := (Array.getElem?_eq_some_iff.1 hcm).1
  rw [Array.getElem?_setIfInBounds]
  by_cases e : j = m
  · subst e; rw [if_pos rfl, if_pos hms]; simp
  · rw [if_neg e, hcm]
    have e2 : ¬ m = j := fun e' => e e'.symm
    simp [e2]
theorem ByF.congr {f' : Nat → UInt8} (h : ByF w g n f) (e : ∀ m, m < n → f m = f' m) : ByF w g n f' := by
  obtain ⟨C, t, fr, hh, hf, hc⟩ := h
  exact ⟨C, t, fr, hh, hf, fun j hj => by rw [← e j hj]; exact hc j hj⟩
theorem ByF.drewN (h : ByF w g n f) (k : Nat) : ByF (w.drewN k) g n f := h
theorem ByF.below {B : Nat} (h : ByF w g n f) (hb : Below B w w') (hg : g < B) : ByF w' g n f := by
  obtain ⟨C, t, fr, hh, hf, hc⟩ := h
  exact ⟨C, t, fr, (hb.block g hg).trans hh, hf, hc⟩
end
/-- The bytes of a text, by place. -/
def byteAt (s : ByteArray) (j : Nat) : UInt8 := s.data.toList.getD j 0
theorem bytes_new (w : World) (e : TypeId) (s : ByteArray) : ByF (Lib.bytesWorld w e s) w.heap.size s.size (byteAt s) := by
  refine ⟨Lib.bytesCells w e s, e, _, Lib.bytesWorld_at_new w e s, ?_, fun j hj => ?_⟩
  · exact .inl (by simp [Lib.bytesCells])
  · have h := Lib.bytesWorld_cell w e s j hj
    rw [cell_of_row _ _ _ _ _ _ (Lib.bytesWorld_at_new w e s)] at h
    exact h
theorem bytes_below (w : World) (e : TypeId) (s : ByteArray) : Below w.heap.size w (Lib.bytesWorld w e s) :=
  ⟨rfl, rfl, rfl, by rw [Lib.bytesWorld_size]; omega, fun k hk => Lib.bytesWorld_at_old w e s k hk⟩
/-- The text of bytes by place. -/
def ofBytes (n : Nat) (f : Nat → UInt8) : ByteArray := ⟨((List.range n).map f).toArray⟩
theorem convert_back {P : Program} (w : World) (src dst e : TypeId) (g cap n : Nat) (f : Nat → UInt8) (hs : P.underlying src = some (.slice e)) (he : P.underlying e = some (.int .u8)) (hd : P.underlying dst = some .string) (h : ByF w g n f) :
    (convert src dst (.slice (some ⟨g, 0, none⟩) n cap)).run P w = .ok (.string (ofBytes n f)) w := by
  have := run_convert_bytes_back (P := P) w src dst e ⟨g, 0, none⟩ cap ((List.range n).map f) hs he hd (fun j hj => by
    rw [Go.WideShapes.add_plain, Nat.zero_add]
    have hj' : j < n := by simpa using hj
    rw [h.cell hj']
    simp)
  simpa [ofBytes] using this
end Go.Proofs.YtpghfefiifhbiaaGreatDoor
