/-
  WORDS: a block known whole (Blk); what may have turned between two worlds (Upd).
-/
import Derived.Test.YtgkenknplepmeaaRows
import Derived.WalkKit
import Derived.WalkSpells
import Derived.WalkLawsBesides
import Derived.Lib.Hide
import Derived.Lib.SmallJoins
import Derived.Lib.ConvBytes
import Derived.Laws.IdiomStrings
import Derived.WideShapes
import Derived.Deep.QuietTactic
import Derived.BigQuiet
import Derived.Deep.LoopGhost
import Derived.Below
import Derived.Laws.OwnMore
import Derived.Laws.Tables
import Derived.Laws.MakeOwn
import Derived.Deep.AppendLies
import Derived.Deep.Draws
import Derived.Maps.AppendAt
import Derived.OwnWalk
import Derived.RegionTactic
import Derived.RangeFuncRecord
import Derived.Deep.RegionHeld3
namespace Go.Proofs.Ytgkenknplepmeaa
open Go.RowKit Go.Joins

/-- The first n cells of block g are the bytes f, and may be written. -/
def ByF (w : World) (g n : Nat) (f : Nat → UInt8) : Prop :=
  ∃ (C : Array Value) (t : TypeId) (fr : Nat × Nat), w.heap[g]? = some (.cells C t fr) ∧ (n ≤ fr.1 ∨ fr = (0, 0)) ∧ ∀ j, j < n → C[j]? = some (.int .u8 ((f j).toNat : Int))
section
variable {w w' : World} {g n : Nat} {f : Nat → UInt8}
theorem ByF.cell (h : ByF w g n f) {j : Nat} (hj : j < n) : w.cell? ⟨g, j, none⟩ = some (.int .u8 ((f j).toNat : Int)) := by
  obtain ⟨C, t, fr, hh, _, hc⟩ := h
  rw [cell_of_row w g j C t fr hh]; exact hc j hj
theorem ByF.frozen (h : ByF w g n f) {j : Nat} (hj : j < n) : w.frozen? ⟨g, j, none⟩ = false := by
  obtain ⟨C, t, fr, hh, hf, hc⟩ := h
  rcases hf with hf | rfl
  · simp [World.frozen?, hh]
    omega
  · simp [World.frozen?, hh]
theorem ByF.lt (h : ByF w g n f) : g < w.heap.size := by obtain ⟨_, _, _, hh, _⟩ := h; exact (Array.getElem?_eq_some_iff.1 hh).1
theorem ByF.set (h : ByF w g n f) {j : Nat} (b : UInt8) : ByF (w.setCell ⟨g, j, none⟩ (.int .u8 (b.toNat : Int))) g n (fun m => if m = j then b else f m) := by
  obtain ⟨C, t, fr, hh, hf, hc⟩ := h
  refine ⟨C.setIfInBounds j (.int .u8 (b.toNat : Int)), t, fr, by simp [World.setCell, Array.getElem?_modify, hh], hf, fun m hm => ?_⟩
  have hcm := hc m hm
  have hms : m < C.size := (Array.getElem?_eq_some_iff.1 hcm).1
  rw [Array.getElem?_setIfInBounds]
  by_cases e : j = m
  · subst e; rw [if_pos rfl, if_pos hms]; simp
  · rw [if_neg e, hcm]
    have e2 : ¬ m = j := fun e' => e e'.symm
    simp [e2]
theorem ByF.congr {f' : Nat → UInt8} (h : ByF w g n f) (e : ∀ m, m < n → f m = f' m) : ByF w g n f' := by
  obtain ⟨C, t, fr, hh, hf, hc⟩ := h
  exact ⟨C, t, fr, hh, hf, fun j hj => by rw [← e j hj]; exact hc j hj⟩
theorem ByF.drewN (h : ByF w g n f) (k : Nat) : ByF (w.drewN k) g n f := h
theorem ByF.below {B : Nat} (h : ByF w g n f) (hb : Below B w w') (hg : g < B) : ByF w' g n f := by
  obtain ⟨C, t, fr, hh, hf, hc⟩ := h
  exact ⟨C, t, fr, (hb.block g hg).trans hh, hf, hc⟩
end
/-- The bytes of a text, by place. -/
def byteAt (s : ByteArray) (j : Nat) : UInt8 := s.data.toList.getD j 0
theorem bytes_new (w : World) (e : TypeId) (s : ByteArray) : ByF (Lib.bytesWorld w e s) w.heap.size s.size (byteAt s) := by
  refine ⟨Lib.bytesCells w e s, e, _, Lib.bytesWorld_at_new w e s, ?_, fun j hj => ?_⟩
  · exact .inl (by simp [Lib.bytesCells])
  · have h := Lib.bytesWorld_cell w e s j hj
    rw [cell_of_row _ _ _ _ _ _ (Lib.bytesWorld_at_new w e s)] at h
    exact h
theorem bytes_below (w : World) (e : TypeId) (s : ByteArray) : Below w.heap.size w (Lib.bytesWorld w e s) :=
  ⟨rfl, rfl, rfl, by rw [Lib.bytesWorld_size]; omega, fun k hk => Lib.bytesWorld_at_old w e s k hk⟩
/-- The text of bytes by place. -/
def ofBytes (n : Nat) (f : Nat → UInt8) : ByteArray := ⟨((List.range n).map f).toArray⟩
theorem convert_back {P : Program} (w : World) (src dst e : TypeId) (g cap n : Nat) (f : Nat → UInt8) (hs : P.underlying src = some (.slice e)) (he : P.underlying e = some (.int .u8)) (hd : P.underlying dst = some .string) (h : ByF w g n f) :
    (convert src dst (.slice (some ⟨g, 0, none⟩) n cap)).run P w = .ok (.string (ofBytes n f)) w := by
  have := run_convert_bytes_back (P := P) w src dst e ⟨g, 0, none⟩ cap ((List.range n).map f) hs he hd (fun j hj => by
    rw [Go.WideShapes.add_plain, Nat.zero_add]
    have hj' : j < n := by simpa using hj
    rw [h.cell hj']
    simp)
  simpa [ofBytes] using this
end Go.Proofs.Ytgkenknplepmeaa
namespace Go.Proofs.Ytgkenknplepmeaa
open Go.RowKit

/-- What may have turned between two worlds: of the blocks that were there, those of S alone. -/
structure Upd (w w' : World) (S : Nat → Prop) : Prop where
  os : w'.os = w.os
  tape : w'.tape = w.tape
  output : w'.output = w.output
  size : w.heap.size ≤ w'.heap.size
  block : ∀ k, k < w.heap.size → ¬ S k → w'.heap[k]? = w.heap[k]?
theorem Upd.refl (w : World) (S : Nat → Prop) : Upd w w S := ⟨rfl, rfl, rfl, Nat.le_refl _, fun _ _ _ => rfl⟩
theorem Upd.trans {a b c : World} {S S' : Nat → Prop} (h : Upd a b S) (k : Upd b c S') (hs : ∀ i, i < a.heap.size → S' i → S i) : Upd a c S :=
  ⟨k.os.trans h.os, k.tape.trans h.tape, k.output.trans h.output, Nat.le_trans h.size k.size, fun i hi hn => (k.block i (Nat.lt_of_lt_of_le hi h.size) (fun s => hn (hs i hi s))).trans (h.block i hi hn)⟩
theorem Upd.mono {a b : World} {S S' : Nat → Prop} (h : Upd a b S) (hs : ∀ k, k < a.heap.size → S k → S' k) : Upd a b S' :=
  ⟨h.os, h.tape, h.output, h.size, fun k hk hn => h.block k hk (fun s => hn (hs k hk s))⟩
theorem Upd.below {a b : World} {S : Nat → Prop} {B : Nat} (h : Upd a b S) (hB : B ≤ a.heap.size) (hs : ∀ k, S k → B ≤ k) : Below B a b :=
  ⟨h.os, h.tape, h.output, h.size, fun k hk => h.block k (by omega) (fun s => by have := hs k s; omega)⟩
theorem Upd.set {a w : World} {S : Nat → Prop} (h : Upd a w S) {b i : Nat} (hb : a.heap.size ≤ b ∨ S b) (u : Value) : Upd a (w.setCell ⟨b, i, none⟩ u) S :=
  ⟨h.os, h.tape, h.output, by have := h.size; simpa [World.setCell] using this, fun k hk hn => (Below.heap_setCell _ _ _ _ (fun e => by
    rcases hb with hb | hb
    · simp at e; omega
    · exact hn (by rw [show k = b from e]; exact hb))).trans (h.block k hk hn)⟩
theorem Upd.alloc {a w : World} {S : Nat → Prop} (h : Upd a w S) (o : Obj) : Upd a (w.alloc o) S :=
  ⟨h.os, h.tape, h.output, by have := h.size; simp; omega, fun k hk hn => (Below.heap_alloc _ _ _ (Nat.lt_of_lt_of_le hk h.size)).trans (h.block k hk hn)⟩
theorem Upd.drew {a w : World} {S : Nat → Prop} (h : Upd a w S) : Upd a w.drew S := ⟨h.os, h.tape, h.output, h.size, h.block⟩

abbrev ptr (b : Nat) : Value := .pointer (some ⟨b, 0, none⟩)
/-- A block of cells, none of them frozen. -/
def Blk (w : World) (b : Nat) (t : TypeId) (cs : Array Value) : Prop := w.heap[b]? = some (.cells cs t (0, 0))
section
variable {w w' : World} {b : Nat} {t : TypeId} {cs : Array Value}
theorem Blk.cell (h : Blk w b t cs) (i : Nat) : w.cell? ⟨b, i, none⟩ = cs[i]? := by unfold Blk at h; simp [World.cell?, h]
theorem Blk.free (h : Blk w b t cs) (i : Nat) : w.frozen? ⟨b, i, none⟩ = false := by unfold Blk at h; simp [World.frozen?, h]
theorem Blk.lt (h : Blk w b t cs) : b < w.heap.size := (Array.getElem?_eq_some_iff.1 h).1
theorem Blk.set (h : Blk w b t cs) (i : Nat) (u : Value) : Blk (w.setCell ⟨b, i, none⟩ u) b t (cs.setIfInBounds i u) := by
  unfold Blk at h ⊢
  rw [setCell_eq_setRow _ _ _ _ _ _ _ h]
  exact setRow_heap _ _ _ _ _ _ h
theorem Blk.other (h : Blk w b t cs) {k i : Nat} (hk : b ≠ k) (u : Value) : Blk (w.setCell ⟨k, i, none⟩ u) b t cs := (Below.heap_setCell _ _ _ _ hk).trans h
theorem Blk.alloc (h : Blk w b t cs) (o : Obj) : Blk (w.alloc o) b t cs := (Below.heap_alloc _ _ _ h.lt).trans h
theorem Blk.new (w : World) (t : TypeId) (cs : Array Value) : Blk (w.alloc (.cells cs t)) w.heap.size t cs := World.alloc_heap_new _ _
theorem Blk.drew (h : Blk w b t cs) : Blk w.drew b t cs := h
theorem Blk.upd {S : Nat → Prop} (h : Blk w b t cs) (hu : Upd w w' S) (hs : ¬ S b) : Blk w' b t cs := (hu.block b h.lt hs).trans h
end
theorem own_shape {w : World} {B : Nat} {e : TypeId} {z : Nat} {v : Value} {n : Nat} {xs : List Value} (h : w.ownsRow B e z v n xs) : ∃ A c, v = .slice A n c := by
  rcases h.2 with ⟨rfl, rfl⟩ | ⟨g, cap, cur, rfl, _⟩
  · exact ⟨_, _, rfl⟩
  · exact ⟨_, _, rfl⟩
theorem Blk.grown {w w' : World} {b : Nat} {t : TypeId} {cs : Array Value} {row : Option Nat} (h : Blk w b t cs) (hg : w.grownBy w' row) (hn : row ≠ some b) : Blk w' b t cs := (hg.block b h.lt (fun e => hn e.symm)).trans h
end Go.Proofs.Ytgkenknplepmeaa
