/-
  WALKS: sort.Search over the closure of files.place, files.place, files.Get, files.around: what each call gives for a slice that reads as a sorted list of files of fewer than 2^40 elements.
-/
import Derived.Test.YtpghfefiifhbiaaDoorRows
import Derived.Test.YtpghfefiifhbiaaDoorMem
import Derived.WalkKit
import Derived.WalkSpells
import Derived.WalkLawsBesides
import Derived.Deep.QuietTactic
import Derived.BigQuiet
import Derived.Deep.LoopGhost
import Derived.Lib.Hide
namespace Go.Proofs.YtpghfefiifhbiaaDoor
open Go.RowKit



theorem box_below (w : World) (o o' : Obj) : Below w.heap.size w ((w.alloc o).alloc o') := ((Below.refl _ _).alloc (Nat.le_refl _) o).alloc (by simp) o'

theorem has_at {l : List F} (hs : Rises l) (x : ByteArray) {f : F} (hf : l[cut l x]? = some f) : has l x = (f.1.toList == x.toList) := by
  rw [Bool.eq_iff_iff, cut_has hs, beq_iff_eq]
  constructor
  · rintro ⟨g, hg, rfl⟩
    rw [hf] at hg; injection hg with hg; rw [hg]
  · intro e
    exact ⟨f, hf, toList_inj e⟩
theorem has_end {l : List F} (hs : Rises l) (x : ByteArray) (hf : l.length ≤ cut l x) : has l x = false := by
  cases h : has l x with
  | false => rfl
  | true =>
    obtain ⟨g, hg, _⟩ := (cut_has hs x).1 h
    rw [List.getElem?_eq_none hf] at hg; cases hg



end Go.Proofs.YtpghfefiifhbiaaDoor
