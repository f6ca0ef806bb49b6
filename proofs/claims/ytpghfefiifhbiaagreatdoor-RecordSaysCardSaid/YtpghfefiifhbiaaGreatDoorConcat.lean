/-
  WALKS: slices.Grow of nil, slices.Concat, files.Put, files.Drop over slices of files: what each call gives, for lists of at most a million files.
-/
import Derived.Test.YtpghfefiifhbiaaGreatDoorSearch
import Derived.Lib.AppendZeros
namespace Go.Proofs.YtpghfefiifhbiaaGreatDoor
open Go.RowKit

theorem file_info : (Tryz.prog.info? 44).map (fun i => (i.zero, i.size, i.bytes)) = some (some (.agg #[.string ByteArray.empty, .string ByteArray.empty]), 2, 32) := by kernel_rfl
theorem file_parts : ∃ i, Tryz.prog.info? 44 = some i ∧ i.zero = some (.agg #[.string ByteArray.empty, .string ByteArray.empty]) ∧ i.size = 2 ∧ i.bytes = 32 := by
  have h := file_info
  cases e : Tryz.prog.info? 44 with
  | none => rw [e] at h; cases h
  | some i =>
    rw [e] at h
    simp only [Option.map_some, Option.some.injEq, Prod.mk.injEq] at h
    exact ⟨i, rfl, h.1, h.2.1, h.2.2⟩


/-- What a list of slices holds, cell by cell. -/
def RdL (w : World) (B g off : Nat) (L : List (Option Addr × Nat × Nat × List F)) : Prop :=
  ∀ j s, L[j]? = some s → w.cell? ⟨g, off + j, none⟩ = some (.slice s.1 s.2.1 s.2.2.1) ∧ RdF w B s.1 s.2.1 s.2.2.1 s.2.2.2
def allF (L : List (Option Addr × Nat × Nat × List F)) : List F := L.flatMap fun s => s.2.2.2
theorem RdL.keep {w w' : World} {B g off : Nat} {L : List (Option Addr × Nat × Nat × List F)} (h : RdL w B g off L) (hg : g < B) (hb : Below B w w') : RdL w' B g off L :=
  fun j s hs => ⟨(hb.cell (p := ⟨g, off + j, none⟩) hg).trans (h j s hs).1, (h j s hs).2.below hb⟩
theorem allF_snoc (L : List (Option Addr × Nat × Nat × List F)) (k : Nat) {s : Option Addr × Nat × Nat × List F} (h : L[k]? = some s) : allF (L.take (k + 1)) = allF (L.take k) ++ s.2.2.2 := by
  have hl := (List.getElem?_eq_some_iff.1 h).1
  rw [List.take_succ_eq_append_getElem hl, allF, List.flatMap_append]
  have e : L[k] = s := (List.getElem?_eq_some_iff.1 h).2
  rw [e]; simp [allF]
theorem allF_mono (L : List (Option Addr × Nat × Nat × List F)) (k : Nat) : (allF (L.take k)).length ≤ (allF L).length := by
  conv => rhs; rw [← List.take_append_drop k L, allF, List.flatMap_append]
  rw [List.length_append]; exact Nat.le_add_right _ _

def CatRel (w : World) (n : Nat) (L : List (Option Addr × Nat × Nat × List F)) (v j : Value) (wr : World) : Prop :=
  ∃ k : Nat, k ≤ n ∧ j = .int .i64 k ∧ wr.ownsRow w.heap.size 44 2 v (allF (L.take k)).length (fcells (allF (L.take k))) ∧ Below w.heap.size w wr

end Go.Proofs.YtpghfefiifhbiaaGreatDoor
