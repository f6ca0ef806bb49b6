/-
  PLAIN: what the commands of a group come to, one behind the other. Under no condition on any program.
-/
import Derived.Test.YtmadegpbinnnfaaDoorPass
namespace Go.Proofs.YtmadegpbinnnfaaDoor
open Go.RowKit

/-- What the commands come to, by number and files written. -/
def allR (base : List F) (needs targets : List ByteArray) : List ByteArray → List F → Int × List F
  | [], own => if own.length < targets.length then (5, []) else (0, own)
  | c :: cs, own => if (runR base needs targets own (words c)).1 = 0 then allR base needs targets cs (runR base needs targets own (words c)).2 else ((runR base needs targets own (words c)).1, [])
theorem allR_end {base : List F} {needs targets : List ByteArray} {cmds : List ByteArray} {own : List F} {k : Nat} (h : cmds.length ≤ k) : allR base needs targets (cmds.drop k) own = if own.length < targets.length then (5, []) else (0, own) := by
  rw [List.drop_eq_nil_of_le h, allR]
theorem allR_next {base : List F} {needs targets : List ByteArray} {cmds : List ByteArray} {own : List F} {k : Nat} {c : ByteArray} (h : cmds[k]? = some c) (h0 : (runR base needs targets own (words c)).1 = 0) :
    allR base needs targets (cmds.drop k) own = allR base needs targets (cmds.drop (k + 1)) (runR base needs targets own (words c)).2 := by
  obtain ⟨hl, rfl⟩ := List.getElem?_eq_some_iff.1 h
  rw [List.drop_eq_getElem_cons hl, allR, if_pos h0]
theorem allR_err {base : List F} {needs targets : List ByteArray} {cmds : List ByteArray} {own : List F} {k : Nat} {c : ByteArray} (h : cmds[k]? = some c) (h0 : (runR base needs targets own (words c)).1 ≠ 0) :
    allR base needs targets (cmds.drop k) own = ((runR base needs targets own (words c)).1, []) := by
  obtain ⟨hl, rfl⟩ := List.getElem?_eq_some_iff.1 h
  rw [List.drop_eq_getElem_cons hl, allR, if_neg h0]
theorem allR_nn {base : List F} {needs targets : List ByteArray} (cmds : List ByteArray) : ∀ own : List F, 0 ≤ (allR base needs targets cmds own).1 := by
  induction cmds with
  | nil => intro own; unfold allR; split <;> simp
  | cons c cs ih =>
    intro own
    unfold allR
    split
    · exact ih _
    · exact runR_nn _
theorem Small.next {base : List F} {needs targets : List ByteArray} {own : List F} (h : Small base needs targets own) (hl : own.length < 800000) (ws : List ByteArray) : Small base needs targets (runR base needs targets own ws).2 := by
  have hg := runR_grows (base := base) (needs := needs) (targets := targets) h.ro ws
  refine ⟨h.rb, hg.1, h.lb, by have := hg.2.1; omega, h.ln, h.lt, h.sb, fun f hf => ?_⟩
  rcases hg.2.2 f hf with h1 | h1
  · exact h.so f h1
  · omega
theorem MaxOk.grown {w w' : World} {g : Nat} (h : MaxOk w) (hg : w.grownBy w' (some g)) (hn : ∀ m : Int, w.cell? ⟨1, 0, none⟩ = some (.int .i64 m) → 1 ≠ g) : MaxOk w' := by
  obtain ⟨m, hm⟩ := h
  exact ⟨m, hg.cell hm (by intro e; injection e with e; exact hn m hm e)⟩
theorem OvA.max_ne {w : World} {g : Nat} {base own : List F} {needs targets : List ByteArray} (h : OvA w g base needs targets own) (m : Int) (hm : w.cell? ⟨1, 0, none⟩ = some (.int .i64 m)) : 1 ≠ g := by
  intro e
  obtain ⟨_, _, _, _, _, _, _, _, _, _, _, _, h, _⟩ := h
  have := h.cell 0
  rw [e, this] at hm
  exact absurd hm (by simp)
/-- What a call on a group leaves: files, and the number of what is wrong. -/
def AllPost (r : Int × List F) (w : World) (e : Ending) (w' : World) : Prop :=
  ∃ A n c, e = .returned (.tuple #[.slice A n c, errV r.1]) ∧ RdF w' w'.heap.size A n c r.2 ∧ Below w.heap.size w w'
def RefAllPost (r : Int × List F) (w : World) (e : Ending) (w' : World) : Prop :=
  ∃ A n c, e = .returned (.tuple #[.slice A n c, .int .i64 r.1]) ∧ RdF w' w'.heap.size A n c r.2 ∧ Below w.heap.size w w'
end Go.Proofs.YtmadegpbinnnfaaDoor
