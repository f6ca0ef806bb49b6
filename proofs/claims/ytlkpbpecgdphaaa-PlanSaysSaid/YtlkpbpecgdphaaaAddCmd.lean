/-
  WALK: makefile.addCommand: what it makes of the description in memory.
-/
import Derived.Test.YtlkpbpecgdphaaaExpText
import Derived.Test.YtlkpbpecgdphaaaFields
import Derived.Deep.Onto
namespace Go.Proofs.Ytlkpbpecgdphaaa
open Go.RowKit

abbrev Row3 := Value × Value × Value
def rcells (R : List Row3) : List Value := R.flatMap fun x => [x.1, x.2.1, x.2.2]
theorem rcells_len (R : List Row3) : (rcells R).length = R.length * 3 := by
  induction R with
  | nil => rfl
  | cons x R ih => simp [rcells] at ih ⊢; omega
theorem rcells_append (a b : List Row3) : rcells (a ++ b) = rcells a ++ rcells b := by simp [rcells]
theorem rcells_cons (x : Row3) (l : List Row3) : rcells (x :: l) = x.1 :: x.2.1 :: x.2.2 :: rcells l := rfl
theorem rcells_at {R : List Row3} {i : Nat} {x : Row3} (h : R[i]? = some x) : (rcells R)[i * 3]? = some x.1 ∧ (rcells R)[i * 3 + 1]? = some x.2.1 ∧ (rcells R)[i * 3 + 2]? = some x.2.2 := by
  induction R generalizing i with
  | nil => simp at h
  | cons y R ih =>
    cases i with
    | zero => simp at h; subst h; exact ⟨rfl, rfl, rfl⟩
    | succ i =>
      rw [List.getElem?_cons_succ] at h
      rw [rcells_cons, show (i + 1) * 3 = i * 3 + 1 + 1 + 1 by omega]
      exact ih h
theorem rcells_mem {R : List Row3} {i : Nat} {x : Row3} (h : R[i]? = some x) : x.1 ∈ rcells R ∧ x.2.1 ∈ rcells R ∧ x.2.2 ∈ rcells R := by
  obtain ⟨a, b, c⟩ := rcells_at h
  exact ⟨List.mem_of_getElem? a, List.mem_of_getElem? b, List.mem_of_getElem? c⟩
theorem mem_rcells {R : List Row3} {v : Value} (h : v ∈ rcells R) : ∃ (i : Nat) (x : Row3), R[i]? = some x ∧ (v = x.1 ∨ v = x.2.1 ∨ v = x.2.2) := by
  simp only [rcells, List.mem_flatMap, List.mem_cons, List.mem_nil_iff, or_false] at h
  obtain ⟨x, hx, hv⟩ := h
  obtain ⟨i, hi, e⟩ := List.mem_iff_getElem.1 hx
  exact ⟨i, x, by rw [List.getElem?_eq_getElem hi, e], hv⟩
/-- Two rows lie in no common block. -/
def Apart (u v : Value) : Prop := u.ownBlock = none ∨ u.ownBlock ≠ v.ownBlock
theorem Apart.symm {u v : Value} (h : Apart u v) : Apart v u := by
  rcases h with h | h
  · cases hv : v.ownBlock with
    | none => exact .inl hv
    | some k => exact .inr (by rw [hv, h]; simp)
  · exact .inr (Ne.symm h)
theorem Apart.new {v c c' : Value} {N : Nat} (h : Apart v c) (hc : c'.ownBlock = c.ownBlock ∨ c'.ownBlock = some N) (hv : ∀ k, v.ownBlock = some k → k < N) : Apart v c' := by
  rcases hc with e | e
  · rcases h with h | h
    · exact .inl h
    · exact .inr (by rw [e]; exact h)
  · cases hk : v.ownBlock with
    | none => exact .inl hk
    | some k => exact .inr (by rw [e, hk]; have := hv k hk; intro x; injection x with x; omega)
theorem Apart.far {u v : Value} {N : Nat} (hu : ∀ k, u.ownBlock = some k → k < N) (hv : ∀ k, v.ownBlock = some k → N ≤ k) : Apart u v := by
  cases hk : u.ownBlock with
  | none => exact .inl hk
  | some k =>
    refine .inr ?_
    rw [hk]
    intro e
    have h1 := hu k hk
    have h2 := hv k e.symm
    omega
theorem rows_ne {w : World} {B B' : Nat} {e e' : TypeId} {s s' : Nat} {v v' : Value} {n n' : Nat} {xs xs' : List Value} (h : w.ownsRow B e s v n xs) (h' : w.ownsRow B' e' s' v' n' xs') (hne : e ≠ e') : Apart v v' := by
  rcases h.2 with ⟨rfl, _⟩ | ⟨g, cap, cur, rfl, _, hg, _⟩
  · exact .inl rfl
  · rcases h'.2 with ⟨rfl, _⟩ | ⟨g', cap', cur', rfl, _, hg', _⟩
    · exact .inr (by simp [Value.ownBlock])
    · refine .inr ?_
      intro e
      simp only [Value.ownBlock, Option.some.injEq] at e
      subst e
      rw [hg] at hg'
      injection hg' with hg'
      injection hg' with _ h2
      exact hne h2
abbrev Own1 (w : World) (B : Nat) (v : Value) (l : List ByteArray) : Prop := w.ownsRow B 9 1 v l.length (tcells l)

structure MkOk (w : World) (B g : Nat) (m : Mk) (vv vr vp : Value) (R : List Row3) : Prop where
  blk : w.heap[g]? = some (.cells #[vv, vr, vp] 36 (0, 0))
  vars : w.ownsRow B 84 2 vv m.vars.length (fcells m.vars)
  rules : w.ownsRow B 81 3 vr R.length (rcells R)
  len : R.length = m.rules.length
  each : ∀ (i : Nat) (x : Row3) (u : Ru), R[i]? = some x → m.rules[i]? = some u → Own1 w B x.1 u.1 ∧ Own1 w B x.2.1 u.2.1 ∧ Own1 w B x.2.2 u.2.2
  phony : Own1 w B vp m.phony
  apart : (vp :: rcells R).Pairwise Apart
def MkIn (w : World) (B g : Nat) (m : Mk) : Prop := ∃ vv vr vp R, MkOk w B g m vv vr vp R
/-- What a step of the reading keeps: all below B but for the description's own block. -/
structure Fr (g B : Nat) (w w' : World) : Prop where
  os : w'.os = w.os
  tape : w'.tape = w.tape
  output : w'.output = w.output
  size : w.heap.size ≤ w'.heap.size
  block : ∀ k, k < B → k ≠ g → w'.heap[k]? = w.heap[k]?
theorem Fr.refl (g B : Nat) (w : World) : Fr g B w w := ⟨rfl, rfl, rfl, Nat.le_refl _, fun _ _ _ => rfl⟩
theorem Fr.trans {g B : Nat} {a b c : World} (h : Fr g B a b) (k : Fr g B b c) : Fr g B a c :=
  ⟨k.os.trans h.os, k.tape.trans h.tape, k.output.trans h.output, Nat.le_trans h.size k.size, fun i hi hg => (k.block i hi hg).trans (h.block i hi hg)⟩
theorem Fr.of_below {g B : Nat} {w w' : World} (h : Below w.heap.size w w') (hB : B ≤ w.heap.size) : Fr g B w w' := ⟨h.os, h.tape, h.output, h.size, fun k hk _ => h.block k (by omega)⟩
theorem Fr.of_grown {g B : Nat} {w w' : World} {row : Option Nat} (h : w.grownBy w' row) (hB : B ≤ w.heap.size) (hr : ∀ k, row = some k → B ≤ k ∨ k = g) : Fr g B w w' :=
  ⟨h.os, h.tape, h.output, h.size, fun k hk hg => h.block k (by omega) (fun e => by rcases hr k e.symm with h | h; omega; exact hg h)⟩
theorem Fr.cell {g B : Nat} {w w' : World} (h : Fr g B w w') {p : Addr} (hp : p.block < B) (hg : p.block ≠ g) : w'.cell? p = w.cell? p := World.cell?_of_block (w := w) (h.block p.block hp hg)
theorem Fr.setCell {g B : Nat} {a w : World} (h : Fr g B a w) (j : Nat) (u : Value) : Fr g B a (w.setCell ⟨g, j, none⟩ u) :=
  h.trans ⟨rfl, rfl, rfl, by simp, fun k _ hg => Below.heap_setCell _ _ _ _ hg⟩
section
variable {w w' : World} {B g : Nat} {m : Mk} {vv vr vp : Value} {R : List Row3}
theorem MkOk.lt (h : MkOk w B g m vv vr vp R) : g < w.heap.size := (Array.getElem?_eq_some_iff.1 h.blk).1
theorem MkOk.cell (h : MkOk w B g m vv vr vp R) : w.cell? ⟨g, 0, none⟩ = some vv ∧ w.cell? ⟨g, 1, none⟩ = some vr ∧ w.cell? ⟨g, 2, none⟩ = some vp := by
  refine ⟨?_, ?_, ?_⟩ <;> simp [World.cell?, h.blk]
theorem MkOk.frozen (h : MkOk w B g m vv vr vp R) (j : Nat) : w.frozen? ⟨g, j, none⟩ = false := by simp [World.frozen?, h.blk]
theorem row_not_blk {B : Nat} {e : TypeId} {s : Nat} {v : Value} {n : Nat} {xs : List Value} {cs : Array Value} {t : TypeId} (h : w.ownsRow B e s v n xs) (hb : w.heap[g]? = some (.cells cs t (0, 0))) (hne : t ≠ e) : some g ≠ v.ownBlock := by
  rcases h.2 with ⟨rfl, _⟩ | ⟨g', cap, cur, rfl, _, hg, _⟩
  · simp [Value.ownBlock]
  · intro e
    simp only [Value.ownBlock, Option.some.injEq] at e
    subst e
    rw [hb] at hg
    injection hg with hg
    injection hg with _ h2
    exact hne h2
/-- All of it stands where one row has turned that is none of its own. -/
theorem MkOk.kept {row : Option Nat} (h : MkOk w B g m vv vr vp R) (hg : w.grownBy w' row) (h0 : some g ≠ row) (h1 : vv.ownBlock = none ∨ vv.ownBlock ≠ row) (h2 : vr.ownBlock = none ∨ vr.ownBlock ≠ row) (h3 : ∀ v ∈ vp :: rcells R, v.ownBlock = none ∨ v.ownBlock ≠ row) :
    MkOk w' B g m vv vr vp R :=
  ⟨(hg.block g h.lt h0).trans h.blk, h.vars.kept hg h1, h.rules.kept hg h2, h.len, fun i x u hx hu => by
    obtain ⟨a, b, c⟩ := h.each i x u hx hu
    obtain ⟨ma, mb, mc⟩ := rcells_mem hx
    exact ⟨a.kept hg (h3 _ (by simp [ma])), b.kept hg (h3 _ (by simp [mb])), c.kept hg (h3 _ (by simp [mc]))⟩, h.phony.kept hg (h3 _ (by simp)), h.apart⟩
theorem MkOk.below (h : MkOk w B g m vv vr vp R) (hb : Below w.heap.size w w') : MkOk w' B g m vv vr vp R :=
  h.kept (grown_of_below hb) (by simp) (by cases vv.ownBlock <;> simp) (by cases vr.ownBlock <;> simp) (fun v _ => by cases v.ownBlock <;> simp)
theorem MkIn.below (h : MkIn w B g m) (hb : Below w.heap.size w w') : MkIn w' B g m := by
  obtain ⟨vv, vr, vp, R, h⟩ := h
  exact ⟨vv, vr, vp, R, h.below hb⟩
/-- The blocks of all rows lie within. -/
theorem MkOk.str (h : MkOk w B g m vv vr vp R) {v : Value} (hv : v ∈ vp :: rcells R) : ∃ l, Own1 w B v l := by
  rcases List.mem_cons.1 hv with rfl | hv
  · exact ⟨_, h.phony⟩
  · obtain ⟨i, x, hx, e⟩ := mem_rcells hv
    have hi : i < m.rules.length := by rw [← h.len]; exact (List.getElem?_eq_some_iff.1 hx).1
    obtain ⟨a, b, c⟩ := h.each i x _ hx (List.getElem?_eq_getElem hi)
    rcases e with rfl | rfl | rfl
    · exact ⟨_, a⟩
    · exact ⟨_, b⟩
    · exact ⟨_, c⟩
theorem MkOk.rdVars (h : MkOk w B g m vv vr vp R) : ∃ A c, vv = .slice A m.vars.length c ∧ RdF w w.heap.size A m.vars.length c m.vars := RdF.of_own h.vars
theorem MkOk.rdPhony (h : MkOk w B g m vv vr vp R) : ∃ A c, vp = .slice A m.phony.length c ∧ RdS w w.heap.size A m.phony.length c m.phony := RdS.of_own h.phony
end
theorem heap_set3 {w : World} {g : Nat} {t : TypeId} {a b c : Value} (h : w.heap[g]? = some (.cells #[a, b, c] t (0, 0))) (u : Value) :
    (w.setCell ⟨g, 0, none⟩ u).heap[g]? = some (.cells #[u, b, c] t (0, 0)) ∧ (w.setCell ⟨g, 1, none⟩ u).heap[g]? = some (.cells #[a, u, c] t (0, 0)) ∧ (w.setCell ⟨g, 2, none⟩ u).heap[g]? = some (.cells #[a, b, u] t (0, 0)) := by
  obtain ⟨hlt, hk⟩ := Array.getElem?_eq_some_iff.1 h
  refine ⟨?_, ?_, ?_⟩
  all_goals
    show (w.heap.modify g _)[g]? = _
    rw [Array.getElem?_eq_getElem (by rw [Array.size_modify]; exact hlt), Array.getElem_modify_self, hk]
    rfl
theorem grown_set (w : World) (g j : Nat) (u : Value) : w.grownBy (w.setCell ⟨g, j, none⟩ u) (some g) :=
  ⟨rfl, rfl, rfl, by simp, fun k _ hr => Below.heap_setCell _ _ _ _ (fun e => hr (by rw [e]))⟩
section
variable {w w1 : World} {B g : Nat} {m : Mk} {vv vr vp : Value} {R : List Row3}
/-- One variable more. -/
theorem MkOk.moreVar (h : MkOk w B g m vv vr vp R) (f : F) {v' : Value} (hown : w1.ownsRow B 84 2 v' (m.vars.length + 1) (fcells m.vars ++ [.string f.1, .string f.2])) (hgrow : w.grownBy w1 vv.ownBlock) :
    MkOk (w1.setCell ⟨g, 0, none⟩ v') B g { m with vars := m.vars ++ [f] } v' vr vp R := by
  have h1 : MkOk w1 B g m vv vr vp R → False ∨ True := fun _ => .inr trivial
  have hb1 : w1.heap[g]? = some (.cells #[vv, vr, vp] 36 (0, 0)) := (hgrow.block g h.lt (row_not_blk h.vars h.blk (by decide))).trans h.blk
  have hs := grown_set w1 g 0 v'
  have e : fcells (m.vars ++ [f]) = fcells m.vars ++ [.string f.1, .string f.2] := by rw [fcells_append]; rfl
  have hstr : ∀ v l, Own1 w B v l → Own1 (w1.setCell ⟨g, 0, none⟩ v') B v l := fun v l hv => (hv.kept hgrow (rows_ne hv h.vars (by decide))).kept hs (by
    have := row_not_blk (hv.kept hgrow (rows_ne hv h.vars (by decide))) hb1 (by decide)
    exact .inr (Ne.symm this))
  have _ := h1
  refine ⟨(heap_set3 hb1 v').1, ?_, ?_, h.len, fun i x u hx hu => ?_, hstr _ _ h.phony, h.apart⟩
  · show (w1.setCell ⟨g, 0, none⟩ v').ownsRow B _ 2 v' (m.vars ++ [f]).length (fcells (m.vars ++ [f]))
    rw [e, List.length_append]
    exact hown.kept hs (.inr (Ne.symm (row_not_blk hown hb1 (by decide))))
  · have hr1 := h.rules.kept hgrow (rows_ne h.rules h.vars (by decide))
    exact hr1.kept hs (.inr (Ne.symm (row_not_blk hr1 hb1 (by decide))))
  · obtain ⟨a, b, c⟩ := h.each i x u hx hu
    exact ⟨hstr _ _ a, hstr _ _ b, hstr _ _ c⟩
/-- One phony name more. -/
theorem MkOk.morePhony (h : MkOk w B g m vv vr vp R) (n : ByteArray) {v' : Value} (hown : w1.ownsRow B 9 1 v' (m.phony.length + 1) (tcells m.phony ++ [.string n])) (hgrow : w.grownBy w1 vp.ownBlock) (hloc : v'.ownBlock = vp.ownBlock ∨ v'.ownBlock = some w.heap.size) :
    MkOk (w1.setCell ⟨g, 2, none⟩ v') B g { m with phony := m.phony ++ [n] } vv vr v' R := by
  have hb1 : w1.heap[g]? = some (.cells #[vv, vr, vp] 36 (0, 0)) := (hgrow.block g h.lt (row_not_blk h.phony h.blk (by decide))).trans h.blk
  have hs := grown_set w1 g 2 v'
  have e : tcells (m.phony ++ [n]) = tcells m.phony ++ [.string n] := by simp [tcells]
  have hap := List.pairwise_cons.1 h.apart
  have hstr : ∀ v l, v ∈ rcells R → Own1 w B v l → Own1 (w1.setCell ⟨g, 2, none⟩ v') B v l := fun v l hv ho => (ho.kept hgrow (hap.1 v hv).symm).kept hs (by
    have := row_not_blk (ho.kept hgrow (hap.1 v hv).symm) hb1 (by decide)
    exact .inr (Ne.symm this))
  refine ⟨(heap_set3 hb1 v').2.2, ?_, ?_, h.len, fun i x u hx hu => ?_, ?_, List.pairwise_cons.2 ⟨fun v hv => ?_, hap.2⟩⟩
  · have hr1 := h.vars.kept hgrow (rows_ne h.vars h.phony (by decide))
    exact hr1.kept hs (.inr (Ne.symm (row_not_blk hr1 hb1 (by decide))))
  · have hr1 := h.rules.kept hgrow (rows_ne h.rules h.phony (by decide))
    exact hr1.kept hs (.inr (Ne.symm (row_not_blk hr1 hb1 (by decide))))
  · obtain ⟨a, b, c⟩ := h.each i x u hx hu
    obtain ⟨ma, mb, mc⟩ := rcells_mem hx
    exact ⟨hstr _ _ ma a, hstr _ _ mb b, hstr _ _ mc c⟩
  · show (w1.setCell ⟨g, 2, none⟩ v').ownsRow B _ 1 v' (m.phony ++ [n]).length (tcells (m.phony ++ [n]))
    rw [e, List.length_append]
    exact hown.kept hs (.inr (Ne.symm (row_not_blk hown hb1 (by decide))))
  · obtain ⟨l, hl⟩ := h.str (v := v) (by simp [hv])
    exact (Apart.new (hap.1 v hv).symm hloc (fun k hk => (hl.lt k hk).2)).symm
/-- One rule more. -/
theorem MkOk.moreRule (h : MkOk w B g m vv vr vp R) (T N : List ByteArray) {vt vn v' : Value} (ht : Own1 w B vt T) (hn : Own1 w B vn N) (hat : ∀ v ∈ vp :: rcells R, Apart v vt ∧ Apart v vn) (htn : Apart vt vn)
    (hown : w1.ownsRow B 81 3 v' (R.length + 1) (rcells R ++ [vt, vn, .slice none 0 0])) (hgrow : w.grownBy w1 vr.ownBlock) :
    MkOk (w1.setCell ⟨g, 1, none⟩ v') B g { m with rules := m.rules ++ [(T, N, [])] } vv v' vp (R ++ [(vt, vn, .slice none 0 0)]) := by
  have hb1 : w1.heap[g]? = some (.cells #[vv, vr, vp] 36 (0, 0)) := (hgrow.block g h.lt (row_not_blk h.rules h.blk (by decide))).trans h.blk
  have hs := grown_set w1 g 1 v'
  have e : rcells (R ++ [(vt, vn, .slice none 0 0)]) = rcells R ++ [vt, vn, .slice none 0 0] := by rw [rcells_append]; rfl
  have hstr : ∀ v l, Own1 w B v l → Own1 (w1.setCell ⟨g, 1, none⟩ v') B v l := fun v l hv => (hv.kept hgrow (rows_ne hv h.rules (by decide))).kept hs (by
    have := row_not_blk (hv.kept hgrow (rows_ne hv h.rules (by decide))) hb1 (by decide)
    exact .inr (Ne.symm this))
  refine ⟨(heap_set3 hb1 v').2.1, ?_, ?_, by simp [h.len], fun i x u hx hu => ?_, hstr _ _ h.phony, ?_⟩
  · have hr1 := h.vars.kept hgrow (rows_ne h.vars h.rules (by decide))
    exact hr1.kept hs (.inr (Ne.symm (row_not_blk hr1 hb1 (by decide))))
  · rw [e, List.length_append]
    exact hown.kept hs (.inr (Ne.symm (row_not_blk hown hb1 (by decide))))
  · rcases Nat.lt_or_ge i R.length with hi | hi
    · rw [List.getElem?_append_left hi] at hx
      rw [List.getElem?_append_left (by rw [← h.len]; exact hi)] at hu
      obtain ⟨a, b, c⟩ := h.each i x u hx hu
      exact ⟨hstr _ _ a, hstr _ _ b, hstr _ _ c⟩
    · rw [List.getElem?_append_right hi] at hx
      rw [List.getElem?_append_right (by rw [← h.len]; exact hi)] at hu
      rw [← h.len] at hu
      cases hk : i - R.length with
      | zero =>
        rw [hk] at hx hu
        simp at hx hu
        subst hx
        subst hu
        exact ⟨hstr _ _ ht, hstr _ _ hn, World.ownsRow_nil _ _ _ _⟩
      | succ k => rw [hk] at hx; simp at hx
  · rw [e, ← List.cons_append, List.pairwise_append]
    refine ⟨h.apart, ?_, fun v hv u hu => ?_⟩
    · refine List.pairwise_cons.2 ⟨fun u hu => ?_, List.pairwise_cons.2 ⟨fun u hu => ?_, List.pairwise_singleton _ _⟩⟩
      · simp at hu
        rcases hu with rfl | rfl
        · exact htn
        · exact (Apart.symm (.inl rfl))
      · simp at hu
        subst hu
        exact (Apart.symm (.inl rfl))
    · simp at hu
      rcases hu with rfl | rfl | rfl
      · exact (hat v hv).1
      · exact (hat v hv).2
      · exact (Apart.symm (.inl rfl))
theorem moreCmd_snoc (l : List Ru) (u : Ru) (c : ByteArray) : moreCmd (l ++ [u]) c = l ++ [(u.1, u.2.1, u.2.2 ++ [c])] := by
  induction l with
  | nil => rfl
  | cons r l ih =>
    cases l with
    | nil => rfl
    | cons q l => rw [List.cons_append, List.cons_append, moreCmd, ← List.cons_append, ih]; rfl
theorem lastCmds_snoc (l : List Ru) (u : Ru) : lastCmds (l ++ [u]) = u.2.2.length := by
  induction l with
  | nil => rfl
  | cons r l ih =>
    cases l with
    | nil => rfl
    | cons q l => rw [List.cons_append, List.cons_append, lastCmds, ← List.cons_append, ih]
/-- One command more for the last rule. -/
theorem MkOk.moreCmd {x : Row3} {r0 : List Ru} {u : Ru} (h : MkOk w B g m vv vr vp (R ++ [x])) (hm : m.rules = r0 ++ [u]) (s : ByteArray) {c' : Value} {gr cap : Nat} (hvr : vr = .slice (some ⟨gr, 0, none⟩) (R.length + 1) cap)
    (hown : w1.ownsRow B 9 1 c' (u.2.2.length + 1) (tcells u.2.2 ++ [.string s])) (hgrow : w.grownBy w1 x.2.2.ownBlock) (hloc : c'.ownBlock = x.2.2.ownBlock ∨ c'.ownBlock = some w.heap.size) :
    MkOk (w1.setCell ⟨gr, R.length * 3 + 2, none⟩ c') B g { m with rules := Proofs.Ytlkpbpecgdphaaa.moreCmd m.rules s } vv vr vp (R ++ [(x.1, x.2.1, c')]) := by
  have hlen : R.length = r0.length := by have := h.len; rw [hm] at this; simpa using this
  have hx := h.each R.length x u (by simp) (by rw [hm, hlen]; simp)
  have hcm : x.2.2 ∈ rcells (R ++ [x]) := (rcells_mem (i := R.length) (by simp)).2.2
  have hrc : rcells (R ++ [x]) = rcells R ++ [x.1, x.2.1] ++ [x.2.2] := by rw [rcells_append]; simp [rcells]
  have hap : ∀ v ∈ vp :: (rcells R ++ [x.1, x.2.1]), Apart v x.2.2 := by
    have := h.apart
    rw [hrc, ← List.cons_append, List.pairwise_append] at this
    intro v hv
    exact this.2.2 v hv _ (by simp)
  have hap1 : (vp :: (rcells R ++ [x.1, x.2.1])).Pairwise Apart := by
    have := h.apart
    rw [hrc, ← List.cons_append, List.pairwise_append] at this
    exact this.1
  have hb1 : w1.heap[g]? = some (.cells #[vv, vr, vp] 36 (0, 0)) := (hgrow.block g h.lt (row_not_blk hx.2.2 h.blk (by decide))).trans h.blk
  have hs := grown_set w1 gr (R.length * 3 + 2) c'
  have hr1 := h.rules.kept hgrow (rows_ne h.rules hx.2.2 (by decide))
  have hgr : vr.ownBlock = some gr := by rw [hvr]; rfl
  have hne : g ≠ gr := fun e => row_not_blk hr1 hb1 (by decide) (by rw [hgr, e])
  have hoff : ∀ {e : TypeId} {sz : Nat} {v : Value} {n : Nat} {xs : List Value}, w1.ownsRow B e sz v n xs → e ≠ 81 → (w1.setCell ⟨gr, R.length * 3 + 2, none⟩ c').ownsRow B e sz v n xs := fun ho hne' => ho.kept hs (by rw [← hgr]; exact rows_ne ho hr1 hne')
  have hstr : ∀ v l, v ∈ vp :: (rcells R ++ [x.1, x.2.1]) → Own1 w B v l → Own1 (w1.setCell ⟨gr, R.length * 3 + 2, none⟩ c') B v l := fun v l hv ho => hoff (ho.kept hgrow (hap v hv)) (by decide)
  have hmem : ∀ v, v ∈ rcells R → v ∈ vp :: (rcells R ++ [x.1, x.2.1]) := fun v hv => by simp [hv]
  refine ⟨(hs.block g (by have := h.lt; have := hgrow.size; omega) (fun e => hne (by injection e))).trans hb1, hoff (h.vars.kept hgrow (rows_ne h.vars hx.2.2 (by decide))) (by decide), ?_, ?_, fun i y v hy hv => ?_, hstr _ _ (by simp) h.phony, ?_⟩
  · have hst := hr1
    rw [hvr] at hst ⊢
    have h2 := World.ownsRow.stored (by simpa using hst) (R.length * 3 + 2) c'
    have e1 : (rcells (R ++ [x])).set (R.length * 3 + 2) c' = rcells (R ++ [(x.1, x.2.1, c')]) := by
      rw [rcells_append, rcells_append, List.set_append_right _ _ (by rw [rcells_len]; omega), rcells_len]
      rw [show R.length * 3 + 2 - R.length * 3 = 2 by omega]
      rfl
    rw [e1] at h2
    simpa using h2.1
  · rw [hm, moreCmd_snoc]
    simp [hlen]
  · rw [hm, moreCmd_snoc] at hv
    rcases Nat.lt_or_ge i R.length with hi | hi
    · rw [List.getElem?_append_left hi] at hy
      rw [List.getElem?_append_left (by rw [← hlen]; exact hi)] at hv
      obtain ⟨a, b, c⟩ := h.each i y v (by rw [List.getElem?_append_left hi]; exact hy) (by rw [hm, List.getElem?_append_left (by rw [← hlen]; exact hi)]; exact hv)
      obtain ⟨ma, mb, mc⟩ := rcells_mem hy
      exact ⟨hstr _ _ (hmem _ ma) a, hstr _ _ (hmem _ mb) b, hstr _ _ (hmem _ mc) c⟩
    · rw [List.getElem?_append_right hi] at hy
      rw [List.getElem?_append_right (by rw [← hlen]; exact hi)] at hv
      rw [← hlen] at hv
      cases hk : i - R.length with
      | zero =>
        rw [hk] at hy hv
        simp at hy hv
        subst hy
        subst hv
        refine ⟨hstr _ _ (by simp) hx.1, hstr _ _ (by simp) hx.2.1, ?_⟩
        have e2 : tcells (u.2.2 ++ [s]) = tcells u.2.2 ++ [.string s] := by simp [tcells]
        show (w1.setCell ⟨gr, R.length * 3 + 2, none⟩ c').ownsRow B _ 1 c' (u.2.2 ++ [s]).length (tcells (u.2.2 ++ [s]))
        rw [e2, List.length_append]
        exact hoff hown (by decide)
      | succ k => rw [hk] at hy; simp at hy
  · have hrc' : rcells (R ++ [(x.1, x.2.1, c')]) = rcells R ++ [x.1, x.2.1] ++ [c'] := by rw [rcells_append]; simp [rcells]
    rw [hrc', ← List.cons_append, List.pairwise_append]
    refine ⟨hap1, List.pairwise_singleton _ _, fun v hv y hy => ?_⟩
    simp only [List.mem_singleton] at hy
    subst hy
    obtain ⟨l, hl⟩ := h.str (v := v) (by rw [hrc]; simp only [List.mem_cons, List.mem_append] at hv ⊢; rcases hv with h | h; exact .inl h; exact .inr (.inl h))
    exact Apart.new (hap v hv) hloc (fun k hk => (hl.lt k hk).2)
end
end Go.Proofs.Ytlkpbpecgdphaaa
namespace Go.Proofs.Ytlkpbpecgdphaaa
open Go.RowKit

theorem own_slice {w : World} {B : Nat} {e : TypeId} {s : Nat} {v : Value} {n : Nat} {xs : List Value} (h : w.ownsRow B e s v n xs) : ∃ A c, v = .slice A n c := by
  rcases h.2 with ⟨rfl, rfl⟩ | ⟨g, cap, cur, rfl, _⟩
  · exact ⟨none, 0, rfl⟩
  · exact ⟨_, cap, rfl⟩
theorem cells_new (w : World) (cs : Array Value) (t : TypeId) : ∀ j u, cs.toList[j]? = some u → (w.alloc (.cells cs t)).cell? ((⟨w.heap.size, 0, none⟩ : Addr).add j) = some u := by
  intro j u hj
  rw [Go.WideShapes.add_plain, World.cell?_alloc_at _ _ _ _ rfl]
  simpa using hj
theorem var_info : (Try.prog.info? 84).map (fun i => (i.zero, i.size, i.bytes)) = some (some (.agg #[.string ByteArray.empty, .string ByteArray.empty]), 2, 32) := by kernel_rfl
theorem var_parts : ∃ i, Try.prog.info? 84 = some i ∧ i.zero = some (.agg #[.string ByteArray.empty, .string ByteArray.empty]) ∧ i.size = 2 ∧ i.bytes = 32 := by
  have h := var_info
  rw [Option.map_eq_some_iff] at h
  obtain ⟨i, hi, e⟩ := h
  simp only [Prod.mk.injEq] at e
  exact ⟨i, hi, e.1, e.2.1, e.2.2⟩
theorem rule_info : (Try.prog.info? 81).map (fun i => (i.zero, i.size, i.bytes)) = some (some (.agg #[.slice none 0 0, .slice none 0 0, .slice none 0 0]), 3, 72) := by kernel_rfl
theorem rule_parts : ∃ i, Try.prog.info? 81 = some i ∧ i.zero = some (.agg #[.slice none 0 0, .slice none 0 0, .slice none 0 0]) ∧ i.size = 3 ∧ i.bytes = 72 := by
  have h := rule_info
  rw [Option.map_eq_some_iff] at h
  obtain ⟨i, hi, e⟩ := h
  simp only [Prod.mk.injEq] at e
  exact ⟨i, hi, e.1, e.2.1, e.2.2⟩



end Go.Proofs.Ytlkpbpecgdphaaa
namespace Go.Proofs.Ytlkpbpecgdphaaa
open Go.RowKit

theorem snoc_of {α : Type} {l : List α} {k : Nat} (h : l.length = k + 1) : ∃ i x, l = i ++ [x] ∧ i.length = k := by
  have hne : l ≠ [] := by intro e; rw [e] at h; simp at h
  exact ⟨l.dropLast, l.getLast hne, (List.dropLast_concat_getLast hne).symm, by simp; omega⟩

end Go.Proofs.Ytlkpbpecgdphaaa
