/-
  WORDS FOR MEMORY: expand's map of what has been expanded: it holds of each reference that it has what the reference comes to; a look-up, a store. One expansion in memory.
-/
import Derived.Test.YtocodapegeajoaaLast
import Derived.Test.YtocodapegeajoaaVar
import Derived.Test.YtocodapegeajoaaMax
import Derived.Maps.OwnSet
import Derived.Maps.StringElems
import Derived.DeepKeys5
import Derived.Carry
namespace Go.Proofs.Ytocodapegeajoaa
open Go.RowKit

theorem laidOutP : laidOutB Try.prog = true := by kernel_rfl
theorem refKeyed : Maps.Keyed Try.prog 102 := Maps.Keyed.of_law (deep_law_gate laidOutP (of_decide_eq_true (by kernel_rfl)) (of_decide_eq_true (by kernel_rfl)) (by kernel_rfl) (by kernel_rfl))
def refV (s : ByteArray) (d : Int) : Value := .agg #[.string s, .int .i64 d]
theorem refKey (s : ByteArray) (d : Int) (hs : s.size ≤ maxLen) (hd : (Lit.int .i64 d).wf = true) : ∃ kl, keyOf Try.prog 102 (refV s d) = some kl := by
  have hk : Try.prog.keyType 102 = true := by kernel_rfl
  have hc : Try.prog.cellsOf 102 = 2 := by kernel_rfl
  have hc3 : Try.prog.cellsOf 3 = 1 := by kernel_rfl
  have hc9 : Try.prog.cellsOf 9 = 1 := by kernel_rfl
  have ht : Try.prog.types.size = 1 + (Try.prog.types.size - 1) := by kernel_rfl
  unfold keyOf refV
  rw [Try.underlying102]
  simp only [hk, Value.formed, Try.underlying102, hc, Bool.true_and, Value.cells]
  have h3 : ∀ m, Try.prog.keyLits (m + 1) 3 [.int .i64 d] = some [.int .i64 d] := by
    intro m
    unfold Program.keyLits
    rw [Try.underlying3]
    simp [hd]
  have h9 : ∀ m, Try.prog.keyLits (m + 1) 9 [.string s] = some [.string s.data.toList] := by
    intro m
    unfold Program.keyLits
    rw [Try.underlying9]
    simp [hs]
  unfold Program.keyLits
  rw [Try.underlying102, ht, Nat.add_comm 1]
  simp [hc, hc3, hc9, h3, h9]

/-- The map at block bm holds at most n references, and of each (k levels left) what it comes to. -/
def Memo (l : List F) (w : World) (bm n : Nat) : Prop := ∃ D : DataW Unit, w.ownsMap Try.prog 102 (plainElem Try.prog 9) bm n D ∧
  ∀ (s : ByteArray) (k : Nat) (kl : Lit), k ≤ 5 → keyOf Try.prog 102 (refV s (6 - k)) = some kl → Maps.has D kl = true → ∃ t, (∀ z, D.atKey kl z = .lit (.string t)) ∧ valR l k s.data.toList = (0, t)
section
variable {l : List F} {w w' : World} {bm n : Nat}
theorem Memo.made (l : List F) (w : World) : Memo l (w.alloc (.map #[] 0)) w.heap.size 0 :=
  ⟨.map [], World.ownsMap_made _ _ _ _, fun s k kl _ _ h => by simp [Maps.has] at h⟩
theorem Memo.kept {row : Option Nat} (h : Memo l w bm n) (hg : w.grownBy w' row) (hne : some bm ≠ row) : Memo l w' bm n := by
  obtain ⟨D, ho, hh⟩ := h
  exact ⟨D, ho.kept hg hne, hh⟩
theorem Memo.lt (h : Memo l w bm n) : bm < w.heap.size := by obtain ⟨D, ho, _⟩ := h; exact ho.lt
theorem grown_of_below (h : Below w.heap.size w w') : w.grownBy w' none := ⟨h.os, h.tape, h.output, h.size, fun k hk _ => h.block k hk⟩
theorem Memo.below (h : Memo l w bm n) (hb : Below w.heap.size w w') : Memo l w' bm n := h.kept (grown_of_below hb) (by simp)
theorem wf_depth {k : Nat} (hk : k ≤ 5) : (Lit.int .i64 (6 - (k : Int))).wf = true := by
  match k, hk with
  | 0, _ => decide
  | 1, _ => decide
  | 2, _ => decide
  | 3, _ => decide
  | 4, _ => decide
  | 5, _ => decide
theorem zeroS (w : World) : (zeroValue 9).run Try.prog w = .ok (.string ByteArray.empty) w := by kernel_rfl
/-- A look-up: it is there, and it is what the reference comes to; or it isn't. -/
theorem Memo.look (h : Memo l w bm n) (s : ByteArray) (k : Nat) (hs : s.size ≤ maxLen) (hk : k ≤ 5) :
    (∃ t : ByteArray, (Instr.lookup 81 (.map (some bm)) (.agg #[.string s, .int .i64 (6 - k)]) true).run Try.prog w = .ok (.tuple #[.string t, .bool true]) w ∧ valR l k s.data.toList = (0, t.data.toList)) ∨
    (∃ t : ByteArray, (Instr.lookup 81 (.map (some bm)) (.agg #[.string s, .int .i64 (6 - k)]) true).run Try.prog w = .ok (.tuple #[.string t, .bool false]) w) := by
  obtain ⟨D, ho, hh⟩ := h
  obtain ⟨kl, hkl⟩ := refKey s (6 - k) hs (wf_depth hk)
  obtain ⟨v, ps, hrun, hv⟩ := ho.look_ok refKeyed Try.underlying81 (zeroS w) (plainElem_string Try.underlying9 (by decide)) hkl
  obtain ⟨t, rfl, ht, _⟩ := plainElem_string_inv Try.underlying9 hv
  cases hb : Maps.has D kl with
  | false => rw [hb] at hrun; exact .inr ⟨t, hrun⟩
  | true =>
    rw [hb] at hrun
    obtain ⟨t', h1, h2⟩ := hh s k kl hk hkl hb
    refine .inl ⟨t, hrun, ?_⟩
    rw [h1] at ht
    simp only [Prod.mk.injEq, DataW.lit.injEq, Lit.string.injEq] at ht
    rw [h2, ht.1]
/-- A store of what the reference comes to. -/
theorem Memo.store (h : Memo l w bm n) (s t : ByteArray) (k : Nat) (hs : s.size ≤ maxLen) (ht : t.size ≤ maxLen) (hk : k ≤ 5) (hn : n < maxLen) (hv : valR l k s.data.toList = (0, t.data.toList)) :
    ∃ w', (Instr.mapUpdate 81 (.map (some bm)) (.agg #[.string s, .int .i64 (6 - k)]) (.string t)).run Try.prog w = .ok () w' ∧ Memo l w' bm (n + 1) ∧ w.grownBy w' (some bm) := by
  obtain ⟨D, ho, hh⟩ := h
  obtain ⟨kl, hkl⟩ := refKey s (6 - k) hs (wf_depth hk)
  have hkk := refKeyed.key hkl
  obtain ⟨w', hrun, ho', hg⟩ := ho.store refKeyed Try.underlying81 hn hkl (plainElem_string Try.underlying9 ht)
  refine ⟨w', hrun, ⟨_, ho', fun s2 k2 kl2 hk2 hkl2 hh2 => ?_⟩, hg.grown⟩
  by_cases e : kl2 = kl
  · subst e
    have := refKeyed.inj hkl2 hkl
    unfold refV at this
    simp only [Value.agg.injEq, Array.mk.injEq, List.cons.injEq, Value.string.injEq, Value.int.injEq, true_and, and_true] at this
    obtain ⟨rfl, e2⟩ := this
    obtain rfl : k2 = k := by omega
    exact ⟨t.data.toList, fun z => Maps.atKey_put_same ho.isMap hkk _ _, hv⟩
  · rw [Maps.has_put_other e] at hh2
    obtain ⟨t2, h1, h2⟩ := hh s2 k2 kl2 hk2 hkl2 hh2
    exact ⟨t2, fun z => by rw [Maps.atKey_put_other e]; exact h1 z, h2⟩
end

/-- One expansion in memory: the struct at block bx, its variables, its map at block bm. -/
structure ExpOk (l : List F) (w : World) (bx bm n : Nat) (A : Option Addr) (nv cv : Nat) : Prop where
  vars : w.cell? ⟨bx, 0, none⟩ = some (.slice A nv cv)
  done : w.cell? ⟨bx, 1, none⟩ = some (.map (some bm))
  rd : RdF w w.heap.size A nv cv l
  memo : Memo l w bm n
  max : MaxOk w
theorem Memo.block {l : List F} {w : World} {bm n : Nat} (h : Memo l w bm n) : ∃ es c, w.heap[bm]? = some (.map es c) := by
  obtain ⟨D, ⟨es, c, hb, _⟩, _⟩ := h
  exact ⟨es, c, hb⟩
/-- A cell lies in no map. -/
theorem cell_past_map {w w' : World} {bm : Nat} {a : Addr} {v : Value} (hb : ∃ es c, w.heap[bm]? = some (.map es c)) (hg : w.grownBy w' (some bm)) (h : w.cell? a = some v) : w'.cell? a = some v := by
  obtain ⟨es, c, hb⟩ := hb
  have hne : some a.block ≠ some bm := by
    intro e
    injection e with e
    unfold World.cell? at h
    rw [e, hb] at h
    simp at h
  exact (World.cell?_of_block (hg.block a.block (World.block_lt_of_cell? _ _ h) hne)).trans h
theorem RdF.past_map {w w' : World} {bm n c : Nat} {A : Option Addr} {l : List F} (h : RdF w w.heap.size A n c l) (hb : ∃ es c, w.heap[bm]? = some (.map es c)) (hg : w.grownBy w' (some bm)) : RdF w' w'.heap.size A n c l :=
  ⟨h.1, h.2.1, h.2.2.1, fun hn => by
    obtain ⟨b, off, e, hbb, hc⟩ := h.2.2.2 hn
    exact ⟨b, off, e, Nat.lt_of_lt_of_le hbb hg.size, fun j u hu => cell_past_map hb hg (hc j u hu)⟩⟩
theorem MaxOk.past_map {w w' : World} {bm : Nat} (h : MaxOk w) (hb : ∃ es c, w.heap[bm]? = some (.map es c)) (hg : w.grownBy w' (some bm)) : MaxOk w' := by
  obtain ⟨m, hm⟩ := h
  exact ⟨m, cell_past_map hb hg hm⟩
section
variable {l : List F} {w w' : World} {bx bm n nv cv : Nat} {A : Option Addr}
theorem ExpOk.lt (h : ExpOk l w bx bm n A nv cv) : bx < w.heap.size := World.block_lt_of_cell? _ _ h.vars
theorem ExpOk.below (h : ExpOk l w bx bm n A nv cv) (hb : Below w.heap.size w w') : ExpOk l w' bx bm n A nv cv :=
  ⟨(hb.cell h.lt).trans h.vars, (hb.cell h.lt).trans h.done, h.rd.belowS hb, h.memo.below hb, h.max.below hb⟩
/-- .. where the map has turned, and reads on as it should. -/
theorem ExpOk.turned {n' : Nat} (h : ExpOk l w bx bm n A nv cv) (hg : w.grownBy w' (some bm)) (hm : Memo l w' bm n') : ExpOk l w' bx bm n' A nv cv :=
  ⟨cell_past_map h.memo.block hg h.vars, cell_past_map h.memo.block hg h.done, h.rd.past_map h.memo.block hg, hm, h.max.past_map h.memo.block hg⟩
theorem ExpOk.mono {n' : Nat} (h : ExpOk l w bx bm n A nv cv) (hn : n ≤ n') : ExpOk l w bx bm n' A nv cv := by
  obtain ⟨D, ho, hh⟩ := h.memo
  exact ⟨h.vars, h.done, h.rd, ⟨D, ho.mono hn, hh⟩, h.max⟩
end
theorem grown_trans {a b c : World} {row : Option Nat} (h : a.grownBy b row) (k : b.grownBy c row) : a.grownBy c row :=
  ⟨k.os.trans h.os, k.tape.trans h.tape, k.output.trans h.output, Nat.le_trans h.size k.size, fun i hi hr => (k.block i (Nat.lt_of_lt_of_le hi h.size) hr).trans (h.block i hi hr)⟩
theorem grown_below {w w' : World} (h : Below w.heap.size w w') (row : Option Nat) : w.grownBy w' row := ⟨h.os, h.tape, h.output, h.size, fun k hk _ => h.block k hk⟩
end Go.Proofs.Ytocodapegeajoaa
