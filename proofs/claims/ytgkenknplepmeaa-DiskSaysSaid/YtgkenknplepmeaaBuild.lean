/-
  LAWS: a slice of one struct of many cells is built; a struct with one field set is built.
-/
import Derived.Test.YtgkenknplepmeaaApp
namespace Go.Proofs.Ytgkenknplepmeaa
open Go.RowKit

theorem foldl_zip_at : ∀ (l : List Value) (k : Nat) (b : Array Value) (j : Nat), ((l.zipIdx k).foldl (fun (b : Array Value) (p : Value × Nat) => b.setIfInBounds p.2 p.1) b)[j]? = if k ≤ j ∧ j < k + l.length ∧ j < b.size then l[j - k]? else b[j]?
  | [], k, b, j => by simp; intro h1 h2; omega
  | v :: r, k, b, j => by
    rw [List.zipIdx_cons, List.foldl_cons, foldl_zip_at r (k + 1) _ j]
    simp only [Array.size_setIfInBounds, List.length_cons]
    by_cases h1 : k + 1 ≤ j ∧ j < k + 1 + r.length ∧ j < b.size
    · rw [if_pos h1, if_pos ⟨by omega, by omega, h1.2.2⟩, show j - k = (j - (k + 1)) + 1 by omega, List.getElem?_cons_succ]
    · rw [if_neg h1, Array.getElem?_setIfInBounds]
      by_cases h2 : k = j
      · subst h2
        by_cases h3 : k < b.size
        · rw [if_pos rfl, if_pos h3, if_pos ⟨by omega, by omega, h3⟩]; simp
        · rw [if_pos rfl, if_neg h3, if_neg (by omega), Array.getElem?_eq_none (by omega)]
      · rw [if_neg h2, if_neg (by omega)]
theorem fold_all (cs b : Array Value) (h : b.size = cs.size) : cs.zipIdx.foldl (fun (b : Array Value) (p : Value × Nat) => b.setIfInBounds (0 + p.2) p.1) b = cs := by
  have e : cs.zipIdx.foldl (fun (b : Array Value) (p : Value × Nat) => b.setIfInBounds (0 + p.2) p.1) b = (cs.toList.zipIdx 0).foldl (fun (b : Array Value) (p : Value × Nat) => b.setIfInBounds p.2 p.1) b := by
    rw [← Array.foldl_toList, Array.toList_zipIdx]
    simp only [Nat.zero_add]
  rw [e]
  apply Array.ext_getElem?
  intro j
  rw [foldl_zip_at]
  simp only [Nat.zero_le, Nat.zero_add, true_and, Nat.sub_zero, Array.length_toList, Array.getElem?_toList]
  by_cases hj : j < cs.size
  · rw [if_pos ⟨hj, by omega⟩]
  · rw [if_neg (by omega), Array.getElem?_eq_none (by omega), Array.getElem?_eq_none (by omega)]
section
variable {P : Program} (w : World)
theorem run_buildSlice_one (t e : TypeId) (i : TypeInfo) (z : Value) (cs : Array Value) (ht : P.underlying t = some (.slice e)) (hi : P.info? e = some i) (hz : i.zero = some z) (hs : i.size = cs.size) (h0 : 0 < cs.size) (hb : cs.size ≤ 16777216) :
    (Instr.buildSlice t 1 #[(0, .agg cs)]).run P w = .ok (.slice (some ⟨w.heap.size, 0, none⟩) 1 1) (w.alloc (.cells cs e)) := by
  have hf : Instr.fill (fun j => some (j * i.size, i.size)) ((Array.range (1 * i.size)).map (z.cells[· % z.cells.size]!)) [(0, .agg cs)] = some cs := by
    unfold Instr.fill
    simp only [Nat.zero_mul]
    have hv : (Value.agg cs).cells = cs := rfl
    rw [hv]
    rw [if_neg (by simp [hs])]
    unfold Instr.fill
    congr 1
    exact fold_all cs _ (by simp [hs])
  rw [Nat.one_mul] at hf
  have h1 : ¬ 16777216 < i.size := by omega
  have h2 : ¬ i.size = 0 := by omega
  simp [Instr.buildSlice, run_underlying ht, sizeOf, typeInfo, hi, zeroValue, hz, newRow, h1, h2, hf]
theorem step_buildSlice_one {ops : Array Oper} {o : Oper} {a : Act} {K : Act → World → Prop} {Q : Exit → Act → World → Prop} {E : Prop} (hgd : o.guard = none) (x : Operand) (t e : TypeId) (ho : o.op = .buildSlice t 1 #[(0, x)])
    (i : TypeInfo) (z : Value) (cs : Array Value) (ht : P.underlying t = some (.slice e)) (hi : P.info? e = some i) (hz : i.zero = some z) (hs : i.size = cs.size) (h0 : 0 < cs.size) (hb : cs.size ≤ 16777216) (hx : a.eval x = .agg cs)
    (h : K (a.put o.dst (.slice (some ⟨w.heap.size, 0, none⟩) 1 1)) (w.alloc (.cells cs e))) :
    if Region.wanted o (yielded ops a.tmps) = true then Oper.wp P o a w K Q else E := by
  have hw : Region.wanted o (yielded ops a.tmps) = true := by simp [Region.wanted, hgd]
  rw [if_pos hw]
  have hr := run_buildSlice_one (P := P) w t e i z cs ht hi hz hs h0 hb
  unfold Oper.wp execOp
  simp only [ho, Sem.run_bind, Sem.run_pure, Result.andThen_ok, List.map_toArray, List.map_cons, List.map_nil, hx, hr]
  exact h
end
end Go.Proofs.Ytgkenknplepmeaa
