/-
  LAWS: a slice of one struct of many cells is built; a struct with one field set is built.
-/
import Derived.Test.YtgkenknplepmeaaDkA
import Derived.Test.YtgkenknplepmeaaApp
namespace Go.Proofs.Ytgkenknplepmeaa
open Go.RowKit

/-- The function literal: is it the same bit? -/
abbrev sameBit (X : Nat) : Value := .func (.func 89) #[] #[ptr X]
set_option maxRecDepth 100000 in
set_option maxHeartbeats 1000000 in
theorem bit_any (x : Nat × ByteArray) (X nx : Nat) (w : World) (hx : w.cell? ⟨X, 0, none⟩ = some (.int .i64 nx)) (hX : X < w.heap.size) (hne : x.1 ≠ nx) :
    Calls Try.prog 89 #[.agg (wrC x).toArray, ptr X] w fun e w' => e = .returned (.bool false) ∧ Below w.heap.size w w' := by
  have c0 : (w.alloc (.cells (wrC x).toArray tWt)).cell? ⟨w.heap.size, 0, none⟩ = some (.int .i64 x.1) := by rw [(Blk.new w tWt _).cell]; rfl
  have cX : (w.alloc (.cells (wrC x).toArray tWt)).cell? ⟨X, 0, none⟩ = some (.int .i64 nx) := by rw [World.cell?_alloc_lt _ _ _ hX]; exact hx
  have hq : ((x.1 : Int) == (nx : Int)) = false := by rw [beq_eq_false_iff_ne]; omega
  have HB := Lib.hid (show Below w.heap.size w (w.alloc (.cells (wrC x).toArray tWt)) from (Below.refl _ _).alloc (Nat.le_refl _) _)
  generalize (wrC x).toArray = cs at *
  go_enter Try.func89, Try.ntmps89
  go_wp2
  go_ret
  exact ⟨rfl, HB.out⟩

def IfRel (w : World) (m : Nat) (i : Value) (wr : World) : Prop := ∃ k : Nat, k ≤ m ∧ i = .int .i64 k ∧ Below w.heap.size w wr
set_option maxRecDepth 100000 in
set_option maxHeartbeats 1000000 in
theorem indexF_none (base X nx m c : Nat) (A : Option Addr) (ws : SW) (w : World) (ho : w.ownsRow base tWt 341 (.slice A m c) m (wsC ws)) (hm : ws.length = m) (hs : ∀ x ∈ ws, x.2.size = 340) (hx : w.cell? ⟨X, 0, none⟩ = some (.int .i64 nx)) (hX : X < w.heap.size) (hn : ∀ x ∈ ws, x.1 ≠ nx) (hm2 : m ≤ 1000000) :
    Calls Try.prog 106 #[.slice A m c, sameBit X] w fun e w' => e = .returned (.int .i64 (-1)) ∧ Below w.heap.size w w' := by
  have HO := Lib.hid ho
  have HM := Lib.hid hm
  have HS := Lib.hid hs
  have HN := Lib.hid hn
  have HX := Lib.hid hx
  clear ho hm hs hn hx
  go_enter Try.func106, Try.ntmps106
  go_wp2
  go_loopw [8] (fun i wr => IfRel w m i wr) (fun i _ => m - (intOf i).toNat)
  case atStart => exact ⟨0, Nat.zero_le _, rfl, Below.refl _ _⟩
  case round =>
    obtain ⟨k, hk, rfl, hb⟩ := hrel
    have HB := Lib.hid hb
    have hsz := hb.size
    clear hb
    by_cases hlt : k < m
    · obtain ⟨x, hx⟩ : ∃ x, ws[k]? = some x := ⟨_, List.getElem?_eq_getElem (by have := HM.out; omega)⟩
      have hxm : x ∈ ws := List.mem_of_getElem? hx
      obtain ⟨g, rfl⟩ : ∃ g, A = some ⟨g, 0, none⟩ := by
        rcases HO.out.2 with ⟨e, h⟩ | ⟨g, cap, cur, e, _⟩
        · omega
        · injection e with e1; exact ⟨g, e1⟩
      have hg := HO.out.lt g rfl
      have hrg : wr.rangeAt g (k * 341) (wrC x) := fun j v hv => by
        rw [HB.out.cell (p := ⟨g, k * 341 + j, none⟩) hg.2]
        have h2 := HO.out.cells (g := g) rfl _ _ (wsC_at HS.out hx j v hv)
        rwa [Go.WideShapes.add_plain, Nat.zero_add] at h2
      have hin : (Try.prog.info? tWt).map (·.size) = some (wrC x).length := by rw [wrC_len (HS.out x hxm)]; exact wt_info
      have HC := Lib.hid (bit_any x X nx wr ((HB.out.cell (p := ⟨X, 0, none⟩) hX).trans HX.out) (by omega) (HN.out x hxm))
      have HR := Lib.hid hrg
      have HI := Lib.hid hin
      have hkm : (k : Int) < (m : Int) := by omega
      clear hrg hin hx hxm
      go_wp2_with fail
      refine wp_load_mid tWt (.tmp 14) rfl g (k * 341) rfl _ _ HR.out Try.underlying106 rfl HI.out ?_
      clear HR HI
      generalize (wrC x).toArray = cs at *
      go_wp2_with (go_at_call 89; refine HC.out.mono ?_; rintro e w2 ⟨rfl, hb2⟩; have HB2 := Lib.hid (HB.out.trans (hb2.mono hsz)); clear hb2)
      go_roundw
      case rel => exact ⟨k + 1, by omega, by go_num, HB2.out⟩
      case measure => simp [intOf]; omega
    · have hkm : decide ((k : Int) < (m : Int)) = false := decide_eq_false (by omega)
      go_wp2
      go_ret
      exact ⟨rfl, HB.out⟩

set_option maxRecDepth 100000 in
set_option maxHeartbeats 1000000 in
theorem deleteF_none (base X nx m c : Nat) (A : Option Addr) (ws : SW) (w : World) (ho : w.ownsRow base tWt 341 (.slice A m c) m (wsC ws)) (hm : ws.length = m) (hs : ∀ x ∈ ws, x.2.size = 340) (hx : w.cell? ⟨X, 0, none⟩ = some (.int .i64 nx)) (hX : X < w.heap.size) (hn : ∀ x ∈ ws, x.1 ≠ nx) (hm2 : m ≤ 1000000) :
    Calls Try.prog 88 #[.slice A m c, sameBit X] w fun e w' => e = .returned (.slice A m c) ∧ Below w.heap.size w w' := by
  have HC := Lib.hid (indexF_none base X nx m c A ws w ho hm hs hx hX hn hm2)
  clear ho hm hs hn hx
  go_enter Try.func88, Try.ntmps88
  go_wp2_with (go_at_call 106; refine HC.out.mono ?_; rintro e w2 ⟨rfl, hb2⟩; have HB2 := Lib.hid hb2; clear hb2)
  go_ret
  exact ⟨rfl, HB2.out⟩
end Go.Proofs.Ytgkenknplepmeaa
namespace Go.Proofs.Ytgkenknplepmeaa
open Go.RowKit

theorem foldl_zip_at : ∀ (l : List Value) (k : Nat) (b : Array Value) (j : Nat), ((l.zipIdx k).foldl (fun (b : Array Value) (p : Value × Nat) => b.setIfInBounds p.2 p.1) b)[j]? = if k ≤ j ∧ j < k + l.length ∧ j < b.size then l[j - k]? else b[j]?
  | [], k, b, j => by simp; intro h1 h2; omega
  | v :: r, k, b, j => by
    rw [List.zipIdx_cons, List.foldl_cons, foldl_zip_at r (k + 1) _ j]
    simp only [Array.size_setIfInBounds, List.length_cons]
    by_cases h1 : k + 1 ≤ j ∧ j < k + 1 + r.length ∧ j < b.size
    · rw [if_pos h1, if_pos ⟨by omega, by omega, h1.2.2⟩, show j - k = (j - (k + 1)) + 1 by omega, List.getElem?_cons_succ]
    · rw [if_neg h1, Array.getElem?_setIfInBounds]
      by_cases h2 : k = j
      · subst h2
        by_cases h3 : k < b.size
        · rw [if_pos rfl, if_pos h3, if_pos ⟨by omega, by omega, h3⟩]; simp
        · rw [if_pos rfl, if_neg h3, if_neg (by omega), Array.getElem?_eq_none (by omega)]
      · rw [if_neg h2, if_neg (by omega)]
theorem fold_all (cs b : Array Value) (h : b.size = cs.size) : cs.zipIdx.foldl (fun (b : Array Value) (p : Value × Nat) => b.setIfInBounds (0 + p.2) p.1) b = cs := by
  have e : cs.zipIdx.foldl (fun (b : Array Value) (p : Value × Nat) => b.setIfInBounds (0 + p.2) p.1) b = (cs.toList.zipIdx 0).foldl (fun (b : Array Value) (p : Value × Nat) => b.setIfInBounds p.2 p.1) b := by
    rw [← Array.foldl_toList, Array.toList_zipIdx]
    simp only [Nat.zero_add]
  rw [e]
  apply Array.ext_getElem?
  intro j
  rw [foldl_zip_at]
  simp only [Nat.zero_le, Nat.zero_add, true_and, Nat.sub_zero, Array.length_toList, Array.getElem?_toList]
  by_cases hj : j < cs.size
  · rw [if_pos ⟨hj, by omega⟩]
  · rw [if_neg (by omega), Array.getElem?_eq_none (by omega), Array.getElem?_eq_none (by omega)]
section
variable {P : Program} (w : World)
theorem run_buildSlice_one (t e : TypeId) (i : TypeInfo) (z : Value) (cs : Array Value) (ht : P.underlying t = some (.slice e)) (hi : P.info? e = some i) (hz : i.zero = some z) (hs : i.size = cs.size) (h0 : 0 < cs.size) (hb : cs.size ≤ 16777216) :
    (Instr.buildSlice t 1 #[(0, .agg cs)]).run P w = .ok (.slice (some ⟨w.heap.size, 0, none⟩) 1 1) (w.alloc (.cells cs e)) := by
  have hf : Instr.fill (fun j => some (j * i.size, i.size)) ((Array.range (1 * i.size)).map (z.cells[· % z.cells.size]!)) [(0, .agg cs)] = some cs := by
    unfold Instr.fill
    simp only [Nat.zero_mul]
    have hv : (Value.agg cs).cells = cs := rfl
    rw [hv]
    rw [if_neg (by simp [hs])]
    unfold Instr.fill
    congr 1
    exact fold_all cs _ (by simp [hs])
  rw [Nat.one_mul] at hf
  have h1 : ¬ 16777216 < i.size := by omega
  have h2 : ¬ i.size = 0 := by omega
  simp [Instr.buildSlice, run_underlying ht, sizeOf, typeInfo, hi, zeroValue, hz, newRow, h1, h2, hf]
theorem step_buildSlice_one {ops : Array Oper} {o : Oper} {a : Act} {K : Act → World → Prop} {Q : Exit → Act → World → Prop} {E : Prop} (hgd : o.guard = none) (x : Operand) (t e : TypeId) (ho : o.op = .buildSlice t 1 #[(0, x)])
    (i : TypeInfo) (z : Value) (cs : Array Value) (ht : P.underlying t = some (.slice e)) (hi : P.info? e = some i) (hz : i.zero = some z) (hs : i.size = cs.size) (h0 : 0 < cs.size) (hb : cs.size ≤ 16777216) (hx : a.eval x = .agg cs)
    (h : K (a.put o.dst (.slice (some ⟨w.heap.size, 0, none⟩) 1 1)) (w.alloc (.cells cs e))) :
    if Region.wanted o (yielded ops a.tmps) = true then Oper.wp P o a w K Q else E := by
  have hw : Region.wanted o (yielded ops a.tmps) = true := by simp [Region.wanted, hgd]
  rw [if_pos hw]
  have hr := run_buildSlice_one (P := P) w t e i z cs ht hi hz hs h0 hb
  unfold Oper.wp execOp
  simp only [ho, Sem.run_bind, Sem.run_pure, Result.andThen_ok, List.map_toArray, List.map_cons, List.map_nil, hx, hr]
  exact h
end
end Go.Proofs.Ytgkenknplepmeaa
