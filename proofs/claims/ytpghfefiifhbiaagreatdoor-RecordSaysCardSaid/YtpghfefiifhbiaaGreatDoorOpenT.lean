/-
  ARGUMENTS OPENED, under no condition of its own: a slice of strings that can be read is one that reads as texts; a group by value is three such slices and a bool.
-/
import Derived.Test.YtpghfefiifhbiaaGreatDoorOpen
import Derived.Test.YtpghfefiifhbiaaGreatDoorTexts
import Derived.SliceStrings
namespace Go.Proofs.YtpghfefiifhbiaaGreatDoor
open Go.RowKit Go.ChangeShapes Go.WideShapes Go.Deep Go.Joins

section
variable {H : Type} {enc : TypeId × Value → H} {P : Program} {W : World}

theorem open_texts {t e : TypeId} {A : Option Addr} {len cap : Nat} {d : DataW H} {p : List MemPlace} (ht : P.underlying t = some (.slice e)) (he : P.underlying e = some .string) (hc : P.cellsOf e = 1)
    (h : DataW.Trod enc P W 0 (fun _ => true) true t (.slice A len cap) d p) : ∃ l : List ByteArray, RdS W W.heap.size A len cap l := by
  obtain ⟨fuel, hf⟩ := h
  rcases open_strings ht he hc hf with ⟨hcs, _⟩ | ⟨a, len', cap', ss, hcs, _, hl, hm, hz, _, hcell, _⟩
  · simp [Value.cells] at hcs
    obtain ⟨rfl, rfl, rfl⟩ := hcs
    exact ⟨[], RdS.nil _ _⟩
  · simp [Value.cells] at hcs
    obtain ⟨rfl, rfl, rfl⟩ := hcs
    simp only [if_true] at hz
    refine ⟨ss.take len, by rw [List.length_take]; omega, hl, hm, fun hpos => ?_⟩
    obtain ⟨b, off, spot⟩ := a
    have h0 := hcell 0 (by omega)
    have hspot : spot = none := by simpa [Addr.add] using World.cell?_spot h0
    subst hspot
    refine ⟨b, off, rfl, by simpa [Addr.add] using World.block_lt_of_cell? _ _ h0, fun j u hu => ?_⟩
    rw [List.getElem?_take] at hu
    split at hu
    · have hj : j < ss.length := by omega
      have := hcell j hj
      rw [add_plain, List.getD_eq_getElem?_getD, hu] at this
      exact this
    · cases hu

theorem open_textsC {t e : TypeId} {cs : List Value} {x : DataW H × List MemPlace} {fuel : Nat} (ht : P.underlying t = some (.slice e)) (he : P.underlying e = some .string) (hc : P.cellsOf e = 1)
    (h : DataW.trod enc P W 0 (fun _ => true) true fuel t cs = some x) : ∃ A len cap, cs = [.slice A len cap] ∧ ∃ l : List ByteArray, RdS W W.heap.size A len cap l := by
  have hh := h
  rcases open_strings ht he hc hh with ⟨hcs, _⟩ | ⟨a, len', cap', ss, hcs, _⟩
  · refine ⟨none, 0, 0, by simpa [Value.cells] using hcs, [], RdS.nil _ _⟩
  · refine ⟨some a, len', cap', hcs, ?_⟩
    rw [hcs] at h
    exact open_texts ht he hc ⟨fuel, by simpa [Value.cells] using h⟩

theorem open_group {e ts tb te : TypeId} {f0 f1 f2 f3 : Field} {n : Nat} {cs : List Value} {x : DataW H × List MemPlace} (he : P.underlying e = some (.struct #[f0, f1, f2, f3])) (h0 : f0.type = ts) (h1 : f1.type = ts) (h2 : f2.type = ts) (h3 : f3.type = tb)
    (hs : P.underlying ts = some (.slice te)) (hte : P.underlying te = some .string) (hb : P.underlying tb = some .bool) (o0 : f0.offset = 0) (o1 : f1.offset = 1) (o2 : f2.offset = 2) (o3 : f3.offset = 3) (hc : P.cellsOf ts = 1) (hce : P.cellsOf te = 1) (hcb : P.cellsOf tb = 1) (hC : P.cellsOf e = 4)
    (h : DataW.trod enc P W 0 (fun _ => true) true n e cs = some x) :
    ∃ A0 n0 c0 A1 n1 c1 A2 n2 c2 b, cs = [.slice A0 n0 c0, .slice A1 n1 c1, .slice A2 n2 c2, .bool b] ∧ ∃ l0 l1 l2 : List ByteArray, RdS W W.heap.size A0 n0 c0 l0 ∧ RdS W W.heap.size A1 n1 c1 l1 ∧ RdS W W.heap.size A2 n2 c2 l2 := by
  obtain ⟨xs, m, _, _, hl, hlen, hf⟩ := DataW.trod_struct he h
  match xs, hlen with
  | [y0, y1, y2, y3], _ =>
    have g0 := hf 0 f0 rfl
    have g1 := hf 1 f1 rfl
    have g2 := hf 2 f2 rfl
    have g3 := hf 3 f3 rfl
    rw [h0, o0, hc] at g0
    rw [h1, o1, hc] at g1
    rw [h2, o2, hc] at g2
    rw [h3, o3, hcb] at g3
    obtain ⟨A0, n0, c0, e0, l0, r0⟩ := open_textsC hs hte hce (show _ = some y0 from g0)
    obtain ⟨A1, n1, c1, e1, l1, r1⟩ := open_textsC hs hte hce (show _ = some y1 from g1)
    obtain ⟨A2, n2, c2, e2, l2, r2⟩ := open_textsC hs hte hce (show _ = some y2 from g2)
    obtain ⟨b, e3, _⟩ := DataW.trod_bool hb (show _ = some y3 from g3)
    rw [hC] at hl
    match cs, hl with
    | [u, v, z, q], _ =>
      simp at e0 e1 e2 e3
      exact ⟨A0, n0, c0, A1, n1, c1, A2, n2, c2, b, by rw [e0, e1, e2, e3], l0, l1, l2, r0, r1, r2⟩
end
end Go.Proofs.YtpghfefiifhbiaaGreatDoor
