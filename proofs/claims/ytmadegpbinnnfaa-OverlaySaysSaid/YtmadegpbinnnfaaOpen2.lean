/-
  ARGUMENTS OPENED, under no condition of its own: a slice of strings that can be read is one that reads as texts; a slice of structs of three strings is one that reads as acts.
-/
import Derived.Test.YtmadegpbinnnfaaOpen
import Derived.Test.YtmadegpbinnnfaaActs
import Derived.SliceStrings
namespace Go.Proofs.Ytmadegpbinnnfaa
open Go.RowKit Go.ChangeShapes Go.WideShapes Go.Deep Go.Joins

section
variable {H : Type} {enc : TypeId × Value → H} {P : Program} {W : World}

theorem open_texts {t e : TypeId} {A : Option Addr} {len cap : Nat} {d : DataW H} {p : List MemPlace} (ht : P.underlying t = some (.slice e)) (he : P.underlying e = some .string) (hc : P.cellsOf e = 1)
    (h : DataW.Trod enc P W 0 (fun _ => true) true t (.slice A len cap) d p) : ∃ l : List ByteArray, RdS W W.heap.size A len cap l := by
  obtain ⟨fuel, hf⟩ := h
  rcases open_strings ht he hc hf with ⟨hcs, _⟩ | ⟨a, len', cap', ss, hcs, _, hl, hm, hz, _, hcell, _⟩
  · simp [Value.cells] at hcs
    obtain ⟨rfl, rfl, rfl⟩ := hcs
    exact ⟨[], RdS.nil _ _⟩
  · simp [Value.cells] at hcs
    obtain ⟨rfl, rfl, rfl⟩ := hcs
    simp only [if_true] at hz
    refine ⟨ss.take len, by rw [List.length_take]; omega, hl, hm, fun hpos => ?_⟩
    obtain ⟨b, off, spot⟩ := a
    have h0 := hcell 0 (by omega)
    have hspot : spot = none := by simpa [Addr.add] using World.cell?_spot h0
    subst hspot
    refine ⟨b, off, rfl, by simpa [Addr.add] using World.block_lt_of_cell? _ _ h0, fun j u hu => ?_⟩
    rw [List.getElem?_take] at hu
    split at hu
    · have hj : j < ss.length := by omega
      have := hcell j hj
      rw [add_plain, List.getD_eq_getElem?_getD, hu] at this
      exact this
    · cases hu

theorem open_three {e ts : TypeId} {f0 f1 f2 : Field} {n : Nat} {cs : List Value} {x : DataW H × List MemPlace} {base : Nat} {sp : Nat → Bool} {held : Bool} (he : P.underlying e = some (.struct #[f0, f1, f2])) (h0 : f0.type = ts) (h1 : f1.type = ts) (h2 : f2.type = ts) (hs : P.underlying ts = some .string)
    (o0 : f0.offset = 0) (o1 : f1.offset = 1) (o2 : f2.offset = 2) (hc : P.cellsOf ts = 1) (hC : P.cellsOf e = 3) (h : DataW.trod enc P W base sp held n e cs = some x) :
    ∃ a b c : ByteArray, cs = [.string a, .string b, .string c] := by
  obtain ⟨xs, m, _, _, hl, hlen, hf⟩ := DataW.trod_struct he h
  match xs, hlen with
  | [y0, y1, y2], _ =>
    have g0 := hf 0 f0 rfl
    have g1 := hf 1 f1 rfl
    have g2 := hf 2 f2 rfl
    rw [h0, o0, hc] at g0
    rw [h1, o1, hc] at g1
    rw [h2, o2, hc] at g2
    obtain ⟨a, ha, _⟩ := DataW.trod_string hs (show _ = some y0 from g0)
    obtain ⟨b, hb, _⟩ := DataW.trod_string hs (show _ = some y1 from g1)
    obtain ⟨c, hcc, _⟩ := DataW.trod_string hs (show _ = some y2 from g2)
    rw [hC] at hl
    match cs, hl with
    | [u, v, z], _ =>
      simp at ha hb hcc
      exact ⟨a, b, c, by rw [ha, hb, hcc]⟩

theorem open_acts {t e ts : TypeId} {f0 f1 f2 : Field} {A : Option Addr} {len cap : Nat} {d : DataW H} {p : List MemPlace} (ht : P.underlying t = some (.slice e)) (he : P.underlying e = some (.struct #[f0, f1, f2])) (h0 : f0.type = ts) (h1 : f1.type = ts) (h2 : f2.type = ts) (hs : P.underlying ts = some .string)
    (o0 : f0.offset = 0) (o1 : f1.offset = 1) (o2 : f2.offset = 2) (hc : P.cellsOf ts = 1) (hC : P.cellsOf e = 3) (h : DataW.Trod enc P W 0 (fun _ => true) true t (.slice A len cap) d p) :
    ∃ l : List Ac, RdA W W.heap.size A len cap l := by
  obtain ⟨fuel, hf⟩ := h
  rcases open_slice ht hf with ⟨hcs, _⟩ | ⟨a, len', cap', m, n, D, Pl, hcs, _, hl, hm, hmm, _, hi⟩
  · simp [Value.cells] at hcs
    obtain ⟨rfl, rfl, rfl⟩ := hcs
    exact ⟨[], rfl, Nat.le_refl _, Nat.zero_le _, fun h => absurd h (by omega)⟩
  · simp [Value.cells] at hcs
    obtain ⟨rfl, rfl, rfl⟩ := hcs
    simp only [if_true] at hmm
    have key : ∀ i, ∃ f : Ac, i < len → W.cell? (a.add (i * 3)) = some (.string f.1) ∧ W.cell? (a.add (i * 3 + 1)) = some (.string f.2.1) ∧ W.cell? (a.add (i * 3 + 2)) = some (.string f.2.2) := by
      intro i
      by_cases hil : i < len
      · obtain ⟨cs', hcc, htr⟩ := hi i (by omega)
        rw [hC] at hcc
        obtain ⟨x, y, z, rfl⟩ := open_three he h0 h1 h2 hs o0 o1 o2 hc hC htr
        obtain ⟨_, _, hat⟩ := World.cells?_some hcc
        refine ⟨(x, y, z), fun _ => ⟨?_, ?_, ?_⟩⟩
        · have := hat 0 (by omega)
          rw [Go.Deep.add_add] at this
          exact this
        · have := hat 1 (by omega)
          rw [Go.Deep.add_add] at this
          exact this
        · have := hat 2 (by omega)
          rw [Go.Deep.add_add] at this
          exact this
      · exact ⟨(ByteArray.empty, ByteArray.empty, ByteArray.empty), fun h => absurd h hil⟩
    obtain ⟨g, hg⟩ : ∃ g : Nat → Ac, ∀ i, i < len → W.cell? (a.add (i * 3)) = some (.string (g i).1) ∧ W.cell? (a.add (i * 3 + 1)) = some (.string (g i).2.1) ∧ W.cell? (a.add (i * 3 + 2)) = some (.string (g i).2.2) :=
      ⟨fun i => Classical.choose (key i), fun i => Classical.choose_spec (key i)⟩
    refine ⟨(List.range len).map g, by simp, hl, hm, fun hpos => ?_⟩
    obtain ⟨b, off, spot⟩ := a
    have hz := (hg 0 hpos).1
    have hspot : spot = none := by simpa [Addr.add] using World.cell?_spot hz
    subst hspot
    refine ⟨b, off, rfl, by simpa [Addr.add] using World.block_lt_of_cell? _ _ hz, fun i f hif => ?_⟩
    rw [List.getElem?_map, Option.map_eq_some_iff] at hif
    obtain ⟨j, hj, rfl⟩ := hif
    obtain ⟨hjl, rfl⟩ := List.getElem?_eq_some_iff.1 hj
    rw [List.getElem_range]
    have := hg i (by simpa using hjl)
    rw [add_plain, add_plain, add_plain] at this
    exact ⟨this.1, by rw [Nat.add_assoc]; exact this.2.1, by rw [Nat.add_assoc]; exact this.2.2⟩
end
end Go.Proofs.Ytmadegpbinnnfaa
