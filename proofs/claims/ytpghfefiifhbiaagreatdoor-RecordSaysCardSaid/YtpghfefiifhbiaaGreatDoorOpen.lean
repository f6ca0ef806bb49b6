/-
  ARGUMENTS OPENED, under no condition of its own: a slice of structs of two strings that can be read is one that reads as files; such a struct by value is two strings.
-/
import Derived.Test.YtpghfefiifhbiaaGreatDoorMem
import Derived.Deep.Slices
import Derived.Deep.Fields
import Derived.ChangeSame
import Derived.Lib.SmallJoins
namespace Go.Proofs.YtpghfefiifhbiaaGreatDoor
open Go.RowKit Go.ChangeShapes Go.WideShapes Go.Deep Go.Joins

section
variable {H : Type} {enc : TypeId × Value → H} {P : Program} {W : World}

theorem open_two {e ts : TypeId} {f0 f1 : Field} {n : Nat} {cs : List Value} {x : DataW H × List MemPlace} {base : Nat} {sp : Nat → Bool} {held : Bool} (he : P.underlying e = some (.struct #[f0, f1])) (h0 : f0.type = ts) (h1 : f1.type = ts) (hs : P.underlying ts = some .string)
    (o0 : f0.offset = 0) (o1 : f1.offset = 1) (hc : P.cellsOf ts = 1) (hC : P.cellsOf e = 2) (h : DataW.trod enc P W base sp held n e cs = some x) :
    ∃ a b : ByteArray, cs = [.string a, .string b] := by
  obtain ⟨y0, y1, m, _, hl, g0, g1⟩ := trod_struct2 he h
  rw [h0, o0, hc] at g0
  rw [h1, o1, hc] at g1
  obtain ⟨a, ha, _⟩ := DataW.trod_string hs g0
  obtain ⟨b, hb, _⟩ := DataW.trod_string hs g1
  rw [hC] at hl
  match cs, hl with
  | [u, v], _ =>
    simp at ha hb
    exact ⟨a, b, by rw [ha, hb]⟩

theorem open_files {t e ts : TypeId} {f0 f1 : Field} {A : Option Addr} {len cap : Nat} {d : DataW H} {p : List MemPlace} (ht : P.underlying t = some (.slice e)) (he : P.underlying e = some (.struct #[f0, f1])) (h0 : f0.type = ts) (h1 : f1.type = ts) (hs : P.underlying ts = some .string)
    (o0 : f0.offset = 0) (o1 : f1.offset = 1) (hc : P.cellsOf ts = 1) (hC : P.cellsOf e = 2) (h : DataW.Trod enc P W 0 (fun _ => true) true t (.slice A len cap) d p) :
    ∃ l : List F, RdF W W.heap.size A len cap l := by
  obtain ⟨fuel, hf⟩ := h
  rcases open_slice ht hf with ⟨hcs, _⟩ | ⟨a, len', cap', m, n, D, Pl, hcs, _, hl, hm, hmm, _, hi⟩
  · simp [Value.cells] at hcs
    obtain ⟨rfl, rfl, rfl⟩ := hcs
    exact ⟨[], RdF.nil _ _⟩
  · simp [Value.cells] at hcs
    obtain ⟨rfl, rfl, rfl⟩ := hcs
    simp only [if_true] at hmm
    have key : ∀ i, ∃ f : F, i < len → W.cell? (a.add (i * 2)) = some (.string f.1) ∧ W.cell? (a.add (i * 2 + 1)) = some (.string f.2) := by
      intro i
      by_cases hil : i < len
      · obtain ⟨cs', hcc, htr⟩ := hi i (by omega)
        rw [hC] at hcc
        obtain ⟨x, y, rfl⟩ := open_two he h0 h1 hs o0 o1 hc hC htr
        obtain ⟨_, _, hat⟩ := World.cells?_some hcc
        refine ⟨(x, y), fun _ => ⟨?_, ?_⟩⟩
        · have := hat 0 (by omega)
          rw [Go.Deep.add_add] at this
          exact this
        · have := hat 1 (by omega)
          rw [Go.Deep.add_add] at this
          exact this
      · exact ⟨(ByteArray.empty, ByteArray.empty), fun h => absurd h hil⟩
    obtain ⟨g, hg⟩ : ∃ g : Nat → F, ∀ i, i < len → W.cell? (a.add (i * 2)) = some (.string (g i).1) ∧ W.cell? (a.add (i * 2 + 1)) = some (.string (g i).2) :=
      ⟨fun i => Classical.choose (key i), fun i => Classical.choose_spec (key i)⟩
    refine ⟨(List.range len).map g, by simp, hl, hm, fun hpos => ?_⟩
    obtain ⟨b, off, spot⟩ := a
    have hz := (hg 0 hpos).1
    have hspot : spot = none := by simpa [Addr.add] using World.cell?_spot hz
    subst hspot
    refine ⟨b, off, rfl, by simpa [Addr.add] using World.block_lt_of_cell? _ _ hz, fun j u hu => ?_⟩
    have hj : j < len * 2 := by
      have := (List.getElem?_eq_some_iff.1 hu).1
      rw [fcells_len] at this
      simpa using this
    have hgl : ((List.range len).map g)[j / 2]? = some (g (j / 2)) := by
      rw [List.getElem?_map, List.getElem?_range (by omega)]; rfl
    have hat := fcells_at hgl
    have hcell := hg (j / 2) (by omega)
    rw [add_plain, add_plain] at hcell
    rcases Nat.mod_two_eq_zero_or_one j with e | e
    · have ej : j / 2 * 2 = j := by omega
      rw [ej] at hat hcell
      rw [hat.1] at hu
      injection hu with hu
      rw [← hu]; exact hcell.1
    · have ej : j / 2 * 2 + 1 = j := by omega
      rw [ej] at hat hcell
      rw [hat.2] at hu
      injection hu with hu
      rw [← hu]; exact hcell.2
end
end Go.Proofs.YtpghfefiifhbiaaGreatDoor
