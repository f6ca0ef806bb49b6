/-
  ARGUMENTS OPENED, under no condition of their own: a slice of records with their names, a slice of answers.
-/
import Derived.Test.YtlkpbpecgdphaaaMem
import Derived.Deep.Slices
import Derived.Deep.Fields
import Derived.ChangeSame
import Derived.Lib.SmallJoins
import Derived.Test.YtlkpbpecgdphaaaTexts
import Derived.SliceStrings
import Derived.Test.YtlkpbpecgdphaaaRefGet
import Derived.Test.YtlkpbpecgdphaaaUa
import Derived.Deep.Grids
import Derived.WideShapes
namespace Go.Proofs.Ytlkpbpecgdphaaa
open Go.RowKit Go.ChangeShapes Go.WideShapes Go.Deep Go.Joins

section
variable {H : Type} {enc : TypeId × Value → H} {P : Program} {W : World}

theorem open_two {e ts : TypeId} {f0 f1 : Field} {n : Nat} {cs : List Value} {x : DataW H × List MemPlace} {base : Nat} {sp : Nat → Bool} {held : Bool} (he : P.underlying e = some (.struct #[f0, f1])) (h0 : f0.type = ts) (h1 : f1.type = ts) (hs : P.underlying ts = some .string)
    (o0 : f0.offset = 0) (o1 : f1.offset = 1) (hc : P.cellsOf ts = 1) (hC : P.cellsOf e = 2) (h : DataW.trod enc P W base sp held n e cs = some x) :
    ∃ a b : ByteArray, cs = [.string a, .string b] := by
  obtain ⟨y0, y1, m, _, hl, g0, g1⟩ := trod_struct2 he h
  rw [h0, o0, hc] at g0
  rw [h1, o1, hc] at g1
  obtain ⟨a, ha, _⟩ := DataW.trod_string hs g0
  obtain ⟨b, hb, _⟩ := DataW.trod_string hs g1
  rw [hC] at hl
  match cs, hl with
  | [u, v], _ =>
    simp at ha hb
    exact ⟨a, b, by rw [ha, hb]⟩

theorem open_files {t e ts : TypeId} {f0 f1 : Field} {A : Option Addr} {len cap : Nat} {d : DataW H} {p : List MemPlace} (ht : P.underlying t = some (.slice e)) (he : P.underlying e = some (.struct #[f0, f1])) (h0 : f0.type = ts) (h1 : f1.type = ts) (hs : P.underlying ts = some .string)
    (o0 : f0.offset = 0) (o1 : f1.offset = 1) (hc : P.cellsOf ts = 1) (hC : P.cellsOf e = 2) (h : DataW.Trod enc P W 0 (fun _ => true) true t (.slice A len cap) d p) :
    ∃ l : List F, RdF W W.heap.size A len cap l := by
  obtain ⟨fuel, hf⟩ := h
  rcases open_slice ht hf with ⟨hcs, _⟩ | ⟨a, len', cap', m, n, D, Pl, hcs, _, hl, hm, hmm, _, hi⟩
  · simp [Value.cells] at hcs
    obtain ⟨rfl, rfl, rfl⟩ := hcs
    exact ⟨[], RdF.nil _ _⟩
  · simp [Value.cells] at hcs
    obtain ⟨rfl, rfl, rfl⟩ := hcs
    simp only [if_true] at hmm
    have key : ∀ i, ∃ f : F, i < len → W.cell? (a.add (i * 2)) = some (.string f.1) ∧ W.cell? (a.add (i * 2 + 1)) = some (.string f.2) := by
      intro i
      by_cases hil : i < len
      · obtain ⟨cs', hcc, htr⟩ := hi i (by omega)
        rw [hC] at hcc
        obtain ⟨x, y, rfl⟩ := open_two he h0 h1 hs o0 o1 hc hC htr
        obtain ⟨_, _, hat⟩ := World.cells?_some hcc
        refine ⟨(x, y), fun _ => ⟨?_, ?_⟩⟩
        · have := hat 0 (by omega)
          rw [Go.Deep.add_add] at this
          exact this
        · have := hat 1 (by omega)
          rw [Go.Deep.add_add] at this
          exact this
      · exact ⟨(ByteArray.empty, ByteArray.empty), fun h => absurd h hil⟩
    obtain ⟨g, hg⟩ : ∃ g : Nat → F, ∀ i, i < len → W.cell? (a.add (i * 2)) = some (.string (g i).1) ∧ W.cell? (a.add (i * 2 + 1)) = some (.string (g i).2) :=
      ⟨fun i => Classical.choose (key i), fun i => Classical.choose_spec (key i)⟩
    refine ⟨(List.range len).map g, by simp, hl, hm, fun hpos => ?_⟩
    obtain ⟨b, off, spot⟩ := a
    have hz := (hg 0 hpos).1
    have hspot : spot = none := by simpa [Addr.add] using World.cell?_spot hz
    subst hspot
    refine ⟨b, off, rfl, by simpa [Addr.add] using World.block_lt_of_cell? _ _ hz, fun j u hu => ?_⟩
    have hj : j < len * 2 := by
      have := (List.getElem?_eq_some_iff.1 hu).1
      rw [fcells_len] at this
      simpa using this
    have hgl : ((List.range len).map g)[j / 2]? = some (g (j / 2)) := by
      rw [List.getElem?_map, List.getElem?_range (by omega)]; rfl
    have hat := fcells_at hgl
    have hcell := hg (j / 2) (by omega)
    rw [add_plain, add_plain] at hcell
    rcases Nat.mod_two_eq_zero_or_one j with e | e
    · have ej : j / 2 * 2 = j := by omega
      rw [ej] at hat hcell
      rw [hat.1] at hu
      injection hu with hu
      rw [← hu]; exact hcell.1
    · have ej : j / 2 * 2 + 1 = j := by omega
      rw [ej] at hat hcell
      rw [hat.2] at hu
      injection hu with hu
      rw [← hu]; exact hcell.2
end
end Go.Proofs.Ytlkpbpecgdphaaa
namespace Go.Proofs.Ytlkpbpecgdphaaa
open Go.RowKit Go.ChangeShapes Go.WideShapes Go.Deep Go.Joins

section
variable {H : Type} {enc : TypeId × Value → H} {P : Program} {W : World}

theorem open_texts {t e : TypeId} {A : Option Addr} {len cap : Nat} {d : DataW H} {p : List MemPlace} (ht : P.underlying t = some (.slice e)) (he : P.underlying e = some .string) (hc : P.cellsOf e = 1)
    (h : DataW.Trod enc P W 0 (fun _ => true) true t (.slice A len cap) d p) : ∃ l : List ByteArray, RdS W W.heap.size A len cap l := by
  obtain ⟨fuel, hf⟩ := h
  rcases open_strings ht he hc hf with ⟨hcs, _⟩ | ⟨a, len', cap', ss, hcs, _, hl, hm, hz, _, hcell, _⟩
  · simp [Value.cells] at hcs
    obtain ⟨rfl, rfl, rfl⟩ := hcs
    exact ⟨[], RdS.nil _ _⟩
  · simp [Value.cells] at hcs
    obtain ⟨rfl, rfl, rfl⟩ := hcs
    simp only [if_true] at hz
    refine ⟨ss.take len, by rw [List.length_take]; omega, hl, hm, fun hpos => ?_⟩
    obtain ⟨b, off, spot⟩ := a
    have h0 := hcell 0 (by omega)
    have hspot : spot = none := by simpa [Addr.add] using World.cell?_spot h0
    subst hspot
    refine ⟨b, off, rfl, by simpa [Addr.add] using World.block_lt_of_cell? _ _ h0, fun j u hu => ?_⟩
    rw [List.getElem?_take] at hu
    split at hu
    · have hj : j < ss.length := by omega
      have := hcell j hj
      rw [add_plain, List.getD_eq_getElem?_getD, hu] at this
      exact this
    · cases hu

theorem open_textsC {t e : TypeId} {cs : List Value} {x : DataW H × List MemPlace} {fuel : Nat} (ht : P.underlying t = some (.slice e)) (he : P.underlying e = some .string) (hc : P.cellsOf e = 1)
    (h : DataW.trod enc P W 0 (fun _ => true) true fuel t cs = some x) : ∃ A len cap, cs = [.slice A len cap] ∧ ∃ l : List ByteArray, RdS W W.heap.size A len cap l := by
  have hh := h
  rcases open_strings ht he hc hh with ⟨hcs, _⟩ | ⟨a, len', cap', ss, hcs, _⟩
  · refine ⟨none, 0, 0, by simpa [Value.cells] using hcs, [], RdS.nil _ _⟩
  · refine ⟨some a, len', cap', hcs, ?_⟩
    rw [hcs] at h
    exact open_texts ht he hc ⟨fuel, by simpa [Value.cells] using h⟩

theorem open_group {e ts tb te : TypeId} {f0 f1 f2 f3 : Field} {n : Nat} {cs : List Value} {x : DataW H × List MemPlace} (he : P.underlying e = some (.struct #[f0, f1, f2, f3])) (h0 : f0.type = ts) (h1 : f1.type = ts) (h2 : f2.type = ts) (h3 : f3.type = tb)
    (hs : P.underlying ts = some (.slice te)) (hte : P.underlying te = some .string) (hb : P.underlying tb = some .bool) (o0 : f0.offset = 0) (o1 : f1.offset = 1) (o2 : f2.offset = 2) (o3 : f3.offset = 3) (hc : P.cellsOf ts = 1) (hce : P.cellsOf te = 1) (hcb : P.cellsOf tb = 1) (hC : P.cellsOf e = 4)
    (h : DataW.trod enc P W 0 (fun _ => true) true n e cs = some x) :
    ∃ A0 n0 c0 A1 n1 c1 A2 n2 c2 b, cs = [.slice A0 n0 c0, .slice A1 n1 c1, .slice A2 n2 c2, .bool b] ∧ ∃ l0 l1 l2 : List ByteArray, RdS W W.heap.size A0 n0 c0 l0 ∧ RdS W W.heap.size A1 n1 c1 l1 ∧ RdS W W.heap.size A2 n2 c2 l2 := by
  obtain ⟨xs, m, _, _, hl, hlen, hf⟩ := DataW.trod_struct he h
  match xs, hlen with
  | [y0, y1, y2, y3], _ =>
    have g0 := hf 0 f0 rfl
    have g1 := hf 1 f1 rfl
    have g2 := hf 2 f2 rfl
    have g3 := hf 3 f3 rfl
    rw [h0, o0, hc] at g0
    rw [h1, o1, hc] at g1
    rw [h2, o2, hc] at g2
    rw [h3, o3, hcb] at g3
    obtain ⟨A0, n0, c0, e0, l0, r0⟩ := open_textsC hs hte hce (show _ = some y0 from g0)
    obtain ⟨A1, n1, c1, e1, l1, r1⟩ := open_textsC hs hte hce (show _ = some y1 from g1)
    obtain ⟨A2, n2, c2, e2, l2, r2⟩ := open_textsC hs hte hce (show _ = some y2 from g2)
    obtain ⟨b, e3, _⟩ := DataW.trod_bool hb (show _ = some y3 from g3)
    rw [hC] at hl
    match cs, hl with
    | [u, v, z, q], _ =>
      simp at e0 e1 e2 e3
      exact ⟨A0, n0, c0, A1, n1, c1, A2, n2, c2, b, by rw [e0, e1, e2, e3], l0, l1, l2, r0, r1, r2⟩
end
end Go.Proofs.Ytlkpbpecgdphaaa
namespace Go.Proofs.Ytlkpbpecgdphaaa
open Go.RowKit Go.ChangeShapes Go.WideShapes Go.Deep Go.Joins

section
variable {H : Type} {enc : TypeId × Value → H} {P : Program} {W : World}
/-- A slice, element by element: R says what an element's cells are. -/
theorem open_eachK {α : Type} [Inhabited α] {t e : TypeId} {C : Nat} (ht : P.underlying t = some (.slice e)) (hC : P.cellsOf e = C) (R : α → List Value → Prop)
    (hR : ∀ n cs x, DataW.trod enc P W 0 (fun _ => true) true n e cs = some x → ∃ f, R f cs) {fuel : Nat} {cs : List Value} {x : DataW H × List MemPlace} (h : DataW.trod enc P W 0 (fun _ => true) true fuel t cs = some x) (hC0 : 0 < C) :
    ∃ A len cap, cs = [.slice A len cap] ∧ len ≤ cap ∧ cap ≤ maxLen ∧ ∃ g : Nat → α, 0 < len → ∃ b off, A = some ⟨b, off, none⟩ ∧ b < W.heap.size ∧ ∀ i, i < len → ∃ cs', R (g i) cs' ∧ cs'.length = C ∧ ∀ j v, cs'[j]? = some v → W.cell? ⟨b, off + i * C + j, none⟩ = some v := by
  rcases open_slice ht h with ⟨hcs, _⟩ | ⟨a, len, cap, m, n, D, Pl, hcs, _, hl, hm, hmm, _, hi⟩
  · exact ⟨none, 0, 0, hcs, Nat.le_refl _, Nat.zero_le _, fun _ => default, fun h => absurd h (by omega)⟩
  · refine ⟨some a, len, cap, hcs, hl, hm, ?_⟩
    simp only [if_true] at hmm
    have key : ∀ i, ∃ f : α, i < len → ∃ cs', R f cs' ∧ cs'.length = C ∧ ∀ j v, cs'[j]? = some v → W.cell? (a.add (i * C + j)) = some v := by
      intro i
      by_cases hil : i < len
      · obtain ⟨cs', hcc, htr⟩ := hi i (by omega)
        rw [hC] at hcc
        obtain ⟨f, hf⟩ := hR _ _ _ htr
        obtain ⟨_, hlen, hat⟩ := World.cells?_some hcc
        refine ⟨f, fun _ => ⟨cs', hf, hlen, fun j v hv => ?_⟩⟩
        have hj : j < cs'.length := (List.getElem?_eq_some_iff.1 hv).1
        have := hat j (by omega)
        rw [Go.Deep.add_add] at this
        rw [this, hv]
      · exact ⟨default, fun h => absurd h hil⟩
    refine ⟨fun i => Classical.choose (key i), fun hpos => ?_⟩
    have hg : ∀ i, i < len → _ := fun i => Classical.choose_spec (key i)
    obtain ⟨b, off, spot⟩ := a
    obtain ⟨cs0, _, hl0, hz⟩ := hg 0 hpos
    have hz0 := hz 0 _ (List.getElem?_eq_getElem (by omega))
    have hspot : spot = none := by simpa [Addr.add] using World.cell?_spot hz0
    subst hspot
    refine ⟨b, off, rfl, by simpa [Addr.add] using World.block_lt_of_cell? _ _ hz0, fun i hil => ?_⟩
    obtain ⟨cs', h1, h2, h3⟩ := hg i hil
    refine ⟨cs', h1, h2, fun j v hv => ?_⟩
    have := h3 j v hv
    rwa [add_plain, ← Nat.add_assoc] at this
theorem open_filesK {t e ts : TypeId} {f0 f1 : Field} {cs : List Value} {x : DataW H × List MemPlace} {fuel : Nat} (ht : P.underlying t = some (.slice e)) (he : P.underlying e = some (.struct #[f0, f1])) (h0 : f0.type = ts) (h1 : f1.type = ts) (hs : P.underlying ts = some .string)
    (o0 : f0.offset = 0) (o1 : f1.offset = 1) (hc : P.cellsOf ts = 1) (hC : P.cellsOf e = 2)
    (h : DataW.trod enc P W 0 (fun _ => true) true fuel t cs = some x) : ∃ A len cap, cs = [.slice A len cap] ∧ ∃ l : List F, RdF W W.heap.size A len cap l := by
  have hh := h
  rcases open_slice ht hh with ⟨hcs, _⟩ | ⟨a, len', cap', m, n, D, Pl, hcs, _⟩
  · exact ⟨none, 0, 0, by simpa [Value.cells] using hcs, [], RdF.nil _ _⟩
  · refine ⟨some a, len', cap', hcs, ?_⟩
    rw [hcs] at h
    exact open_files ht he h0 h1 hs o0 o1 hc hC ⟨fuel, by simpa [Value.cells] using h⟩
theorem open_recK {e tt te tf tg ts : TypeId} {f0 f1 f2 g0 g1 : Field} {n : Nat} {cs : List Value} {x : DataW H × List MemPlace} (he : P.underlying e = some (.struct #[f0, f1, f2])) (h0 : f0.type = tt) (h1 : f1.type = tf) (h2 : f2.type = tf)
    (ht : P.underlying tt = some (.slice te)) (hte : P.underlying te = some .string) (hf : P.underlying tf = some (.slice tg)) (hg : P.underlying tg = some (.struct #[g0, g1])) (k0 : g0.type = ts) (k1 : g1.type = ts) (hs : P.underlying ts = some .string)
    (o0 : f0.offset = 0) (o1 : f1.offset = 1) (o2 : f2.offset = 2) (u0 : g0.offset = 0) (u1 : g1.offset = 1) (ct : P.cellsOf tt = 1) (cf : P.cellsOf tf = 1) (cte : P.cellsOf te = 1) (cts : P.cellsOf ts = 1) (ctg : P.cellsOf tg = 2) (hC : P.cellsOf e = 3)
    (h : DataW.trod enc P W 0 (fun _ => true) true n e cs = some x) :
    ∃ A0 n0 c0 A1 n1 c1 A2 n2 c2, cs = [.slice A0 n0 c0, .slice A1 n1 c1, .slice A2 n2 c2] ∧ ∃ (l0 : List ByteArray) (l1 l2 : List F), RdS W W.heap.size A0 n0 c0 l0 ∧ RdF W W.heap.size A1 n1 c1 l1 ∧ RdF W W.heap.size A2 n2 c2 l2 := by
  obtain ⟨xs, m, _, _, hl, hlen, hfd⟩ := DataW.trod_struct he h
  match xs, hlen with
  | [y0, y1, y2], _ =>
    have q0 := hfd 0 f0 rfl
    have q1 := hfd 1 f1 rfl
    have q2 := hfd 2 f2 rfl
    rw [h0, o0, ct] at q0
    rw [h1, o1, cf] at q1
    rw [h2, o2, cf] at q2
    obtain ⟨A0, n0, c0, e0, l0, r0⟩ := open_textsC ht hte cte (show _ = some y0 from q0)
    obtain ⟨A1, n1, c1, e1, l1, r1⟩ := open_filesK hf hg k0 k1 hs u0 u1 cts ctg (show _ = some y1 from q1)
    obtain ⟨A2, n2, c2, e2, l2, r2⟩ := open_filesK hf hg k0 k1 hs u0 u1 cts ctg (show _ = some y2 from q2)
    rw [hC] at hl
    match cs, hl with
    | [u, v, z], _ =>
      simp at e0 e1 e2
      exact ⟨A0, n0, c0, A1, n1, c1, A2, n2, c2, by rw [e0, e1, e2], l0, l1, l2, r0, r1, r2⟩
theorem open_answersK {t e : TypeId} {A : Option Addr} {len cap : Nat} {d : DataW H} {p : List MemPlace} (ht : P.underlying t = some (.slice e)) (he : P.underlying e = some .bool) (hc : P.cellsOf e = 1)
    (h : DataW.Trod enc P W 0 (fun _ => true) true t (.slice A len cap) d p) : ∃ st : List Bool, RdX W 1 A len (bcells st) ∧ len ≤ cap ∧ cap ≤ maxLen := by
  obtain ⟨fuel, hf⟩ := h
  rcases open_bools ht he hc hf with ⟨hcs, _⟩ | ⟨a, len', cap', B, hcs, _, hl, hm, _, hcell⟩
  · simp [Value.cells] at hcs
    obtain ⟨rfl, rfl, rfl⟩ := hcs
    exact ⟨[], ⟨rfl, by simp [bcells], fun h => by omega⟩, Nat.le_refl _, Nat.zero_le _⟩
  · simp [Value.cells] at hcs
    obtain ⟨rfl, rfl, rfl⟩ := hcs
    refine ⟨(List.range len).map B, ⟨by simp [bcells], fun u hu => ?_, fun hpos => ?_⟩, hl, hm⟩
    · obtain ⟨b, _, rfl⟩ := List.mem_map.1 hu; rfl
    · obtain ⟨b, off, spot⟩ := a
      have h0 := hcell 0 (by omega)
      have hspot : spot = none := by simpa [Addr.add] using World.cell?_spot h0
      subst hspot
      refine ⟨b, off, rfl, fun j u hu => ?_⟩
      have hj : j < len := by have := (List.getElem?_eq_some_iff.1 hu).1; simpa [bcells] using this
      have h1 := hcell j (by omega)
      rw [add_plain] at h1
      rw [h1]
      simpa [bcells, hj] using hu
end
section
variable {H : Type} {enc : TypeId × Value → H} {W : World}
theorem cells_T : Try.prog.cellsOf 27 = 1 := by kernel_rfl
theorem cells_S : Try.prog.cellsOf 9 = 1 := by kernel_rfl
theorem cells_F : Try.prog.cellsOf 22 = 1 := by kernel_rfl
theorem cells_f : Try.prog.cellsOf 57 = 2 := by kernel_rfl
theorem cells_R : Try.prog.cellsOf 29 = 3 := by kernel_rfl
theorem cells_K : Try.prog.cellsOf 31 = 4 := by kernel_rfl
set_option maxRecDepth 100000 in
theorem open_kept {A : Option Addr} {len cap : Nat} {d : DataW H} {p : List MemPlace} (h : DataW.Trod enc Try.prog W 0 (fun _ => true) true 23 (.slice A len cap) d p) : ∃ K : Kp, KpRd W A len cap K := by
  obtain ⟨fuel, hf⟩ := h
  obtain ⟨A', len', cap', hcs, hl, hm, g, hg⟩ := open_eachK (α := ByteArray × Rcd) Try.underlying23 cells_K (fun f cs => ∃ A0 n0 c0 A1 n1 c1 A2 n2 c2, cs = [.string f.1, .slice A0 n0 c0, .slice A1 n1 c1, .slice A2 n2 c2] ∧ RdS W W.heap.size A0 n0 c0 f.2.1 ∧ RdF W W.heap.size A1 n1 c1 f.2.2.1 ∧ RdF W W.heap.size A2 n2 c2 f.2.2.2) (fun n cs x hx => by
    obtain ⟨xs, m, _, _, hl, hlen, hfd⟩ := DataW.trod_struct Try.underlying31 hx
    match xs, hlen with
    | [y0, y1], _ =>
      have q0 : DataW.trod enc Try.prog W 0 (fun _ => true) true m 9 ((cs.drop 0).take (Try.prog.cellsOf 9)) = some y0 := hfd 0 _ rfl
      have q1 : DataW.trod enc Try.prog W 0 (fun _ => true) true m 29 ((cs.drop 1).take (Try.prog.cellsOf 29)) = some y1 := hfd 1 _ rfl
      rw [cells_S] at q0
      rw [cells_R] at q1
      obtain ⟨a, ha, _⟩ := DataW.trod_string Try.underlying9 (show _ = some y0 from q0)
      obtain ⟨A0, n0, c0, A1, n1, c1, A2, n2, c2, e1, l0, l1, l2, r0, r1, r2⟩ := open_recK Try.underlying29 rfl rfl rfl Try.underlying27 Try.underlying9 Try.underlying22 Try.underlying57 rfl rfl Try.underlying9 rfl rfl rfl rfl rfl cells_T cells_F cells_S cells_S cells_f cells_R (show _ = some y1 from q1)
      rw [cells_K] at hl
      match cs, hl with
      | [u, v, z, y], _ =>
        simp at ha e1
        obtain ⟨e1, e2, e3⟩ := e1
        exact ⟨(a, (l0, l1, l2)), A0, n0, c0, A1, n1, c1, A2, n2, c2, by rw [ha, e1, e2, e3], r0, r1, r2⟩) hf (by omega)
  simp [Value.cells] at hcs
  obtain ⟨rfl, rfl, rfl⟩ := hcs
  refine ⟨(List.range len).map g, by simp, ⟨hl, hm⟩, fun i s r hi => ?_⟩
  have hil : i < len := by have := (List.getElem?_eq_some_iff.1 hi).1; simpa using this
  have hgi : g i = (s, r) := by
    rw [List.getElem?_map, List.getElem?_range hil] at hi
    exact Option.some.inj hi
  obtain ⟨b, off, rfl, hbl, hc⟩ := hg (by omega)
  obtain ⟨cs', ⟨A0, n0, c0, A1, n1, c1, A2, n2, c2, rfl, r0, r1, r2⟩, _, hat⟩ := hc i hil
  rw [hgi] at hat r0 r1 r2
  exact ⟨b, off, A0, n0, c0, A1, n1, c1, A2, n2, c2, rfl, hbl, hat 0 _ rfl, hat 1 _ rfl, hat 2 _ rfl, hat 3 _ rfl, r0, r1, r2⟩
end
end Go.Proofs.Ytlkpbpecgdphaaa
