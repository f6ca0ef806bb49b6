/-
  ARGUMENTS OPENED, under no condition of their own: a slice of changes, a slice of deeds.
-/
import Derived.Test.YtgkenknplepmeaaAp
import Derived.Deep.Slices
import Derived.Deep.Fields
import Derived.ChangeSame
import Derived.Lib.SmallJoins
import Derived.WideShapes
namespace Go.Proofs.Ytgkenknplepmeaa
open Go.RowKit Go.ChangeShapes Go.WideShapes Go.Deep Go.Joins

section
variable {H : Type} {enc : TypeId × Value → H} {P : Program} {W : World}

/-- A slice, element by element: R says what an element's cells are. -/
theorem open_each {α : Type} [Inhabited α] {t e : TypeId} {C : Nat} (ht : P.underlying t = some (.slice e)) (hC : P.cellsOf e = C) (R : α → List Value → Prop)
    (hR : ∀ n cs x, DataW.trod enc P W 0 (fun _ => true) true n e cs = some x → ∃ f, R f cs) {fuel : Nat} {cs : List Value} {x : DataW H × List MemPlace} (h : DataW.trod enc P W 0 (fun _ => true) true fuel t cs = some x) (hC0 : 0 < C) :
    ∃ A len cap, cs = [.slice A len cap] ∧ len ≤ cap ∧ cap ≤ maxLen ∧ ∃ g : Nat → α, 0 < len → ∃ b off, A = some ⟨b, off, none⟩ ∧ b < W.heap.size ∧ ∀ i, i < len → ∃ cs', R (g i) cs' ∧ cs'.length = C ∧ ∀ j v, cs'[j]? = some v → W.cell? ⟨b, off + i * C + j, none⟩ = some v := by
  rcases open_slice ht h with ⟨hcs, _⟩ | ⟨a, len, cap, m, n, D, Pl, hcs, _, hl, hm, hmm, _, hi⟩
  · exact ⟨none, 0, 0, hcs, Nat.le_refl _, Nat.zero_le _, fun _ => default, fun h => absurd h (by omega)⟩
  · refine ⟨some a, len, cap, hcs, hl, hm, ?_⟩
    simp only [if_true] at hmm
    have key : ∀ i, ∃ f : α, i < len → ∃ cs', R f cs' ∧ cs'.length = C ∧ ∀ j v, cs'[j]? = some v → W.cell? (a.add (i * C + j)) = some v := by
      intro i
      by_cases hil : i < len
      · obtain ⟨cs', hcc, htr⟩ := hi i (by omega)
        rw [hC] at hcc
        obtain ⟨f, hf⟩ := hR _ _ _ htr
        obtain ⟨_, hlen, hat⟩ := World.cells?_some hcc
        refine ⟨f, fun _ => ⟨cs', hf, hlen, fun j v hv => ?_⟩⟩
        have hj : j < cs'.length := (List.getElem?_eq_some_iff.1 hv).1
        have := hat j (by omega)
        rw [Go.Deep.add_add] at this
        rw [this, hv]
      · exact ⟨default, fun h => absurd h hil⟩
    refine ⟨fun i => Classical.choose (key i), fun hpos => ?_⟩
    have hg : ∀ i, i < len → _ := fun i => Classical.choose_spec (key i)
    obtain ⟨b, off, spot⟩ := a
    obtain ⟨cs0, _, hl0, hz⟩ := hg 0 hpos
    have hz0 := hz 0 _ (List.getElem?_eq_getElem (by omega))
    have hspot : spot = none := by simpa [Addr.add] using World.cell?_spot hz0
    subst hspot
    refine ⟨b, off, rfl, by simpa [Addr.add] using World.block_lt_of_cell? _ _ hz0, fun i hil => ?_⟩
    obtain ⟨cs', h1, h2, h3⟩ := hg i hil
    refine ⟨cs', h1, h2, fun j v hv => ?_⟩
    have := h3 j v hv
    rwa [add_plain, ← Nat.add_assoc] at this
instance inhChO : Inhabited Ch := ⟨⟨ByteArray.empty, ByteArray.empty, false⟩⟩
instance : Inhabited De := ⟨⟨ByteArray.empty, ByteArray.empty, ByteArray.empty, 0, 0, none, 0, 0, []⟩⟩
/-- The numbers of a type for changes. -/
structure ChTy (P : Program) (t e ts tb : TypeId) (f0 f1 f2 : Field) : Prop where
  ht : P.underlying t = some (.slice e)
  he : P.underlying e = some (.struct #[f0, f1, f2])
  h0 : f0.type = ts
  h1 : f1.type = ts
  h2 : f2.type = tb
  hs : P.underlying ts = some .string
  hb : P.underlying tb = some .bool
  o0 : f0.offset = 0
  o1 : f1.offset = 1
  o2 : f2.offset = 2
  cs : P.cellsOf ts = 1
  cb : P.cellsOf tb = 1
  ce : P.cellsOf e = 3
theorem open_change {t e ts tb : TypeId} {f0 f1 f2 : Field} (T : ChTy P t e ts tb f0 f1 f2) {fuel : Nat} {cs : List Value} {x : DataW H × List MemPlace} (h : DataW.trod enc P W 0 (fun _ => true) true fuel e cs = some x) : ∃ f : Ch, cs = [.string f.key, .string f.val, .bool f.gone] := by
  obtain ⟨xs, m, _, _, hl, hlen, hf⟩ := DataW.trod_struct T.he h
  match xs, hlen with
  | [y0, y1, y2], _ =>
    have g0 := hf 0 f0 rfl
    have g1 := hf 1 f1 rfl
    have g2 := hf 2 f2 rfl
    rw [T.h0, T.o0, T.cs] at g0
    rw [T.h1, T.o1, T.cs] at g1
    rw [T.h2, T.o2, T.cb] at g2
    obtain ⟨a, ha, _⟩ := DataW.trod_string T.hs (show _ = some y0 from g0)
    obtain ⟨b, hb, _⟩ := DataW.trod_string T.hs (show _ = some y1 from g1)
    obtain ⟨c, hcc, _⟩ := DataW.trod_bool T.hb (show _ = some y2 from g2)
    rw [T.ce] at hl
    match cs, hl with
    | [u, v, z], _ =>
      simp at ha hb hcc
      exact ⟨⟨a, b, c⟩, by rw [ha, hb, hcc]⟩
theorem open_changes {t e ts tb : TypeId} {f0 f1 f2 : Field} (T : ChTy P t e ts tb f0 f1 f2) {fuel : Nat} {cs : List Value} {x : DataW H × List MemPlace} (h : DataW.trod enc P W 0 (fun _ => true) true fuel t cs = some x) :
    ∃ A len cap, cs = [.slice A len cap] ∧ ∃ l : List Ch, RdC W W.heap.size A len cap l := by
  obtain ⟨A, len, cap, hcs, hl, hm, g, hg⟩ := open_each (α := Ch) T.ht T.ce (fun f cs => cs = [.string f.key, .string f.val, .bool f.gone]) (fun n cs x hx => by
    obtain ⟨xs, m, _, _, hl, hlen, hf⟩ := DataW.trod_struct T.he hx
    match xs, hlen with
    | [y0, y1, y2], _ =>
      have g0 := hf 0 f0 rfl
      have g1 := hf 1 f1 rfl
      have g2 := hf 2 f2 rfl
      rw [T.h0, T.o0, T.cs] at g0
      rw [T.h1, T.o1, T.cs] at g1
      rw [T.h2, T.o2, T.cb] at g2
      obtain ⟨a, ha, _⟩ := DataW.trod_string T.hs (show _ = some y0 from g0)
      obtain ⟨b, hb, _⟩ := DataW.trod_string T.hs (show _ = some y1 from g1)
      obtain ⟨c, hcc, _⟩ := DataW.trod_bool T.hb (show _ = some y2 from g2)
      rw [T.ce] at hl
      match cs, hl with
      | [u, v, z], _ =>
        simp at ha hb hcc
        exact ⟨⟨a, b, c⟩, by rw [ha, hb, hcc]⟩) h (by omega)
  refine ⟨A, len, cap, hcs, (List.range len).map g, by simp, hl, hm, fun hpos => ?_⟩
  obtain ⟨b, off, e, hb, hc⟩ := hg hpos
  refine ⟨b, off, e, hb, fun i f hif => ?_⟩
  rw [List.getElem?_map, Option.map_eq_some_iff] at hif
  obtain ⟨j, hj, rfl⟩ := hif
  obtain ⟨hjl, rfl⟩ := List.getElem?_eq_some_iff.1 hj
  rw [List.getElem_range]
  obtain ⟨cs', hcs', _, hcell⟩ := hc i (by simpa using hjl)
  rw [hcs'] at hcell
  exact ⟨hcell 0 _ rfl, hcell 1 _ rfl, hcell 2 _ rfl⟩
/-- The numbers of a type for deeds. -/
structure DeTy (P : Program) (t e ts ti tu tc : TypeId) (f0 f1 f2 f3 f4 f5 : Field) : Prop where
  ht : P.underlying t = some (.slice e)
  he : P.underlying e = some (.struct #[f0, f1, f2, f3, f4, f5])
  h0 : f0.type = ts
  h1 : f1.type = ts
  h2 : f2.type = ts
  h3 : f3.type = ti
  h4 : f4.type = tu
  h5 : f5.type = tc
  hs : P.underlying ts = some .string
  hi : P.underlying ti = some (.int .i64)
  hu : P.underlying tu = some (.int .u64)
  o0 : f0.offset = 0
  o1 : f1.offset = 1
  o2 : f2.offset = 2
  o3 : f3.offset = 3
  o4 : f4.offset = 4
  o5 : f5.offset = 5
  cs : P.cellsOf ts = 1
  ci : P.cellsOf ti = 1
  cu : P.cellsOf tu = 1
  cc : P.cellsOf tc = 1
  ce : P.cellsOf e = 6
theorem wf_i64 {n : Int} (h : (Lit.int .i64 n).wf = true) : -9223372036854775808 ≤ n ∧ n ≤ 9223372036854775807 := by
  simp [Lit.wf, IntKind.min, IntKind.max, IntKind.signed, IntKind.bits] at h
  omega
theorem wf_u64 {n : Int} (h : (Lit.int .u64 n).wf = true) : ∃ k : Nat, n = k ∧ k < 2 ^ 64 := by
  simp [Lit.wf, IntKind.min, IntKind.max, IntKind.signed, IntKind.bits] at h
  exact ⟨n.toNat, by omega, by omega⟩
theorem open_deeds {t e ts ti tu tc ec tb : TypeId} {f0 f1 f2 f3 f4 f5 c0 c1 c2 : Field} (T : DeTy P t e ts ti tu tc f0 f1 f2 f3 f4 f5) (TC : ChTy P tc ec ts tb c0 c1 c2) {A : Option Addr} {len cap : Nat} {d : DataW H} {p : List MemPlace} (h : DataW.Trod enc P W 0 (fun _ => true) true t (.slice A len cap) d p) :
    ∃ l : List De, RdD W W.heap.size A len cap l := by
  obtain ⟨fuel, hf⟩ := h
  obtain ⟨A', len', cap', hcs, hl, hm, g, hg⟩ := open_each (α := De) T.ht T.ce (fun f cs => cs = [.string f.kind, .string f.s, .string f.t, .int .i64 f.a, .int .u64 f.k, .slice f.A f.n f.c] ∧ RdC W W.heap.size f.A f.n f.c f.ch ∧ (-9223372036854775808 ≤ f.a ∧ f.a ≤ 9223372036854775807) ∧ f.k < 2 ^ 64) (fun n cs x hx => by
    obtain ⟨xs, m, _, _, hl, hlen, hf⟩ := DataW.trod_struct T.he hx
    match xs, hlen with
    | [y0, y1, y2, y3, y4, y5], _ =>
      have g0 := hf 0 f0 rfl
      have g1 := hf 1 f1 rfl
      have g2 := hf 2 f2 rfl
      have g3 := hf 3 f3 rfl
      have g4 := hf 4 f4 rfl
      have g5 := hf 5 f5 rfl
      rw [T.h0, T.o0, T.cs] at g0
      rw [T.h1, T.o1, T.cs] at g1
      rw [T.h2, T.o2, T.cs] at g2
      rw [T.h3, T.o3, T.ci] at g3
      rw [T.h4, T.o4, T.cu] at g4
      rw [T.h5, T.o5, T.cc] at g5
      obtain ⟨a, ha, _⟩ := DataW.trod_string T.hs (show _ = some y0 from g0)
      obtain ⟨b, hb, _⟩ := DataW.trod_string T.hs (show _ = some y1 from g1)
      obtain ⟨c, hc, _⟩ := DataW.trod_string T.hs (show _ = some y2 from g2)
      obtain ⟨i, hi, _, wi⟩ := DataW.trod_int T.hi (show _ = some y3 from g3)
      obtain ⟨u, hu, _, wu⟩ := DataW.trod_int T.hu (show _ = some y4 from g4)
      obtain ⟨k, rfl, hk⟩ := wf_u64 wu
      obtain ⟨A, n', c', hch, l, hl5⟩ := open_changes TC (show _ = some y5 from g5)
      rw [T.ce] at hl
      match cs, hl with
      | [v0, v1, v2, v3, v4, v5], _ =>
        simp at ha hb hc hi hu hch
        exact ⟨⟨a, b, c, i, k, A, n', c', l⟩, by rw [ha, hb, hc, hi, hu, hch], hl5, wf_i64 wi, hk⟩) hf (by omega)
  simp [Value.cells] at hcs
  obtain ⟨rfl, rfl, rfl⟩ := hcs
  refine ⟨(List.range len).map g, by simp, hl, hm, fun hpos => ?_⟩
  obtain ⟨b, off, e, hb, hc⟩ := hg hpos
  refine ⟨b, off, e, hb, fun i f hif => ?_⟩
  rw [List.getElem?_map, Option.map_eq_some_iff] at hif
  obtain ⟨j, hj, rfl⟩ := hif
  obtain ⟨hjl, rfl⟩ := List.getElem?_eq_some_iff.1 hj
  rw [List.getElem_range]
  obtain ⟨cs', ⟨hcs', h7, h8, h9⟩, _, hcell⟩ := hc i (by simpa using hjl)
  rw [hcs'] at hcell
  exact ⟨hcell 0 _ rfl, hcell 1 _ rfl, hcell 2 _ rfl, hcell 3 _ rfl, hcell 4 _ rfl, hcell 5 _ rfl, h7, h8, h9⟩
end
end Go.Proofs.Ytgkenknplepmeaa
