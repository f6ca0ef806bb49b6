/-
  WALK: (*log.Log).read on a disk that is not down: the entries of its sectors, and where the last one ends.
-/
import Derived.Test.YtgkenknplepmeaaLgC
import Derived.Test.YtgkenknplepmeaaRsA
import Derived.Test.YtgkenknplepmeaaDkR
import Derived.Deep.RegionHeld3
namespace Go.Proofs.Ytgkenknplepmeaa
open Go.RowKit Go.Sort

/-- The kind and the content of a sector. -/
def kdR (s : ByteArray) (n : Nat) : ByteArray × ByteArray := if conB s n then (s.extract 0 1, s.extract 7 (7 + szR s)) else (⟨#[]⟩, ⟨#[]⟩)
theorem conV_eq (s : ByteArray) (n : Nat) : conV s n = .tuple #[.string (kdR s n).1, .string (kdR s n).2] := by
  unfold conV kdR
  split <;> rfl
/-- The entries of sectors f i, numbered from first on; and where the last one ends. -/
def rdR (f : Nat → ByteArray) (first : Nat) : Nat → Nat → List (List Ch) → List Ch → Nat → List (List Ch) × Nat
  | 0, _, es, _, u => (es, u)
  | m + 1, i, es, cs, u =>
    if (kdR (f i) (first + i)).1.toList = [111] ∧ parB (kdR (f i) (first + i)).2 = true then rdR f first m (i + 1) es (cs ++ [parCh (kdR (f i) (first + i)).2]) u
    else if (kdR (f i) (first + i)).1.toList = [99] ∧ (kdR (f i) (first + i)).2.toList = (numR cs.length 4).toList then rdR f first m (i + 1) (es ++ [cs]) [] (i + 1)
    else (es, u)
abbrev tLog : TypeId := 123
abbrev tSl : TypeId := 36
/-- Entries in memory: each a row of changes of its own, below block M. -/
def EntR (w : World) (base M : Nat) (vs : List Value) (es : List (List Ch)) : Prop := vs.length = es.length ∧ ∀ (i : Nat) (v : Value) (e : List Ch), vs[i]? = some v → es[i]? = some e → w.ownsRow base tCh 3 v e.length (ccells e) ∧ ∀ g, v.ownBlock = some g → g < M
theorem EntR.keep {w w' : World} {base M : Nat} {vs : List Value} {es : List (List Ch)} (h : EntR w base M vs es) (hk : ∀ g cs, g < M → Blk w g tCh cs → w'.heap[g]? = w.heap[g]?) : EntR w' base M vs es :=
  ⟨h.1, fun i v e hv he => by
    obtain ⟨h1, h2⟩ := h.2 i v e hv he
    refine ⟨ownsRow_block h1 (fun g hg => ?_), h2⟩
    rcases h1.2 with ⟨rfl, _⟩ | ⟨g', cap, cur, rfl, _, hh, _⟩
    · cases hg
    · obtain rfl : g' = g := by injection hg
      exact hk g' cur (h2 g' hg) hh⟩
theorem EntR.more {w : World} {base M M' : Nat} {vs : List Value} {es : List (List Ch)} (h : EntR w base M vs es) (hM : M ≤ M') : EntR w base M' vs es := ⟨h.1, fun i v e hv he => ⟨(h.2 i v e hv he).1, fun g hg => Nat.lt_of_lt_of_le ((h.2 i v e hv he).2 g hg) hM⟩⟩
theorem EntR.snoc {w : World} {base M : Nat} {vs : List Value} {es : List (List Ch)} (h : EntR w base M vs es) {v : Value} {e : List Ch} (ho : w.ownsRow base tCh 3 v e.length (ccells e)) (hg : ∀ g, v.ownBlock = some g → g < M) : EntR w base M (vs ++ [v]) (es ++ [e]) := by
  refine ⟨by rw [List.length_append, List.length_append, h.1]; rfl, fun i v' e' hv he => ?_⟩
  rcases Nat.lt_or_ge i vs.length with hi | hi
  · rw [List.getElem?_append_left hi] at hv
    rw [List.getElem?_append_left (by rw [← h.1]; exact hi)] at he
    exact h.2 i v' e' hv he
  · rw [List.getElem?_append_right hi] at hv
    rw [List.getElem?_append_right (by rw [← h.1]; exact hi)] at he
    have hi0 : i - vs.length = 0 := by
      have := (List.getElem?_eq_some_iff.1 hv).1
      simp at this
      omega
    rw [hi0] at hv
    rw [← h.1, hi0] at he
    simp at hv he
    subst hv he
    exact ⟨ho, hg⟩
theorem EntR.one {w : World} {base M : Nat} {vs : List Value} {es : List (List Ch)} (h : EntR w base M vs es) : ∀ u ∈ vs, u.oneCell' = true := fun u hu => by
  obtain ⟨i, hi, e⟩ := List.mem_iff_getElem.1 hu
  have hv : vs[i]? = some u := by rw [List.getElem?_eq_getElem hi, e]
  have hi' : i < es.length := by rw [← h.1]; exact hi
  have he : es[i]? = some es[i] := List.getElem?_eq_getElem hi'
  obtain ⟨A, c, rfl⟩ := own_shape (h.2 i u _ hv he).1
  rfl
theorem DkAt.otherL {w w' : World} {base p B pl : Nat} {V : Nat → Value} {D : Dk} {cs0 : Array Value} (h : DkAt w base p B V D) (hpl : Blk w pl tLog cs0) (hu : Upd w w' (fun k => k = pl)) : DkAt w' base p B V D := by
  obtain ⟨cs, hb, hz⟩ := h.se
  have np : p ≠ pl := h.dk.ne hpl (by decide)
  have nB : B ≠ pl := hb.ne hpl (by decide)
  have nV : ∀ i, i < D.n → (V i).ownBlock ≠ some pl := fun i hi => own_block_ne (h.own i hi) hpl (by decide)
  exact ⟨h.hp, h.hB, (hu.block p h.ltp np).trans h.dk, ⟨cs, (hu.block B h.ltB nB).trans hb, hz⟩, fun i hi => rangeAt_block (h.row i hi) (hu.block B h.ltB nB),
    fun i hi => ownsRow_block (h.own i hi) (fun g hg => hu.block g (h.Vlt hi hg).2 (fun e => nV i hi (by rw [hg, e]))), h.sep, h.szd, h.szw, h.n1, h.n2, h.nx⟩
/-- The world in which a log is read. -/
structure LgSt (w : World) (pl p : Nat) (fr mn fi : Nat) (u : Nat) (v4 v5 : Value) (es : List (List Ch)) (cs : List Ch) (wr : World) : Prop where
  upd : Upd w wr (fun k => k = pl)
  log : Blk wr pl tLog #[ptr p, .int .i64 fr, .int .i64 mn, .int .i64 fi, .int .i64 u]
  ent : ∃ M vs, EntR wr w.heap.size M vs es ∧ wr.ownsRow w.heap.size tSl 1 v4 es.length vs ∧ wr.ownsRow M tCh 3 v5 cs.length (ccells cs) ∧ w.heap.size ≤ M ∧ M ≤ wr.heap.size
section
variable {w wr w' : World} {pl p : Nat} {fr mn fi u : Nat} {v4 v5 : Value} {es : List (List Ch)} {cs : List Ch}
theorem LgSt.start (hl : Blk w pl tLog #[ptr p, .int .i64 fr, .int .i64 mn, .int .i64 fi, .int .i64 u]) : LgSt w pl p fr mn fi u (.slice none 0 0) (.slice none 0 0) [] [] w :=
  ⟨Upd.refl _ _, hl, w.heap.size, [], ⟨rfl, fun i v e hv => by simp at hv⟩, World.ownsRow_nil _ _ _ _, World.ownsRow_nil _ _ _ _, Nat.le_refl _, Nat.le_refl _⟩
theorem LgSt.step (h : LgSt w pl p fr mn fi u v4 v5 es cs wr) (hb : Below wr.heap.size wr w') : LgSt w pl p fr mn fi u v4 v5 es cs w' := by
  obtain ⟨M, vs, h1, h2, h3, h4, h5⟩ := h.ent
  have hs := h.upd.size
  exact ⟨⟨hb.os.trans h.upd.os, hb.tape.trans h.upd.tape, hb.output.trans h.upd.output, Nat.le_trans hs hb.size, fun k hk hn => (hb.block k (by omega)).trans (h.upd.block k hk hn)⟩, (hb.block pl h.log.lt).trans h.log, M, vs, h1.keep fun g _ hg _ => hb.block g (by omega), ownsRow_block h2 fun g hg => hb.block g (h2.lt g hg).2, ownsRow_block h3 fun g hg => hb.block g (h3.lt g hg).2, h4, Nat.le_trans h5 hb.size⟩
theorem LgSt.alloc (h : LgSt w pl p fr mn fi u v4 v5 es cs wr) (o : Obj) : LgSt w pl p fr mn fi u v4 v5 es cs (wr.alloc o) := h.step ((Below.refl _ _).alloc (Nat.le_refl _) o)
theorem LgSt.drewN (h : LgSt w pl p fr mn fi u v4 v5 es cs wr) (k : Nat) : LgSt w pl p fr mn fi u v4 v5 es cs (wr.drewN k) := h.step ⟨rfl, rfl, rfl, Nat.le_refl _, fun _ _ => rfl⟩
theorem LgSt.ltlog (hl : pl < w.heap.size) (h : LgSt w pl p fr mn fi u v4 v5 es cs wr) : pl < wr.heap.size := h.log.lt
/-- A change is appended. -/
theorem LgSt.app (h : LgSt w pl p fr mn fi u v4 v5 es cs wr) (hpl : pl < w.heap.size) : ∃ M, wr.ownsRow M tCh 3 v5 cs.length (ccells cs) ∧ M ≤ wr.heap.size ∧
    ∀ (x : Ch) (v' : Value) (w' : World), w'.ownsRow M tCh 3 v' (cs.length + 1) (ccells cs ++ encC x) → wr.grownBy w' v5.ownBlock → LgSt w pl p fr mn fi u v4 v' es (cs ++ [x]) w' := by
  obtain ⟨M, vs, h1, h2, h3, h4, h5⟩ := h.ent
  refine ⟨M, h3, h5, fun x v' w' ho hg => ?_⟩
  have hs := h.upd.size
  have hrow : ∀ k, v5.ownBlock = some k → M ≤ k := fun k hk => (h3.lt k hk).1
  have hne : ∀ k, k < M → k < wr.heap.size → w'.heap[k]? = wr.heap[k]? := fun k hk hk2 => hg.block k hk2 (fun e => by have := hrow k e.symm; omega)
  have h2ne : ∀ g, v4.ownBlock = some g → v5.ownBlock ≠ some g := fun g hg4 hg5 => by
    rcases h2.2 with ⟨rfl, _⟩ | ⟨g', cap, cur, rfl, _, hh, _⟩
    · cases hg4
    · obtain rfl : g' = g := by injection hg4
      exact own_block_ne h3 hh (by decide) hg5
  refine ⟨⟨hg.os.trans h.upd.os, hg.tape.trans h.upd.tape, hg.output.trans h.upd.output, Nat.le_trans hs hg.size, fun k hk hn => (hne k (by omega) (by omega)).trans (h.upd.block k hk hn)⟩, (hne pl (by omega) h.log.lt).trans h.log, M, vs, h1.keep fun g _ hg' hb => hne g hg' hb.lt, ownsRow_block h2 fun g hg4 => hg.block g (h2.lt g hg4).2 (fun e => h2ne g hg4 e.symm), ?_, h4, Nat.le_trans h5 hg.size⟩
  rw [List.length_append, ccells_append]
  exact ho
/-- An entry is closed. -/
theorem LgSt.close (h : LgSt w pl p fr mn fi u v4 v5 es cs wr) (hpl : pl < w.heap.size) : ∃ vs, wr.ownsRow w.heap.size tSl 1 v4 es.length vs ∧ v5.oneCell' = true ∧
    ∀ (v' : Value) (w' : World), w'.ownsRow w.heap.size tSl 1 v' (es.length + 1) (vs ++ [v5]) → wr.grownBy w' v4.ownBlock → LgSt w pl p fr mn fi u v' (.slice none 0 0) (es ++ [cs]) [] w' := by
  obtain ⟨M, vs, h1, h2, h3, h4, h5⟩ := h.ent
  obtain ⟨A5, c5, e5⟩ := own_shape h3
  refine ⟨vs, h2, by rw [e5]; rfl, fun v' w' ho hg => ?_⟩
  have hs := h.upd.size
  have hrow : ∀ k, v4.ownBlock = some k → w.heap.size ≤ k := fun k hk => (h2.lt k hk).1
  have hlow : ∀ k, k < w.heap.size → w'.heap[k]? = wr.heap[k]? := fun k hk => hg.block k (by omega) (fun e => by have := hrow k e.symm; omega)
  have hch : ∀ g cs', Blk wr g tCh cs' → w'.heap[g]? = wr.heap[g]? := fun g cs' hb => hg.block g hb.lt (fun e => own_block_ne h2 hb (by decide) e.symm)
  have h3' : w'.ownsRow M tCh 3 v5 cs.length (ccells cs) := by
    refine ownsRow_block h3 fun g hg5 => ?_
    rcases h3.2 with ⟨rfl, _⟩ | ⟨g', cap, cur, rfl, _, hh, _⟩
    · cases hg5
    · obtain rfl : g' = g := by injection hg5
      exact hch g' cur hh
  refine ⟨⟨hg.os.trans h.upd.os, hg.tape.trans h.upd.tape, hg.output.trans h.upd.output, Nat.le_trans hs hg.size, fun k hk hn => (hlow k hk).trans (h.upd.block k hk hn)⟩, (hlow pl hpl).trans h.log, w'.heap.size, vs ++ [v5], ?_, ?_, World.ownsRow_nil _ _ _ _, Nat.le_trans hs hg.size, Nat.le_refl _⟩
  · have hE : EntR w' w.heap.size M vs es := h1.keep fun g cs' _ hb => hch g cs' hb
    exact (hE.more (Nat.le_trans h5 hg.size)).snoc (own_mono h3' h4) (fun g hg' => (h3'.lt g hg').2)
  · rw [List.length_append]; exact ho
/-- The end is set. -/
theorem LgSt.setU (h : LgSt w pl p fr mn fi u v4 v5 es cs wr) (u' : Nat) (hpl : pl < w.heap.size) : LgSt w pl p fr mn fi u' v4 v5 es cs (wr.setCell ⟨pl, 4, none⟩ (.int .i64 u')) := by
  obtain ⟨M, vs, h1, h2, h3, h4, h5⟩ := h.ent
  have hne : ∀ k, k ≠ pl → (wr.setCell ⟨pl, 4, none⟩ (.int .i64 u')).heap[k]? = wr.heap[k]? := fun k hk => Below.heap_setCell _ _ _ _ hk
  refine ⟨h.upd.set (.inr rfl) _, h.log.set 4 _, M, vs, h1.keep fun g cs' _ hb => hne g (hb.ne h.log (by decide)), ownsRow_block h2 fun g hg => hne g (fun e => by have := (h2.lt g hg).1; omega), ownsRow_block h3 fun g hg => hne g (fun e => by have := (h3.lt g hg).1; omega), h4, by simpa using h5⟩
end
end Go.Proofs.Ytgkenknplepmeaa
