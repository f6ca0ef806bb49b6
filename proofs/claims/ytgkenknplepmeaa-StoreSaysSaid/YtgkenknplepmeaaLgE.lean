/-
  WALK: (*log.Log).read on a disk that is not down.
-/
import Derived.Test.YtgkenknplepmeaaLgC
import Derived.Test.YtgkenknplepmeaaDkR
import Derived.Deep.RegionHeld3
namespace Go.Proofs.Ytgkenknplepmeaa
open Go.RowKit Go.Sort

/-- The kind and the content of a sector. -/
def kdR (s : ByteArray) (n : Nat) : ByteArray × ByteArray := if conB s n then (s.extract 0 1, s.extract 7 (7 + szR s)) else (⟨#[]⟩, ⟨#[]⟩)
theorem conV_eq (s : ByteArray) (n : Nat) : conV s n = .tuple #[.string (kdR s n).1, .string (kdR s n).2] := by
  unfold conV kdR
  split <;> rfl
/-- The entries of sectors f i, numbered from first on; and where the last one ends. -/
def rdR (f : Nat → ByteArray) (first : Nat) : Nat → Nat → List (List Ch) → List Ch → Nat → List (List Ch) × Nat
  | 0, _, es, _, u => (es, u)
  | m + 1, i, es, cs, u =>
    if (kdR (f i) (first + i)).1.toList = [111] ∧ parB (kdR (f i) (first + i)).2 = true then rdR f first m (i + 1) es (cs ++ [parCh (kdR (f i) (first + i)).2]) u
    else if (kdR (f i) (first + i)).1.toList = [99] ∧ (kdR (f i) (first + i)).2.toList = (numR cs.length 4).toList then rdR f first m (i + 1) (es ++ [cs]) [] (i + 1)
    else (es, u)
abbrev tLog : TypeId := 123
abbrev tSl : TypeId := 36
/-- Entries in memory: each a row of changes of its own, below block M. -/
def EntR (w : World) (base M : Nat) (vs : List Value) (es : List (List Ch)) : Prop := vs.length = es.length ∧ ∀ (i : Nat) (v : Value) (e : List Ch), vs[i]? = some v → es[i]? = some e → w.ownsRow base tCh 3 v e.length (ccells e) ∧ ∀ g, v.ownBlock = some g → g < M
theorem EntR.keep {w w' : World} {base M : Nat} {vs : List Value} {es : List (List Ch)} (h : EntR w base M vs es) (hk : ∀ g cs, g < M → Blk w g tCh cs → w'.heap[g]? = w.heap[g]?) : EntR w' base M vs es :=
  ⟨h.1, fun i v e hv he => by
    obtain ⟨h1, h2⟩ := h.2 i v e hv he
    refine ⟨ownsRow_block h1 (fun g hg => ?_), h2⟩
    rcases h1.2 with ⟨rfl, _⟩ | ⟨g', cap, cur, rfl, _, hh, _⟩
    · cases hg
    · obtain rfl : g' = g := by injection hg
      exact hk g' cur (h2 g' hg) hh⟩
theorem EntR.more {w : World} {base M M' : Nat} {vs : List Value} {es : List (List Ch)} (h : EntR w base M vs es) (hM : M ≤ M') : EntR w base M' vs es := ⟨h.1, fun i v e hv he => ⟨(h.2 i v e hv he).1, fun g hg => Nat.lt_of_lt_of_le ((h.2 i v e hv he).2 g hg) hM⟩⟩
theorem EntR.snoc {w : World} {base M : Nat} {vs : List Value} {es : List (List Ch)} (h : EntR w base M vs es) {v : Value} {e : List Ch} (ho : w.ownsRow base tCh 3 v e.length (ccells e)) (hg : ∀ g, v.ownBlock = some g → g < M) : EntR w base M (vs ++ [v]) (es ++ [e]) := by
  refine ⟨by rw [List.length_append, List.length_append, h.1]; rfl, fun i v' e' hv he => ?_⟩
  rcases Nat.lt_or_ge i vs.length with hi | hi
  · rw [List.getElem?_append_left hi] at hv
    rw [List.getElem?_append_left (by rw [← h.1]; exact hi)] at he
    exact h.2 i v' e' hv he
  · rw [List.getElem?_append_right hi] at hv
    rw [List.getElem?_append_right (by rw [← h.1]; exact hi)] at he
    have hi0 : i - vs.length = 0 := by
      have := (List.getElem?_eq_some_iff.1 hv).1
      simp at this
      omega
    rw [hi0] at hv
    rw [← h.1, hi0] at he
    simp at hv he
    subst hv he
    exact ⟨ho, hg⟩
theorem EntR.one {w : World} {base M : Nat} {vs : List Value} {es : List (List Ch)} (h : EntR w base M vs es) : ∀ u ∈ vs, u.oneCell' = true := fun u hu => by
  obtain ⟨i, hi, e⟩ := List.mem_iff_getElem.1 hu
  have hv : vs[i]? = some u := by rw [List.getElem?_eq_getElem hi, e]
  have hi' : i < es.length := by rw [← h.1]; exact hi
  have he : es[i]? = some es[i] := List.getElem?_eq_getElem hi'
  obtain ⟨A, c, rfl⟩ := own_shape (h.2 i u _ hv he).1
  rfl
theorem DkAt.otherL {w w' : World} {base p B pl : Nat} {V : Nat → Value} {D : Dk} {cs0 : Array Value} (h : DkAt w base p B V D) (hpl : Blk w pl tLog cs0) (hu : Upd w w' (fun k => k = pl)) : DkAt w' base p B V D := by
  obtain ⟨cs, hb, hz⟩ := h.se
  have np : p ≠ pl := h.dk.ne hpl (by decide)
  have nB : B ≠ pl := hb.ne hpl (by decide)
  have nV : ∀ i, i < D.n → (V i).ownBlock ≠ some pl := fun i hi => own_block_ne (h.own i hi) hpl (by decide)
  exact ⟨h.hp, h.hB, (hu.block p h.ltp np).trans h.dk, ⟨cs, (hu.block B h.ltB nB).trans hb, hz⟩, fun i hi => rangeAt_block (h.row i hi) (hu.block B h.ltB nB),
    fun i hi => ownsRow_block (h.own i hi) (fun g hg => hu.block g (h.Vlt hi hg).2 (fun e => nV i hi (by rw [hg, e]))), h.sep, h.szd, h.szw, h.n1, h.n2, h.nx⟩
/-- The world in which a log is read. -/
structure LgSt (w : World) (pl p : Nat) (fr mn fi : Nat) (u : Nat) (v4 v5 : Value) (es : List (List Ch)) (cs : List Ch) (wr : World) : Prop where
  upd : Upd w wr (fun k => k = pl)
  log : Blk wr pl tLog #[ptr p, .int .i64 fr, .int .i64 mn, .int .i64 fi, .int .i64 u]
  ent : ∃ M vs, EntR wr w.heap.size M vs es ∧ wr.ownsRow w.heap.size tSl 1 v4 es.length vs ∧ wr.ownsRow M tCh 3 v5 cs.length (ccells cs) ∧ w.heap.size ≤ M ∧ M ≤ wr.heap.size
section
variable {w wr w' : World} {pl p : Nat} {fr mn fi u : Nat} {v4 v5 : Value} {es : List (List Ch)} {cs : List Ch}
theorem LgSt.start (hl : Blk w pl tLog #[ptr p, .int .i64 fr, .int .i64 mn, .int .i64 fi, .int .i64 u]) : LgSt w pl p fr mn fi u (.slice none 0 0) (.slice none 0 0) [] [] w :=
  ⟨Upd.refl _ _, hl, w.heap.size, [], ⟨rfl, fun i v e hv => by simp at hv⟩, World.ownsRow_nil _ _ _ _, World.ownsRow_nil _ _ _ _, Nat.le_refl _, Nat.le_refl _⟩
theorem LgSt.step (h : LgSt w pl p fr mn fi u v4 v5 es cs wr) (hb : Below wr.heap.size wr w') : LgSt w pl p fr mn fi u v4 v5 es cs w' := by
  obtain ⟨M, vs, h1, h2, h3, h4, h5⟩ := h.ent
  have hs := h.upd.size
  exact ⟨⟨hb.os.trans h.upd.os, hb.tape.trans h.upd.tape, hb.output.trans h.upd.output, Nat.le_trans hs hb.size, fun k hk hn => (hb.block k (by omega)).trans (h.upd.block k hk hn)⟩, (hb.block pl h.log.lt).trans h.log, M, vs, h1.keep fun g _ hg _ => hb.block g (by omega), ownsRow_block h2 fun g hg => hb.block g (h2.lt g hg).2, ownsRow_block h3 fun g hg => hb.block g (h3.lt g hg).2, h4, Nat.le_trans h5 hb.size⟩
theorem LgSt.alloc (h : LgSt w pl p fr mn fi u v4 v5 es cs wr) (o : Obj) : LgSt w pl p fr mn fi u v4 v5 es cs (wr.alloc o) := h.step ((Below.refl _ _).alloc (Nat.le_refl _) o)
theorem LgSt.drewN (h : LgSt w pl p fr mn fi u v4 v5 es cs wr) (k : Nat) : LgSt w pl p fr mn fi u v4 v5 es cs (wr.drewN k) := h.step ⟨rfl, rfl, rfl, Nat.le_refl _, fun _ _ => rfl⟩
theorem LgSt.ltlog (hl : pl < w.heap.size) (h : LgSt w pl p fr mn fi u v4 v5 es cs wr) : pl < wr.heap.size := h.log.lt
/-- A change is appended. -/
theorem LgSt.app (h : LgSt w pl p fr mn fi u v4 v5 es cs wr) (hpl : pl < w.heap.size) : ∃ M, wr.ownsRow M tCh 3 v5 cs.length (ccells cs) ∧ M ≤ wr.heap.size ∧
    ∀ (x : Ch) (v' : Value) (w' : World), w'.ownsRow M tCh 3 v' (cs.length + 1) (ccells cs ++ encC x) → wr.grownBy w' v5.ownBlock → LgSt w pl p fr mn fi u v4 v' es (cs ++ [x]) w' := by
  obtain ⟨M, vs, h1, h2, h3, h4, h5⟩ := h.ent
  refine ⟨M, h3, h5, fun x v' w' ho hg => ?_⟩
  have hs := h.upd.size
  have hrow : ∀ k, v5.ownBlock = some k → M ≤ k := fun k hk => (h3.lt k hk).1
  have hne : ∀ k, k < M → k < wr.heap.size → w'.heap[k]? = wr.heap[k]? := fun k hk hk2 => hg.block k hk2 (fun e => by have := hrow k e.symm; omega)
  have h2ne : ∀ g, v4.ownBlock = some g → v5.ownBlock ≠ some g := fun g hg4 hg5 => by
    rcases h2.2 with ⟨rfl, _⟩ | ⟨g', cap, cur, rfl, _, hh, _⟩
    · cases hg4
    · obtain rfl : g' = g := by injection hg4
      exact own_block_ne h3 hh (by decide) hg5
  refine ⟨⟨hg.os.trans h.upd.os, hg.tape.trans h.upd.tape, hg.output.trans h.upd.output, Nat.le_trans hs hg.size, fun k hk hn => (hne k (by omega) (by omega)).trans (h.upd.block k hk hn)⟩, (hne pl (by omega) h.log.lt).trans h.log, M, vs, h1.keep fun g _ hg' hb => hne g hg' hb.lt, ownsRow_block h2 fun g hg4 => hg.block g (h2.lt g hg4).2 (fun e => h2ne g hg4 e.symm), ?_, h4, Nat.le_trans h5 hg.size⟩
  rw [List.length_append, ccells_append]
  exact ho
/-- An entry is closed. -/
theorem LgSt.close (h : LgSt w pl p fr mn fi u v4 v5 es cs wr) (hpl : pl < w.heap.size) : ∃ vs, wr.ownsRow w.heap.size tSl 1 v4 es.length vs ∧ v5.oneCell' = true ∧
    ∀ (v' : Value) (w' : World), w'.ownsRow w.heap.size tSl 1 v' (es.length + 1) (vs ++ [v5]) → wr.grownBy w' v4.ownBlock → LgSt w pl p fr mn fi u v' (.slice none 0 0) (es ++ [cs]) [] w' := by
  obtain ⟨M, vs, h1, h2, h3, h4, h5⟩ := h.ent
  obtain ⟨A5, c5, e5⟩ := own_shape h3
  refine ⟨vs, h2, by rw [e5]; rfl, fun v' w' ho hg => ?_⟩
  have hs := h.upd.size
  have hrow : ∀ k, v4.ownBlock = some k → w.heap.size ≤ k := fun k hk => (h2.lt k hk).1
  have hlow : ∀ k, k < w.heap.size → w'.heap[k]? = wr.heap[k]? := fun k hk => hg.block k (by omega) (fun e => by have := hrow k e.symm; omega)
  have hch : ∀ g cs', Blk wr g tCh cs' → w'.heap[g]? = wr.heap[g]? := fun g cs' hb => hg.block g hb.lt (fun e => own_block_ne h2 hb (by decide) e.symm)
  have h3' : w'.ownsRow M tCh 3 v5 cs.length (ccells cs) := by
    refine ownsRow_block h3 fun g hg5 => ?_
    rcases h3.2 with ⟨rfl, _⟩ | ⟨g', cap, cur, rfl, _, hh, _⟩
    · cases hg5
    · obtain rfl : g' = g := by injection hg5
      exact hch g' cur hh
  refine ⟨⟨hg.os.trans h.upd.os, hg.tape.trans h.upd.tape, hg.output.trans h.upd.output, Nat.le_trans hs hg.size, fun k hk hn => (hlow k hk).trans (h.upd.block k hk hn)⟩, (hlow pl hpl).trans h.log, w'.heap.size, vs ++ [v5], ?_, ?_, World.ownsRow_nil _ _ _ _, Nat.le_trans hs hg.size, Nat.le_refl _⟩
  · have hE : EntR w' w.heap.size M vs es := h1.keep fun g cs' _ hb => hch g cs' hb
    exact (hE.more (Nat.le_trans h5 hg.size)).snoc (own_mono h3' h4) (fun g hg' => (h3'.lt g hg').2)
  · rw [List.length_append]; exact ho
/-- The end is set. -/
theorem LgSt.setU (h : LgSt w pl p fr mn fi u v4 v5 es cs wr) (u' : Nat) (hpl : pl < w.heap.size) : LgSt w pl p fr mn fi u' v4 v5 es cs (wr.setCell ⟨pl, 4, none⟩ (.int .i64 u')) := by
  obtain ⟨M, vs, h1, h2, h3, h4, h5⟩ := h.ent
  have hne : ∀ k, k ≠ pl → (wr.setCell ⟨pl, 4, none⟩ (.int .i64 u')).heap[k]? = wr.heap[k]? := fun k hk => Below.heap_setCell _ _ _ _ hk
  refine ⟨h.upd.set (.inr rfl) _, h.log.set 4 _, M, vs, h1.keep fun g cs' _ hb => hne g (hb.ne h.log (by decide)), ownsRow_block h2 fun g hg => hne g (fun e => by have := (h2.lt g hg).1; omega), ownsRow_block h3 fun g hg => hne g (fun e => by have := (h3.lt g hg).1; omega), h4, by simpa using h5⟩
end
end Go.Proofs.Ytgkenknplepmeaa
namespace Go.Proofs.Ytgkenknplepmeaa
open Go.RowKit Go.Sort

theorem nowB_size {w : World} {base p B : Nat} {V : Nat → Value} {D : Dk} (h : DkAt w base p B V D) {i : Nat} (hi : i < D.n) : (nowB (D.sec i)).size = 340 := by
  unfold nowB
  split
  · rename_i x hx
    exact (h.szw i hi x (List.mem_of_getLast? hx)).1
  · exact h.szd i hi
theorem readR_up {D : Dk} (hd : D.down = false) {n : Nat} (hn : n < D.n) : readR D (n : Int) = (nowB (D.sec n), 0) := by
  unfold readR hasR
  rw [if_neg (by rw [hd]; decide), if_pos (by simp; omega)]
  simp
theorem slice_info : ∃ i, Try.prog.info? tSl = some i ∧ i.zero = some (.slice none 0 0) ∧ i.size = 1 ∧ i.bytes = 24 := by
  have h : (Try.prog.info? tSl).map (fun i => (i.zero, i.size, i.bytes)) = some (some (.slice none 0 0), 1, 24) := by kernel_rfl
  cases e : Try.prog.info? tSl with
  | none => rw [e] at h; cases h
  | some i =>
    rw [e] at h
    simp only [Option.map_some, Option.some.injEq, Prod.mk.injEq] at h
    exact ⟨i, rfl, h.1, h.2.1, h.2.2⟩
def RdRel (w : World) (pl p fr mn fi : Nat) (f : Nat → ByteArray) (u : Nat) (v4 v5 vi : Value) (wr : World) : Prop := ∃ (k uk : Nat) (es : List (List Ch)) (cs : List Ch), k ≤ mn ∧ vi = .int .i64 k ∧ cs.length ≤ k ∧ es.length ≤ k ∧ uk ≤ mn + u ∧ LgSt w pl p fr mn fi uk v4 v5 es cs wr ∧ rdR f fi (mn - k) k es cs uk = rdR f fi mn 0 [] [] u
def RdPost (w : World) (pl p fr mn fi : Nat) (f : Nat → ByteArray) (u : Nat) (e : Ending) (w' : World) : Prop := ∃ v v5 cs, e = .returned (.tuple #[v, .nilIface]) ∧ LgSt w pl p fr mn fi (rdR f fi mn 0 [] [] u).2 v v5 (rdR f fi mn 0 [] [] u).1 cs w'
set_option maxHeartbeats 400000 in
set_option maxRecDepth 100000 in
theorem logRead_any (pl base p B fr mn fi u : Nat) (V : Nat → Value) (D : Dk) (w : World) (hl : Blk w pl tLog #[ptr p, .int .i64 fr, .int .i64 mn, .int .i64 fi, .int .i64 u]) (hd : DkAt w base p B V D) (hdn : D.down = false) (hfr : fr + mn ≤ D.n) (hfi : fi ≤ 1000000000000) (hu : u ≤ 1000000) :
    Calls Try.prog 75 #[ptr pl] w (RdPost w pl p fr mn fi (fun i => nowB (D.sec (fr + i))) u) := by
  obtain ⟨ti, hti, htz, hts, htb⟩ := change_parts
  have HI := Lib.hid hti
  have HZ := Lib.hid htz
  have HS := Lib.hid hts
  have HB := Lib.hid htb
  obtain ⟨si, hsi, hsz, hss, hsb⟩ := slice_info
  have SI := Lib.hid hsi
  have SZ := Lib.hid hsz
  have SS := Lib.hid hss
  have SB := Lib.hid hsb
  clear hti htz hts htb hsi hsz hss hsb
  have hn120 := hd.n2
  have HL := Lib.hid hl
  have HD := Lib.hid hd
  have hpl := hl.lt
  have HSZ := Lib.hid (fun k (hk : k < mn) => nowB_size hd (show fr + k < D.n by omega))
  have HRR := Lib.hid (fun k (hk : k < mn) => readR_up hdn (show fr + k < D.n by omega))
  have HST := Lib.hid (LgSt.start hl)
  have c2 := hl.cell 2
  clear hl hd hdn
  obtain ⟨f, hf⟩ : ∃ f, f = fun i => nowB (D.sec (fr + i)) := ⟨_, rfl⟩
  have HF := Lib.hid (fun i => (show f i = nowB (D.sec (fr + i)) by rw [hf]))
  rw [← hf]
  clear hf
  unfold ptr at *
  go_enter Try.func75, Try.ntmps75
  go_wp2
  clear c2
  go_loopw [4, 5, 17] (fun v4 v5 vi wr => RdRel w pl p fr mn fi f u v4 v5 vi wr) (fun _ _ vi _ => mn - (intOf vi).toNat)
  case atStart => exact ⟨0, u, [], [], Nat.zero_le _, rfl, Nat.le_refl _, Nat.le_refl _, by omega, HST.out, rfl⟩
  case round =>
    clear HST
    obtain ⟨k, uk, es, cs, hk, rfl, hcs, hes, huk, hst, hrd⟩ := hrel
    have H1 := Lib.hid hst
    have HRD := Lib.hid hrd
    obtain ⟨M0, vs0, _, h40, h50, _, _⟩ := hst.ent
    obtain ⟨A5, c5, e5⟩ := own_shape h50
    subst e5
    clear hrd h40 h50 hst
    by_cases hlt : k < mn
    · have hsz := HSZ.out k hlt
      rw [← HF.out k] at hsz
      have hread := fun (W : World) (hW : Upd w W (fun k => k = pl)) => read_any base p B V D ((fr + k : Nat) : Int) W (HD.out.otherL HL.out hW)
      simp only [HRR.out k hlt, ← HF.out k] at hread
      have hstep : mn - k = (mn - (k + 1)) + 1 := by omega
      have hrd2 := HRD.out
      rw [hstep, rdR] at hrd2
      have HR2 := Lib.hid hrd2
      clear hrd2 hstep HRD
      simp only [show erV 0 = .nilIface from rfl, show ((fr + k : Nat) : Int) = (fr : Int) + (k : Int) by omega] at hread
      unfold ptr at hread
      have HREAD := Lib.hid hread
      have HCON := Lib.hid (fun W => content_any (f k) (fi + k) W hsz (by omega))
      clear hread
      obtain ⟨s, hs⟩ : ∃ s, s = f k := ⟨_, rfl⟩
      simp only [← hs] at HREAD HCON HR2 hsz
      clear hs
      simp only [conV_eq] at HCON
      simp only [show ((fi + k : Nat) : Int) = (fi : Int) + (k : Int) by omega] at HCON
      have hk2 : (kdR s (fi + k)).2.size ≤ 1000000 := by
        unfold kdR
        split
        · show (s.extract 7 _).size ≤ 1000000
          rw [ByteArray.size_extract]; omega
        · show (0 : Nat) ≤ 1000000; omega
      generalize hkd1 : (kdR s (fi + k)).1 = kd1 at *
      generalize hkd2 : (kdR s (fi + k)).2 = kd2 at *
      clear hkd1 hkd2 hsz
      have HPA := Lib.hid (fun W => parse_any kd2 W hk2)
      simp only [parV_eq] at HPA
      generalize hp9 : parCh kd2 = p9 at *
      clear hp9
      have kz : (k : Int) < (mn : Int) := by omega
      have hud : Upd w wr.drew (fun k => k = pl) := (H1.out.drewN 1).upd
      have HUD := Lib.hid hud
      clear hud
      have wz : IntKind.i64.wrap ((fr : Int) + (k : Int)) = (fr : Int) + (k : Int) := by rw [IntKind.wrap_i64]; omega
      have g0 := H1.out.log.cell 0
      have g1 := H1.out.log.cell 1
      have g3 := H1.out.log.cell 3
      go_wp2_with fail
      go_region_held3 (fun w' => w'.cell? ⟨pl, 0, none⟩ = some (.pointer (some ⟨p, 0, none⟩)) ∧ w'.cell? ⟨pl, 1, none⟩ = some (.int .i64 fr))
        (first | exact ⟨g0, g1⟩ | exact ⟨H2.out.log.cell 0, H2.out.log.cell 1⟩)
        (first | (go_at_call 20; (with_reducible refine (HREAD.out wr.drew HUD.out).mono ?_); rintro e w2 ⟨rfl, hb2⟩; have H2 := Lib.hid ((H1.out.drewN 1).step hb2); clear hb2))
      clear g0 g1 g3 HREAD HUD H1 wz
      have g3 := H2.out.log.cell 3
      go_wp2_with fail
      refine (HCON.out _).mono ?_
      rintro e w3 ⟨rfl, hg3⟩
      have H3 := Lib.hid (H2.out.step hg3.below)
      clear g3 hg3 H2 HCON
      go_wp2_with fail
      refine (HPA.out _).mono ?_
      rintro e w4 ⟨rfl, hb4⟩
      have H4 := Lib.hid (H3.out.step hb4)
      clear hb4 H3 HPA
      have H5 := Lib.hid (H4.out.alloc (.cells #[.string p9.key, .string p9.val, .bool p9.gone] tCh))
      have hx := StC.new w4 p9.key p9.val p9.gone tCh
      have x0 := hx.c0
      have x1 := hx.c1
      have x2 := hx.c2
      have HCNT := Lib.hid (fun W => count_any cs.length W (by omega))
      clear hx
      have HRX1 : Hid (RdX ((w4.alloc (.cells #[.string p9.key, .string p9.val, .bool p9.gone] tCh)).alloc (.cells #[.string p9.key, .string p9.val, .bool p9.gone] tCh)) 3 (some ⟨w4.heap.size + 1, 0, none⟩) 1 (encC p9)) := by
        have h := rdx_up (w4.alloc (.cells #[.string p9.key, .string p9.val, .bool p9.gone] tCh)) p9
        rw [show (w4.alloc (.cells #[.string p9.key, .string p9.val, .bool p9.gone] tCh)).heap.size = w4.heap.size + 1 by simp] at h
        exact h
      clear H4
      by_cases ho : kd1.toList = [111]
      · have hob : (kd1.toList == [111]) = true := by rw [ho]; rfl
        have hcn : ¬ kd1.toList = [99] := fun e => by rw [e] at ho; cases ho
        have hcb : (kd1.toList == [99]) = false := by rw [ho]; rfl
        by_cases hpb : parB kd2 = true
        · have hpn : parN kd2 = 0 := by unfold parN; rw [if_pos hpb]
          rw [hpn, show erV 0 = .nilIface from rfl]
          have hrd3 := HR2.out
          rw [if_pos ⟨ho, hpb⟩] at hrd3
          have HR3 := Lib.hid hrd3
          obtain ⟨M, ho5, hM5, happ⟩ := (H5.out.alloc (.cells #[.string p9.key, .string p9.val, .bool p9.gone] tCh)).app hpl
          have HO5 := Lib.hid ho5
          have HM5 := Lib.hid hM5
          have HAPP := Lib.hid happ
          clear hrd3 HR2 hpn ho5 hM5 happ
          go_wp2_with (at_builtin; refine wpList_append_rd _ rfl (.tmp 61) (.tmp 63) _ rfl M tCh ti _ 3 40 Try.underlying36 HI.out HZ.out HS.out HB.out rfl (by omega) _ _ _ rfl HO5.out _ 1 1 _ rfl HRX1.out ?_ ?_ ?_ ?_)
          · unfold maxLen; omega
          · omega
          · exact HM5.out
          intro v6 w6 hown6 hg6 _
          have H6 := Lib.hid (HAPP.out p9 v6 w6 hown6 hg6)
          clear hown6 hg6 HAPP HO5 HM5
          go_wp2
          go_roundw
          case rel => exact ⟨k + 1, uk, es, cs ++ [p9], by omega, by go_num, by rw [List.length_append]; simp; omega, by omega, huk, H6.out, HR3.out⟩
          case measure => simp [intOf]; omega
        · have hpn : parN kd2 = 4 := by unfold parN; rw [if_neg hpb]
          rw [hpn, show erV 4 = .iface 96 (.int .i64 4) from rfl]
          clear hpn
          have hrd3 := HR2.out
          rw [if_neg (fun h => hpb h.2), if_neg (fun h => hcn h.1)] at hrd3
          have HR3 := Lib.hid hrd3
          clear hrd3 HR2
          go_wp2
          go_ret2
          exact ⟨_, _, cs, rfl, by rw [← HR3.out]; exact H5.out⟩
      · have hob : (kd1.toList == [111]) = false := by rw [beq_eq_false_iff_ne]; exact ho
        generalize erV (parN kd2) = E9 at *
        by_cases hc : kd1.toList = [99]
        · have hcb : (kd1.toList == [99]) = true := by rw [hc]; rfl
          by_cases hd : kd2.toList = (numR cs.length 4).toList
          · have hdb : (kd2.toList == (numR cs.length 4).toList) = true := by rw [hd]; simp
            have hrd3 := HR2.out
            rw [if_neg (fun h => ho h.1), if_pos ⟨hc, hd⟩] at hrd3
            have HR3 := Lib.hid hrd3
            clear hrd3 HR2
            go_wp2_with fail
            refine (HCNT.out _).mono ?_
            rintro e w6 ⟨rfl, hg6⟩
            have H6 := Lib.hid (H5.out.step hg6.below)
            clear hg6 H5 HCNT
            obtain ⟨vs, ho4, hone, hcl⟩ := (H6.out.alloc (.cells #[.slice A5 cs.length c5] tSl)).close hpl
            have HO4 := Lib.hid ho4
            have HCL := Lib.hid hcl
            have HRX := Lib.hid (RdX.new w6 1 #[.slice A5 cs.length c5] tSl rfl (fun v hv => by simp at hv; subst hv; rfl))
            have HSZ6 := Lib.hid (H6.out.alloc (.cells #[.slice A5 cs.length c5] tSl)).upd.size
            clear ho4 hone hcl
            go_wp2_with (at_builtin; refine wpList_append_rd _ rfl (.tmp 75) (.tmp 77) _ rfl w.heap.size tSl si _ 1 24 Try.underlying69 SI.out SZ.out SS.out SB.out rfl (by omega) _ _ _ rfl HO4.out _ 1 1 _ rfl HRX.out ?_ ?_ ?_ ?_)
            · unfold maxLen; omega
            · omega
            · exact HSZ6.out
            intro v7 w7 hown7 hg7 _
            have H7 := Lib.hid (HCL.out v7 w7 hown7 hg7)
            clear hown7 hg7 HCL HO4 HRX HSZ6
            have y4 := H7.out.log.cell 4
            have f4 := H7.out.log.free 4
            have H8 := Lib.hid (H7.out.setU (k + 1) hpl)
            rw [show ((k + 1 : Nat) : Int) = (k : Int) + 1 by omega] at H8
            go_wp2
            go_roundw
            case rel => exact ⟨k + 1, k + 1, es ++ [cs], [], by omega, by go_num, by simp, by rw [List.length_append]; simp; omega, by omega, H8.out, HR3.out⟩
            case measure => simp [intOf]; omega
          · have hdb : (kd2.toList == (numR cs.length 4).toList) = false := by rw [beq_eq_false_iff_ne]; exact hd
            have hrd3 := HR2.out
            rw [if_neg (fun h => ho h.1), if_neg (fun h => hd h.2)] at hrd3
            have HR3 := Lib.hid hrd3
            clear hrd3 HR2
            go_wp2_with fail
            refine (HCNT.out _).mono ?_
            rintro e w6 ⟨rfl, hg6⟩
            have H6 := Lib.hid (H5.out.step hg6.below)
            clear hg6
            go_wp2
            go_ret2
            exact ⟨_, _, cs, rfl, by rw [← HR3.out]; exact H6.out⟩
        · have hcb : (kd1.toList == [99]) = false := by rw [beq_eq_false_iff_ne]; exact hc
          have hrd3 := HR2.out
          rw [if_neg (fun h => ho h.1), if_neg (fun h => hc h.1)] at hrd3
          have HR3 := Lib.hid hrd3
          clear hrd3 HR2
          go_wp2
          go_ret2
          exact ⟨_, _, cs, rfl, by rw [← HR3.out]; exact H5.out⟩
    · obtain rfl : k = mn := by omega
      have hrd3 := HRD.out
      rw [Nat.sub_self, rdR] at hrd3
      go_wp2
      go_ret2
      exact ⟨_, _, cs, rfl, by rw [← hrd3]; exact H1.out⟩
end Go.Proofs.Ytgkenknplepmeaa
