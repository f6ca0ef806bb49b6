/-
  WALK: hammerpondlaw.Stored at 60 sectors; hammerpondlaw.stores.
-/
import Derived.Test.YtgkenknplepmeaaSqA
import Derived.Test.YtgkenknplepmeaaLgR
import Derived.Test.YtgkenknplepmeaaSpA
namespace Go.Proofs.Ytgkenknplepmeaa
open Go.RowKit Go.Sort

/-- What a commit comes to. -/
inductive CmO (n u : Nat) (rows l : List Ch) : Int → Nat → List Ch → Prop
  | pre : preR l ≠ 0 → CmO n u rows l (preR l) u rows
  | full (r : List Ch) : preR l = 0 → ApplyOf (rows ++ l) r → fullB n r l = true → CmO n u rows l 10 u rows
  | ok (r : List Ch) : preR l = 0 → ApplyOf (rows ++ l) r → fullB n r l = false → CmO n u rows l 0 (usedR n u l.length) r
theorem CmO.one {n u : Nat} {rows l r1 r2 : List Ch} {e1 e2 : Int} {u1 u2 : Nat} (h : CmO n u rows l e1 u1 r1) (k : CmO n u rows l e2 u2 r2) : e2 = e1 ∧ u2 = u1 ∧ r2 = r1 := by
  cases h with
  | pre h1 => cases k with
    | pre k1 => exact ⟨rfl, rfl, rfl⟩
    | full r k1 k2 k3 => exact absurd k1 h1
    | ok r k1 k2 k3 => exact absurd k1 h1
  | full r h1 h2 h3 => cases k with
    | pre k1 => exact absurd h1 k1
    | full r' k1 k2 k3 => exact ⟨rfl, rfl, rfl⟩
    | ok r' k1 k2 k3 =>
      have := h2.unique k2 (fun _ => rfl)
      rw [this, k3] at h3; cases h3
  | ok r h1 h2 h3 => cases k with
    | pre k1 => exact absurd h1 k1
    | full r' k1 k2 k3 =>
      have := h2.unique k2 (fun _ => rfl)
      rw [this, k3] at h3; cases h3
    | ok r' k1 k2 k3 => exact ⟨rfl, rfl, (h2.unique k2 (fun _ => rfl)).symm⟩
theorem pre_pos {l : List Ch} : preR l = 0 ∨ 0 < preR l := by
  unfold preR fvR
  split
  · exact .inr (by omega)
  · split
    · rename_i c _
      rcases ckR_cases c with h | h | h <;> omega
    · exact .inl rfl
theorem pre_ok {l : List Ch} (h : preR l = 0) : l.length ≤ 40 ∧ ∀ c ∈ l, ckR c = 0 := by
  unfold preR at h
  split at h
  · omega
  · rename_i h40
    refine ⟨by omega, fun c hc => ?_⟩
    unfold fvR at h
    split at h
    · rename_i d hd
      have := List.find?_some hd
      simp at this
      exact absurd h this
    · rename_i hd
      have := List.find?_eq_none.1 hd c hc
      simpa using this
theorem CmO.pos {n u : Nat} {rows l r' : List Ch} {e : Int} {u' : Nat} (h : CmO n u rows l e u' r') : e = 0 ∨ 0 < e := by
  cases h with
  | pre h1 => exact pre_pos
  | full r h1 h2 h3 => exact .inr (by omega)
  | ok r h1 h2 h3 => exact .inl rfl
theorem CmO.good {n u : Nat} {rows l r' : List Ch} {e : Int} {u' : Nat} (h : CmO n u rows l e u' r') (hok : RowsOk rows) (hf : tmB rows = false) (hu : u ≤ n - 44) : RowsOk r' ∧ tmB r' = false ∧ u' ≤ n - 44 := by
  cases h with
  | pre h1 => exact ⟨hok, hf, hu⟩
  | full r h1 h2 h3 => exact ⟨hok, hf, hu⟩
  | ok r h1 h2 h3 =>
    unfold fullB at h3
    rw [Bool.or_eq_false_iff, decide_eq_false_iff_not] at h3
    refine ⟨h2.ok (fun x hx => ?_), h3.1, ?_⟩
    · rcases List.mem_append.1 hx with h | h
      · exact hok.ck x h
      · exact (pre_ok h1).2 x h
    · unfold usedR
      have := h3.2
      split <;> omega

theorem Fr.of_tq {base : Nat} {w w' : World} (hb : Below base w w') (ht : Tq w w') : Fr base w w' :=
  ⟨hb.size, fun k hk => hb.block k hk, fun k cs hk => ht k tCh cs hk (by decide) (by decide) (by decide) (by decide) (by decide), fun k cs hk => ht k tSl cs hk (by decide) (by decide) (by decide) (by decide) (by decide)⟩
theorem Fr.of_q {base q : Nat} {w w' : World} {cs0 : Array Value} (h : Upd w w' (fun k => k = q)) (hl : Blk w q tSr cs0) (hb : base ≤ q) : Fr base w w' :=
  ⟨h.size, fun k hk => h.block k (by have := hl.lt; omega) (by omega), fun k cs hk => (h.block k hk.lt (hk.ne hl (by decide))).trans hk, fun k cs hk => (h.block k hk.lt (hk.ne hl (by decide))).trans hk⟩
theorem DkAt.nq {w w' : World} {base p B : Nat} {V : Nat → Value} {D : Dk} (h : DkAt w base p B V D) (hk : ∀ g t cs, Blk w g t cs → t ≠ tSr → Blk w' g t cs) : DkAt w' base p B V D := by
  obtain ⟨cs, hb, hz⟩ := h.se
  have hb' := hk _ _ _ hb (by decide)
  refine ⟨h.hp, h.hB, hk _ _ _ h.dk (by decide), ⟨cs, hb', hz⟩, fun i hi => rangeAt_block (h.row i hi) (show w'.heap[B]? = w.heap[B]? from hb'.trans hb.symm), fun i hi => ?_, h.sep, h.szd, h.szw, h.n1, h.n2, h.nx⟩
  have ho := h.own i hi
  refine ⟨ho.1, ?_⟩
  rcases ho.2 with h2 | ⟨g, cap, cur, e, h3, h4, h5⟩
  · exact .inl h2
  · exact .inr ⟨g, cap, cur, e, h3, hk _ _ _ h4 (by decide), h5⟩
theorem StR.nq {w w' : World} {base p B ps n u F c q : Nat} {A : Option Addr} {ro rows : List Ch} {cs0 : Array Value} (h : StR w base p B ps n u F A c ro rows) (hu : Upd w w' (fun k => k = q)) (hl : Blk w q tSr cs0) (hq : base ≤ q) : StR w' base p B ps n u F A c ro rows := by
  obtain ⟨a, fi, pl, D, V, rows0, es, h1, h2, h3, h4, h5, h6, h7, h8, h9, h10⟩ := h
  have hk : ∀ g t cs, Blk w g t cs → t ≠ tSr → Blk w' g t cs := fun g t cs hb ht => (hu.block g hb.lt (hb.ne hl ht)).trans hb
  exact ⟨a, fi, pl, D, V, rows0, es, hk _ _ _ h1 (by decide), hk _ _ _ h2 (by decide), h3, h4.keep (Fr.of_q hu hl hq), h5.nq hk, h6, h7, h8, h9, h10⟩
/-- Both stores, behind w0. -/
structure Sx (w0 : World) (base p B q n F ps uP uQ : Nat) (rP rQ : List Ch) (w : World) : Prop where
  st : ∃ A c, StR w base p B ps n uP F A c rP rP
  rf : ∃ A c, Blk w q tSr #[.slice A rQ.length c, .int .i64 uQ, .int .i64 (n - 44 : Nat)] ∧ KpC w base A rQ.length c rQ
  bel : Below base w0 w
  bq : base ≤ q
section
variable {w0 w w' : World} {base p B q n F ps u uP uQ : Nat} {rows rP rQ l : List Ch}
theorem Sx.bw (h : Sx w0 base p B q n F ps uP uQ rP rQ w) : base ≤ w.heap.size := by
  obtain ⟨A, c, hs⟩ := h.st
  exact hs.room.choose_spec.2.2.2.2.1
theorem Sx.below (h : Sx w0 base p B q n F ps uP uQ rP rQ w) (hb : Below w.heap.size w w') : Sx w0 base p B q n F ps uP uQ rP rQ w' := by
  have hbw := h.bw
  obtain ⟨A, c, hs⟩ := h.st
  obtain ⟨A', c', h1, h2⟩ := h.rf
  exact ⟨⟨A, c, hs.heap hb⟩, ⟨A', c', (hb.block _ h1.lt).trans h1, h2.keep (Fr.of_below hb hbw)⟩, h.bel.trans (hb.mono hbw), h.bq⟩
theorem Sx.more {F' : Nat} (h : Sx w0 base p B q n F ps uP uQ rP rQ w) (hF : F ≤ F') : Sx w0 base p B q n F' ps uP uQ rP rQ w := by
  obtain ⟨A, c, hs⟩ := h.st
  exact ⟨⟨A, c, hs.more hF⟩, h.rf, h.bel, h.bq⟩
theorem Sx.num (h : Sx w0 base p B q n F ps uP uQ rP rQ w) : 50 ≤ n ∧ n ≤ 120 ∧ uP ≤ n - 44 := by
  obtain ⟨A, c, hs⟩ := h.st
  obtain ⟨pl, _, h1, h2, h3, _⟩ := hs.room
  exact ⟨h1, h2, h3⟩
theorem Sx.commitP (h : Sx w0 base p B q n F ps u uQ rows rQ w) (hok : RowsOk rows) (hfew : tmB rows = false) {Al : Option Addr} {nl cl : Nat} (hl : KpC w base Al nl cl l) (hs : ∀ f ∈ l, f.key.size ≤ 20 ∧ f.val.size ≤ 400) (hF : F ≤ 9000000000) (hnl : nl ≤ 1000) :
    Calls Try.prog 50 #[ptr ps, .slice Al nl cl] w fun e w' => ∃ er u' r', e = .returned (erV er) ∧ CmO n u rows l er u' r' ∧ Sx w0 base p B q n (F + 200) ps u' uQ r' rQ w' ∧ Tq w w' ∧ KpC w' base Al nl cl l := by
  obtain ⟨A, c, h1⟩ := h.st
  obtain ⟨A', c', h2, h3⟩ := h.rf
  refine (commit_any base p B ps n u F c A rows l Al nl cl w h1 hok hfew hl hs hF hnl).mono ?_
  rintro e w' ⟨hb, ht, hc⟩
  have hfr := Fr.of_tq hb ht
  have hq : Blk w' q tSr _ := ht _ _ _ h2 (by decide) (by decide) (by decide) (by decide) (by decide)
  have hl' := hl.keep hfr
  rcases hc with ⟨g1, rfl, g2⟩ | ⟨g1, r, g2, ⟨g3, rfl, g4⟩ | ⟨g3, rfl, A2, c2, g4⟩⟩
  · exact ⟨_, _, _, rfl, .pre g1, ⟨⟨A, c, g2⟩, ⟨A', c', hq, h3.keep hfr⟩, h.bel.trans hb, h.bq⟩, ht, hl'⟩
  · exact ⟨_, _, _, rfl, .full r g1 g2 g3, ⟨⟨A, c, g4⟩, ⟨A', c', hq, h3.keep hfr⟩, h.bel.trans hb, h.bq⟩, ht, hl'⟩
  · exact ⟨_, _, _, by rw [show erV 0 = .nilIface from rfl], .ok r g1 g2 g3, ⟨⟨A2, c2, g4⟩, ⟨A', c', hq, h3.keep hfr⟩, h.bel.trans hb, h.bq⟩, ht, hl'⟩
theorem below_q {cs0 : Array Value} (hb : Below base w0 w) (hu : Upd w w' (fun k => k = q)) (hl : Blk w q tSr cs0) (hq : base ≤ q) : Below base w0 w' :=
  ⟨hu.os.trans hb.os, hu.tape.trans hb.tape, hu.output.trans hb.output, Nat.le_trans hb.size hu.size, fun i hi => (hu.block i (by have := hl.lt; omega) (by omega)).trans (hb.block i hi)⟩
theorem Sx.commitQ (h : Sx w0 base p B q n F ps uP u rP rows w) (hok : RowsOk rows) (hfew : tmB rows = false) {Al : Option Addr} {nl cl : Nat} (hl : KpC w base Al nl cl l) (hs : ∀ f ∈ l, f.key.size ≤ 20 ∧ f.val.size ≤ 400) (hnl : nl ≤ 1000) (hu : u ≤ n - 44) :
    Calls Try.prog 51 #[ptr q, .slice Al nl cl] w fun e w' => ∃ er u' r', e = .returned (.int .i64 er) ∧ CmO n u rows l er u' r' ∧ Sx w0 base p B q n F ps uP u' rP r' w' ∧ ∀ g t cs, Blk w g t cs → t ≠ tSr → Blk w' g t cs := by
  have hbw := h.bw
  have hn2 := h.num.2.1
  obtain ⟨A, c, h1⟩ := h.st
  obtain ⟨A', c', h2, h3⟩ := h.rf
  refine (refCommit_any base q n u c' A' rows l Al nl cl w h2 h3 hok hfew hl hs hnl h.bq hn2 hu hbw).mono ?_
  rintro e w' ⟨hu', hc⟩
  have hst := h1.nq hu' h2 h.bq
  have hb := below_q h.bel hu' h2 h.bq
  have hk : ∀ g t cs, Blk w g t cs → t ≠ tSr → Blk w' g t cs := fun g t cs hb ht => (hu'.block g hb.lt (hb.ne h2 ht)).trans hb
  rcases hc with ⟨g1, rfl, g2, g5⟩ | ⟨g1, r, g2, ⟨g3, rfl, g4, g5⟩ | ⟨g3, rfl, A2, c2, g4, g5⟩⟩
  · exact ⟨_, _, _, rfl, .pre g1, ⟨⟨A, c, hst⟩, ⟨A', c', g2, g5⟩, hb, h.bq⟩, hk⟩
  · exact ⟨_, _, _, rfl, .full r g1 g2 g3, ⟨⟨A, c, hst⟩, ⟨A', c', g4, g5⟩, hb, h.bq⟩, hk⟩
  · exact ⟨_, _, _, rfl, .ok r g1 g2 g3, ⟨⟨A, c, hst⟩, ⟨A2, c2, g4, g5⟩, hb, h.bq⟩, hk⟩
/-- The document's Used is 0 again. -/
theorem Sx.zero (h : Sx w0 base p B q n F ps uP uQ rP rQ w) : (∃ v, w.cell? ⟨q, 1, none⟩ = some v) ∧ w.frozen? ⟨q, 1, none⟩ = false ∧ Sx w0 base p B q n F ps uP 0 rP rQ (w.setCell ⟨q, 1, none⟩ (.int .i64 0)) := by
  have hbw := h.bw
  obtain ⟨A, c, h1⟩ := h.st
  obtain ⟨A', c', h2, h3⟩ := h.rf
  have hu : Upd w (w.setCell ⟨q, 1, none⟩ (.int .i64 0)) (fun k => k = q) := (Upd.refl w (fun k => k = q)).set (b := q) (i := 1) (.inr rfl) _
  exact ⟨⟨_, h2.cell 1⟩, h2.free 1, ⟨⟨A, c, h1.nq hu h2 h.bq⟩, ⟨A', c', h2.set 1 _, h3.keep (Fr.of_q hu h2 h.bq)⟩, below_q h.bel hu h2 h.bq, h.bq⟩⟩
theorem Sx.saveP (h : Sx w0 base p B q n F ps u uQ rows rQ w) (hok : RowsOk rows) (hfew : tmB rows = false) (hF : F ≤ 9000000000) :
    Calls Try.prog 52 #[ptr ps] w fun e w' => e = .returned .nilIface ∧ Sx w0 base p B q n (F + 200) ps 0 uQ rows rQ w' ∧ Tq w w' := by
  obtain ⟨A, c, h1⟩ := h.st
  obtain ⟨A', c', h2, h3⟩ := h.rf
  refine (h1.save hok hfew hF).mono ?_
  rintro e w' ⟨rfl, g1, hb, hfr, ht⟩
  exact ⟨rfl, ⟨⟨A, c, g1⟩, ⟨A', c', ht _ _ _ h2 (by decide) (by decide) (by decide) (by decide) (by decide), h3.keep hfr⟩, h.bel.trans hb, h.bq⟩, ht⟩
theorem StR.open_ {A : Option Addr} {c : Nat} {ro : List Ch} (h : StR w base p B ps n u F A c ro rows) (hok : RowsOk rows) (hfew : tmB rows = false) (hF : F ≤ 9000000000) :
    Calls Try.prog 48 #[ptr p] w fun e w' => ∃ ps' A' c', e = .returned (.tuple #[ptr ps', .nilIface]) ∧ StR w' base p B ps' n u F A' c' rows rows ∧ Below w.heap.size w w' := by
  obtain ⟨a, fi, pl, D, V, rows0, es, h1, h2, h3, h4, h5, h6, h7, h8, h9, h10⟩ := h
  subst h7
  have hbw : base ≤ w.heap.size := Nat.le_trans h5.hp (Nat.le_of_lt h5.ltp)
  refine (open_st base p B a fi u V D rows0 rows es w h5 h6 h8 hfew (fun f hf => by have := ckR_key (hok.ck f hf); omega) (by omega)).mono ?_
  rintro e w' ⟨ps', pl', A', c', rfl, g1, g2, g3, g4, g5, hb⟩
  exact ⟨ps', A', c', rfl, ⟨a, fi, pl', D, V, rows0, es, g1, g2, by omega, g3, h5.keep (fun _ _ hk => hb.block _ hk), h6, rfl, h8, h9, by omega⟩, hb⟩
theorem Sx.openP (h : Sx w0 base p B q n F ps u uQ rows rQ w) (hok : RowsOk rows) (hfew : tmB rows = false) (hF : F ≤ 9000000000) :
    Calls Try.prog 48 #[ptr p] w fun e w' => ∃ ps', e = .returned (.tuple #[ptr ps', .nilIface]) ∧ Sx w0 base p B q n F ps' u uQ rows rQ w' := by
  obtain ⟨A, c, h1⟩ := h.st
  refine (h1.open_ hok hfew hF).mono ?_
  rintro e w' ⟨ps', A', c', rfl, g1, hb⟩
  have := h.below hb
  exact ⟨ps', rfl, ⟨⟨A', c', g1⟩, this.rf, this.bel, this.bq⟩⟩
theorem StR.roomQ {A : Option Addr} {c : Nat} {ro : List Ch} (h : StR w base p B ps n u F A c ro rows) (W : World) (hW : W.heap = w.heap) :
    Calls Try.prog 53 #[ptr ps] W fun e w' => e = .returned (.int .i64 (((n - 44 : Nat) : Int) - (u : Int))) ∧ ∃ k, w' = W.drewN k := by
  obtain ⟨a, fi, pl, D, V, rows0, es, h1, h2, h3, h4, h5, h6, h7, h8, h9, h10⟩ := h
  subst h7
  have := h6.n2
  have := h6.ule
  exact storeRoom_any ps p pl a 44 (D.n - 44) fi u A ro.length c W (by unfold Blk; rw [hW]; exact h1) (by unfold Blk; rw [hW]; exact h2) (by omega) (by omega)
theorem StR.rowsQ {A : Option Addr} {c : Nat} {ro : List Ch} (h : StR w base p B ps n u F A c ro rows) (hlen : ro.length ≤ 900000) :
    Calls Try.prog 54 #[ptr ps] w fun e w' => ∃ A' c', e = .returned (.slice A' ro.length c') ∧ RdC w' w'.heap.size A' ro.length c' ro ∧ Below w.heap.size w w' := by
  obtain ⟨a, fi, pl, D, V, rows0, es, h1, h2, h3, h4, h5, h6, h7, h8, h9, h10⟩ := h
  refine (storeRows_any ps p pl a A ro.length c ro w h1 h4.1 hlen).mono ?_
  rintro e w' ⟨v, rfl, ho, hb⟩
  obtain ⟨A', c', rfl, hr⟩ := RdC.of_own ho
  exact ⟨A', c', rfl, hr, hb⟩
end
end Go.Proofs.Ytgkenknplepmeaa
namespace Go.Proofs.Ytgkenknplepmeaa
open Go.RowKit Go.Sort

theorem format_few (base p B : Nat) (V : Nat → Value) (D : Dk) (w : World) (hd : DkAt w base p B V D) (hn : D.n < 50) :
    Calls Try.prog 49 #[ptr p] w fun e w' => e = .returned (.iface 96 (.int .i64 10)) ∧ w = w' := by
  have HS := Lib.hid (sectors_any base p B V D w hd)
  have hni : (D.n : Int) < 50 := by omega
  clear hd
  unfold ptr at *
  go_enter Try.func49, Try.ntmps49
  go_wp2_with (go_at_call 17; refine HS.out.mono ?_; rintro e wq ⟨rfl, rfl⟩)
  go_ret
  exact ⟨rfl, rfl⟩
def FmPost (w : World) (base p B : Nat) (n : Nat) (e : Ending) (w' : World) : Prop := e = .returned .nilIface ∧ (∃ D' fi V', DkAt w' base p B V' D' ∧ D'.n = n ∧ SGood D' 0 fi 0 [] [] ∧ fi ≤ 2) ∧ Below base w w' ∧ Ty w w'
set_option maxRecDepth 100000 in
set_option maxHeartbeats 1000000 in
theorem format_any (base p B : Nat) (V : Nat → Value) (D : Dk) (w : World) (hd : DkAt w base p B V D) (hn : 50 ≤ D.n) (hg : Good D) (hw : WOk D 0) :
    Calls Try.prog 49 #[ptr p] w (FmPost w base p B D.n) := by
  have hn2 := hd.n2
  have HS := Lib.hid (sectors_any base p B V D w hd)
  have hni : decide ((D.n : Int) < 50) = false := decide_eq_false (by omega)
  have hfl := flush_any base p B V D w hd hw.left (fun i hi => by have := hw.len i hi; have := hw.next; omega)
  obtain ⟨e1, hdn1, hg1⟩ := wr_good (D := D) (n := 0) (ss := []) (by show 0 + 0 ≤ _; omega) (fun s hs => by cases hs) hw hg
  rw [wrL_nil] at e1 hdn1 hg1
  rw [e1] at hfl
  rw [show erV 0 = .nilIface from rfl] at hfl
  have HF := Lib.hid hfl
  have hf1 := flat_done hdn1
  have hnn := hdn1.n_
  generalize (flushR D).1 = D1 at *
  have hbw : base ≤ w.heap.size := Nat.le_trans hd.hp (Nat.le_of_lt hd.ltp)
  clear hfl hd hdn1
  unfold ptr at *
  go_enter Try.func49, Try.ntmps49
  go_wp2_with (go_at_call 17; refine HS.out.mono ?_; rintro e wq ⟨rfl, rfl⟩)
  refine HF.out.mono ?_
  rintro e w1 ⟨rfl, ⟨V1, hd1⟩, hb1, hy1⟩
  have HE := Lib.hid (emptyLog_any base p B 1 V1 D1 w1 hd1 hg1.down (by omega) (by omega) (by omega))
  rw [show ((1 : Nat) : Int) = 1 from rfl] at HE
  unfold ptr at HE
  have HD1 := Lib.hid hd1
  have HB1 := Lib.hid hb1
  have HY1 := Lib.hid hy1
  clear hd1 hb1 hy1 HF
  go_wp2_with fail
  refine HE.out.mono ?_
  rintro e w2 ⟨pl, fi, rfl, hfi1, hfi2, hpl, hlog, hlg, hb2⟩
  obtain ⟨e2, hsg, hn3⟩ := sgood_format (D1 := D1) (fi := fi) (by omega) (by omega) hg1 hf1 hfi1 hlog
  have HH := Lib.hid (writeHead_any base p B 0 0 fi V1 D1 w2 (HD1.out.keep (fun _ _ hk => hb2.block _ hk)) (hf1.wok 1 (by omega)) (by omega) (by omega) (by omega))
  unfold WrPost at HH
  rw [e2] at HH
  rw [show erV 0 = .nilIface from rfl, show ((0 : Nat) : Int) = 0 from rfl] at HH
  have HSG := Lib.hid hsg
  have HB2 := Lib.hid (HB1.out.trans (hb2.mono (Nat.le_trans hbw HB1.out.size)))
  have HY2 := Lib.hid (HY1.out.trans (Ty.of_below hb2))
  clear hlog hlg hb2 hsg HE
  go_wp2_with fail
  refine HH.out.mono ?_
  rintro e w3 ⟨rfl, ⟨V3, hd3⟩, hb3, hy3⟩
  have HD3 := Lib.hid hd3
  have HB3 := Lib.hid (HB2.out.trans hb3)
  have HY3 := Lib.hid (HY2.out.trans hy3)
  clear hd3 hb3 hy3 HH
  go_wp2
  go_ret
  exact ⟨rfl, ⟨_, fi, V3, HD3.out, by rw [hn3]; exact hnn, HSG.out, by omega⟩, HB3.out, HY3.out⟩
end Go.Proofs.Ytgkenknplepmeaa
namespace Go.Proofs.Ytgkenknplepmeaa
open Go.RowKit Go.Sort

theorem same_erS (k : Int) (hk : k = 0 ∨ 0 < k) (w : World) : Calls Try.prog 16 #[erV k, .int .i64 k] w fun e w' => e = .returned (.bool true) ∧ w = w' := by
  rcases hk with rfl | hk
  · exact same_nil w
  · rw [show erV k = .iface 96 (.int .i64 k) from if_neg (by omega)]
    exact same_err k hk w
/-- A new store: formatted and opened. -/
def Mkd (w : World) (n : Nat) (w' : World) (ps : Nat) : Prop := ∃ A c, StR w' w.heap.size (w.heap.size + 1) w.heap.size ps n 0 2 A c [] []
theorem mk_open {w w3 : World} {n fi : Nat} {D' : Dk} {V' : Nat → Value} (hd : DkAt w3 w.heap.size (w.heap.size + 1) w.heap.size V' D') (hn : D'.n = n) (hg : SGood D' 0 fi 0 [] []) (hf : fi ≤ 2) (hb : Below w.heap.size w w3) :
    Calls Try.prog 48 #[ptr (w.heap.size + 1)] w3 fun e w' => ∃ ps, e = .returned (.tuple #[ptr ps, .nilIface]) ∧ Mkd w n w' ps ∧ Below w.heap.size w w' := by
  subst hn
  have hbw : w.heap.size ≤ w3.heap.size := Nat.le_trans hd.hp (Nat.le_of_lt hd.ltp)
  refine (open_st w.heap.size (w.heap.size + 1) w.heap.size 0 fi 0 V' D' [] [] [] w3 hd hg rows_nil.apply rfl (fun c hc => (by cases hc)) (by omega)).mono ?_
  rintro e w' ⟨ps', pl', A', c', rfl, g1, g2, g3, g4, g5, hb2⟩
  exact ⟨ps', rfl, ⟨A', c', 0, fi, pl', D', V', [], [], g1, g2, by omega, g3, hd.keep (fun _ _ hk => hb2.block _ hk), hg, rfl, rows_nil.apply, hf, by omega⟩, hb.trans (hb2.mono hbw)⟩
set_option maxRecDepth 100000 in
set_option maxHeartbeats 1000000 in
theorem stored_any (w : World) :
    Calls Try.prog 58 #[.int .i64 60] w fun e w' => ∃ ps, e = .returned (.tuple #[ptr (w.heap.size + 1), ptr ps, .bool true]) ∧ Mkd w 60 w' ps ∧ Below w.heap.size w w' := by
  have HN := Lib.hid (new_good 60 w (by omega) (by omega))
  unfold ptr at *
  rw [show ((60 : Nat) : Int) = 60 from rfl] at HN
  go_enter Try.func58, Try.ntmps58
  go_wp2_with fail
  refine HN.out.mono ?_
  rintro e w2 ⟨rfl, hd2, hb2⟩
  have HF := Lib.hid (format_any _ _ _ _ (newD 60) w2 hd2 (by show 50 ≤ 60; omega) (new_goodD 60) (new_wok 60 0 (by omega)))
  have HB2 := Lib.hid hb2
  unfold ptr at HF
  clear hd2 hb2 HN
  go_wp2_with fail
  refine HF.out.mono ?_
  rintro e w3 ⟨rfl, ⟨D', fi, V', hd3, hn3, hg3, hf3⟩, hb3, _⟩
  have HO := Lib.hid (mk_open hd3 hn3 hg3 hf3 (HB2.out.trans hb3))
  unfold ptr at HO
  clear hd3 hn3 hg3 hf3 hb3 HF HB2
  go_wp2_with fail
  refine HO.out.mono ?_
  rintro e w4 ⟨ps, rfl, hm, hb4⟩
  have HM := Lib.hid hm
  have HB4 := Lib.hid hb4
  clear hm hb4 HO
  unfold ptr at *
  go_wp2
  go_ret3
  exact ⟨ps, rfl, HM.out, HB4.out⟩
/-- The change of the closed fact. -/
def chS : Ch := ⟨⟨#[102, 47, 97]⟩, ⟨#[120]⟩, false⟩
theorem chS_ok : RowsOk [chS] := ⟨fun c hc => by rw [List.mem_singleton] at hc; subst hc; decide +kernel, fun c hc => by rw [List.mem_singleton] at hc; subst hc; rfl, by simp⟩
theorem chS_cm {er : Int} {u' : Nat} {r' : List Ch} (h : CmO 60 0 [] [chS] er u' r') : er = 0 ∧ u' = 2 ∧ r' = [chS] :=
  (CmO.ok (n := 60) (u := 0) (rows := []) (l := [chS]) [chS] (by decide +kernel) chS_ok.apply (by decide +kernel)).one h
theorem kp_one (w1 : World) (c : Ch) (b0 : Nat) : KpC (w1.alloc (.cells #[.string c.key, .string c.val, .bool c.gone] tCh)) b0 (some ⟨w1.heap.size, 0, none⟩) 1 1 [c] := by
  have hx := Blk.new w1 tCh #[.string c.key, .string c.val, .bool c.gone]
  refine ⟨⟨rfl, Nat.le_refl _, by unfold maxLen; omega, fun _ => ⟨_, 0, rfl, hx.lt, fun i f hi => ?_⟩⟩, fun b off e _ => ?_⟩
  · rcases i with _ | i
    · obtain rfl : c = f := by simpa using hi
      exact ⟨hx.cell 0, hx.cell 1, hx.cell 2⟩
    · simp at hi
  · injection e with e
    injection e with e1 e2 e3
    subst e1
    exact .inr ⟨_, hx⟩
theorem StR.commitC {w : World} {base p B ps n u F c : Nat} {A : Option Addr} {rows l : List Ch} (h : StR w base p B ps n u F A c rows rows) (hok : RowsOk rows) (hfew : tmB rows = false) {Al : Option Addr} {nl cl : Nat} (hl : KpC w base Al nl cl l) (hs : ∀ f ∈ l, f.key.size ≤ 20 ∧ f.val.size ≤ 400) (hF : F ≤ 9000000000) (hnl : nl ≤ 1000) :
    Calls Try.prog 50 #[ptr ps, .slice Al nl cl] w fun e w' => ∃ er u' r' A' c', e = .returned (erV er) ∧ CmO n u rows l er u' r' ∧ StR w' base p B ps n u' (F + 200) A' c' r' r' ∧ Below base w w' := by
  refine (commit_any base p B ps n u F c A rows l Al nl cl w h hok hfew hl hs hF hnl).mono ?_
  rintro e w' ⟨hb, ht, hc⟩
  rcases hc with ⟨g1, rfl, g2⟩ | ⟨g1, r, g2, ⟨g3, rfl, g4⟩ | ⟨g3, rfl, A2, c2, g4⟩⟩
  · exact ⟨_, _, _, A, c, rfl, .pre g1, g2, hb⟩
  · exact ⟨_, _, _, A, c, rfl, .full r g1 g2 g3, g4, hb⟩
  · exact ⟨_, _, _, A2, c2, by rw [show erV 0 = .nilIface from rfl], .ok r g1 g2 g3, g4, hb⟩
set_option maxRecDepth 100000 in
set_option maxHeartbeats 1000000 in
theorem stores_any (w : World) : Calls Try.prog 47 #[] w fun e w' => e = .returned (.bool true) ∧ Below w.heap.size w w' := by
  have HS := Lib.hid (stored_any w)
  unfold ptr at *
  go_enter Try.func47, Try.ntmps47
  go_wp2_with fail
  refine HS.out.mono ?_
  rintro e w1 ⟨ps, rfl, hm, hb1⟩
  have HM := Lib.hid hm
  have HB1 := Lib.hid hb1
  clear hm hb1 HS
  unfold ptr at *
  go_wp2_with fail
  have hb2 : Below w1.heap.size w1 (w1.alloc (.cells #[.string chS.key, .string chS.val, .bool chS.gone] tCh)) := (Below.refl _ _).alloc (Nat.le_refl _) _
  obtain ⟨A, c, hst⟩ := HM.out
  refine ((hst.heap hb2).commitC rows_nil rfl (kp_one w1 chS w.heap.size) (fun f hf => by rw [List.mem_singleton] at hf; subst hf; decide) (by omega) (by omega)).mono ?_
  rintro e w3 ⟨er, u', r', A', c', rfl, hcm, hst3, hb3⟩
  obtain ⟨rfl, rfl, rfl⟩ := chS_cm hcm
  rw [show erV 0 = .nilIface from rfl]
  have hbw : w.heap.size ≤ w1.heap.size := HB1.out.size
  have HB3 := Lib.hid ((HB1.out.trans (hb2.mono hbw)).trans hb3)
  have HST := Lib.hid hst3
  have HO := Lib.hid (hst3.open_ chS_ok (by decide +kernel) (by omega))
  unfold ptr at HO
  clear hb2 hst hcm hst3 hb3 HM HB1
  go_wp2_with fail
  refine HO.out.mono ?_
  rintro e w4 ⟨ps', A4, c4, rfl, hst4, hb4⟩
  have hbw3 : w.heap.size ≤ w3.heap.size := HB3.out.size
  have HB4 := Lib.hid (HB3.out.trans (hb4.mono hbw3))
  have HS1 := Lib.hid (HST.out.heap hb4)
  have HRW := Lib.hid (hst4.rowsQ (by decide))
  unfold ptr at *
  clear hst4 hb4 HO HST HB3
  go_wp2_with fail
  refine HRW.out.mono ?_
  rintro e w5 ⟨A5, c5, rfl, hr5, hb5⟩
  have hbw4 : w.heap.size ≤ w4.heap.size := HB4.out.size
  have HB5 := Lib.hid (HB4.out.trans (hb5.mono hbw4))
  have HRM := Lib.hid ((HS1.out.heap hb5).roomQ w5 rfl)
  unfold ptr at HRM
  clear hr5 hb5 HRW HB4 HS1
  go_wp2_with fail
  refine HRM.out.mono ?_
  rintro e w6 ⟨rfl, k6, rfl⟩
  have HB6 := Lib.hid (below_drewN HB5.out k6)
  go_wp2
  go_ret
  exact ⟨rfl, HB6.out⟩
end Go.Proofs.Ytgkenknplepmeaa
