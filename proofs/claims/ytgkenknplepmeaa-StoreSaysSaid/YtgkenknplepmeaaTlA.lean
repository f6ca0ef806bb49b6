/-
  WALKS: (*disk.Disk).Arm, hammerpondtop.number, lightDeeds. PLAIN: what Add comes to on a disk that may fail.
-/
import Derived.Test.YtgkenknplepmeaaLgR
import Derived.Deep.AppendLies
namespace Go.Proofs.Ytgkenknplepmeaa
open Go.RowKit Go.Sort

/-- A slice that reads as texts. -/
def RdT (w : World) (B : Nat) (A : Option Addr) (n c : Nat) (l : List ByteArray) : Prop :=
  l.length = n ∧ n ≤ c ∧ c ≤ maxLen ∧ (0 < n → ∃ b off, A = some ⟨b, off, none⟩ ∧ b < B ∧ ∀ (j : Nat) (u : ByteArray), l[j]? = some u → w.cell? ⟨b, off + j, none⟩ = some (.string u))
theorem RdT.below {w w' : World} {B n c : Nat} {A : Option Addr} {l : List ByteArray} (h : RdT w B A n c l) (hb : Below B w w') : RdT w' B A n c l :=
  ⟨h.1, h.2.1, h.2.2.1, fun hn => by
    obtain ⟨b, off, e, hlt, hc⟩ := h.2.2.2 hn
    exact ⟨b, off, e, hlt, fun j u hj => (hb.cell (p := ⟨b, _, none⟩) hlt).trans (hc j u hj)⟩⟩
theorem RdT.at_ {w : World} {B n c : Nat} {A : Option Addr} {l : List ByteArray} (h : RdT w B A n c l) {j : Nat} {u : ByteArray} (hj : l[j]? = some u) : ∃ b off, A = some ⟨b, off, none⟩ ∧ b < B ∧ w.cell? ⟨b, off + j, none⟩ = some (.string u) := by
  have hl : j < l.length := (List.getElem?_eq_some_iff.1 hj).1
  obtain ⟨b, off, e, hlt, hc⟩ := h.2.2.2 (by have := h.1; omega)
  exact ⟨b, off, e, hlt, hc j u hj⟩
def S1Rel (w1 : World) (ss : List ByteArray) (i : Value) (wr : World) : Prop := ∃ k : Nat, k ≤ ss.length ∧ i = .int .i64 k ∧ wr = w1 ∧ ∀ (j : Nat) (s : ByteArray), j < k → ss[j]? = some s → s.size ≤ 340
def S2Rel (w : World) (base p B N : Nat) (ss : List ByteArray) (i : Value) (wr : World) : Prop := ∃ (k : Nat) (V : Nat → Value) (D : Dk), k ≤ ss.length ∧ i = .int .i64 k ∧ DkAt wr base p B V D ∧ Good D ∧ D.n = N ∧ WOk D (ss.length - k + 1) ∧ Below base w wr
structure LsSt (w0 w : World) (base pl fr mn fi N : Nat) (D : Dk) (u : Nat) (want : List (List Ch)) : Prop where
  bel : Below w0.heap.size w0 w
  dk : ∃ V, DkAt w base (base + 1) base V D
  log : Blk w pl tLog #[ptr (base + 1), .int .i64 fr, .int .i64 mn, .int .i64 fi, .int .i64 u]
  hpl : base ≤ pl
  good : Good D
  wok : WOk D 1
  dn : D.n = N
  rd : rdR (nowF D fr) fi mn 0 [] [] 0 = (want, u)
theorem LsSt.below {w0 w w' : World} {base pl fr mn fi N : Nat} {D : Dk} {u : Nat} {want : List (List Ch)} (h : LsSt w0 w base pl fr mn fi N D u want) (hb : Below w.heap.size w w') : LsSt w0 w' base pl fr mn fi N D u want := by
  obtain ⟨V, hd⟩ := h.dk
  exact ⟨h.bel.trans (hb.mono h.bel.size), ⟨V, hd.keep fun _ _ hk => hb.block _ hk⟩, (hb.block pl h.log.lt).trans h.log, h.hpl, h.good, h.wok, h.dn, h.rd⟩
abbrev tDe : TypeId := 38
def S5C (w6 : World) (fv : Int) (v26 v27 : Value) (wx : World) : Prop := v27 = .int .i64 0 ∧ v26 = .int .i64 fv ∧ wx = w6
def S5Rel (w6 : World) (mn u : Nat) (l : List Ch) (v26 v27 : Value) (wx : World) : Prop := ∃ (j : Nat) (fv : Int), j ≤ l.length ∧ v27 = .int .i64 j ∧ v26 = .int .i64 fv ∧ (fv ≠ 0 → FvOk mn u l fv) ∧ (fv = 0 → l.length ≤ 40 ∧ u + l.length + 1 ≤ mn ∧ ∀ (i : Nat) (d : Ch), i < j → l[i]? = some d → ckR d = 0) ∧ Below w6.heap.size w6 wx
theorem RdX.alloc {w : World} {size m : Nat} {A : Option Addr} {xs : List Value} (h : RdX w size A m xs) (o : Obj) : RdX (w.alloc o) size A m xs :=
  ⟨h.1, h.2.1, fun hm => by
    obtain ⟨b, off, e, hc⟩ := h.2.2 hm
    refine ⟨b, off, e, fun j u hu => ?_⟩
    have h1 := hc j u hu
    have hb := World.block_lt_of_cell? _ _ h1
    exact (World.cell?_of_block (w := w) (a := ⟨b, _, none⟩) (Below.heap_alloc _ _ _ hb)).trans h1⟩
theorem KpE.x {w : World} {b0 n c : Nat} {A : Option Addr} {es : List (List Ch)} (h : KpE w b0 A n c es) : ∃ vs : List Value, RdX w 1 A n vs ∧ ∀ (i : Nat) (x : Value) (e : List Ch), vs[i]? = some x → es[i]? = some e → ∃ A' c', x = .slice A' e.length c' ∧ KpC w b0 A' e.length c' e := by
  rcases Nat.eq_zero_or_pos n with h0 | h0
  · subst h0
    exact ⟨[], ⟨rfl, fun u hu => (by cases hu), fun h => absurd h (by omega)⟩, fun i x e hx => (by simp at hx)⟩
  · obtain ⟨b, off, rfl, _, _, hc⟩ := h.2.2.2 h0
    have hex : ∀ i : Nat, ∃ x : Value, i < n → w.cell? ⟨b, off + i, none⟩ = some x ∧ x.oneCell' = true ∧ ∀ e : List Ch, es[i]? = some e → ∃ A' c', x = .slice A' e.length c' ∧ KpC w b0 A' e.length c' e := fun i => by
      by_cases hi : i < n
      · have he : es[i]? = some (es[i]'(by rw [h.1]; exact hi)) := List.getElem?_eq_getElem _
        obtain ⟨A', n', c', h1, h2⟩ := hc i _ he
        refine ⟨.slice A' n' c', fun _ => ⟨h1, rfl, fun e he' => ?_⟩⟩
        rw [he] at he'
        injection he' with he'
        have hn' := h2.1.1
        rw [he'] at hn' h2
        subst hn'
        exact ⟨A', c', rfl, h2⟩
      · exact ⟨.nilIface, fun h => absurd h hi⟩
    obtain ⟨g, hg⟩ := Classical.axiomOfChoice hex
    refine ⟨(List.range n).map g, ⟨by simp, fun u hu => ?_, fun _ => ⟨b, off, rfl, fun j u hu => ?_⟩⟩, fun i x e hx he => ?_⟩
    · obtain ⟨i, hi, rfl⟩ := List.mem_map.1 hu
      exact (hg i (List.mem_range.1 hi)).2.1
    · have hj : j < n := by have := (List.getElem?_eq_some_iff.1 hu).1; simpa using this
      have : u = g j := by simp [hj] at hu; exact hu.symm
      rw [this]
      exact (hg j hj).1
    · have hj : i < n := by have := (List.getElem?_eq_some_iff.1 hx).1; simpa using this
      have : x = g i := by simp [hj] at hx; exact hx.symm
      rw [this]
      exact (hg i hj).2.2 e he
/-- One more entry. -/
theorem KpE.snoc {w w' : World} {b0 base : Nat} {v : Value} {vs : List Value} {es : List (List Ch)} {l : List Ch} {A : Option Addr} {c : Nat} (hv : ∀ (i : Nat) (x : Value) (e : List Ch), vs[i]? = some x → es[i]? = some e → ∃ A' c', x = .slice A' e.length c' ∧ KpC w b0 A' e.length c' e) (hlen : vs.length = es.length)
    (hl : KpC w b0 A l.length c l) (hf : Fr b0 w w') (ho : w'.ownsRow base tSl 1 v (es.length + 1) (vs ++ [.slice A l.length c])) : ∃ A' c', v = .slice A' (es ++ [l]).length c' ∧ KpE w' b0 A' (es ++ [l]).length c' (es ++ [l]) := by
  have he : (es ++ [l]).length = es.length + 1 := by simp
  rw [he]
  refine KpE.of_own ho he fun i x e hx hei => ?_
  rcases Nat.lt_or_ge i es.length with h1 | h1
  · rw [List.getElem?_append_left (by rw [hlen]; exact h1)] at hx
    rw [List.getElem?_append_left h1] at hei
    obtain ⟨A', c', rfl, hk⟩ := hv i x e hx hei
    exact ⟨A', c', rfl, hk.keep hf⟩
  · rw [List.getElem?_append_right (by rw [hlen]; exact h1)] at hx
    rw [List.getElem?_append_right h1] at hei
    have h2 := (List.getElem?_eq_some_iff.1 hei).1
    have h3 : i - es.length = 0 := by simp at h2; omega
    rw [h3] at hei
    rw [hlen, h3] at hx
    simp at hx hei
    subst hx hei
    exact ⟨A, c, rfl, hl.keep hf⟩
def S3Rel (w3 : World) (f : Nat → ByteArray) (mn : Nat) (v18 i : Value) (wr : World) : Prop := ∃ k : Nat, k ≤ mn ∧ i = .int .i64 k ∧ wr.ownsRow w3.heap.size tStr 1 v18 k (scells ((List.range k).map f)) ∧ Below w3.heap.size w3 wr
def S4Rel (w0 : World) (base fr mn fi N m : Nat) (v16 v17 v22 v23 v24 : Value) (wr : World) : Prop := ∃ (k pl u : Nat) (want : List (List Ch)) (D : Dk) (Ag : Option Addr) (cg : Nat) (Aw : Option Addr) (cw : Nat), k ≤ m ∧ v16 = ptr pl ∧ v17 = .slice Ag want.length cg ∧ v22 = .slice Aw want.length cw ∧ v23 = .int .i64 u ∧ v24 = .int .i64 k ∧
  LsSt w0 wr base pl fr mn fi N D u want ∧ KpE wr w0.heap.size Ag want.length cg want ∧ KpE wr w0.heap.size Aw want.length cw want
theorem range_at (f : Nat → ByteArray) {k i : Nat} (h : i < k) : (scells ((List.range k).map f))[i]? = some (.string (f i)) := by
  simp [scells, h]
def LySPost (w : World) (e : Ending) (w' : World) : Prop := e = .returned (.bool true) ∧ Below w.heap.size w w'
end Go.Proofs.Ytgkenknplepmeaa
namespace Go.Proofs.Ytgkenknplepmeaa
open Go.RowKit Go.Sort

set_option maxHeartbeats 400000 in
theorem arm_any (base p B : Nat) (V : Nat → Value) (D : Dk) (n : Int) (w : World) (h : DkAt w base p B V D) :
    Calls Try.prog 24 #[ptr p, .int .i64 n] w fun e w' => e = .returned (.tuple #[]) ∧ DkAt w' base p B V { D with left := n } ∧ Below base w w' ∧ Ty w w' := by
  have c1 : w.cell? ⟨p, 1, none⟩ = some (.int .i64 D.left) := h.dk.cell 1
  have f1 := h.dk.free 1
  have HD := Lib.hid (h.upd n D.down D.next h.nx (by have := h.dk.set 1 (.int .i64 n); exact this) (upd_setp (i := 1) (.int .i64 n)))
  have HT := Lib.hid (Ty.setP (i := 1) h.dk (.int .i64 n))
  have HB := Lib.hid ((Below.refl base w).setCell (p := ⟨p, 1, none⟩) (by simpa using h.hp) (.int .i64 n))
  clear h
  go_enter Try.func24, Try.ntmps24
  go_wp2
  go_end0
  exact ⟨rfl, HD.out, HB.out, HT.out⟩
set_option maxHeartbeats 400000 in
theorem numb_nil (w : World) : Calls Try.prog 56 #[.nilIface] w fun e w' => e = .returned (.int .i64 0) ∧ w = w' := by
  go_enter Try.func56, Try.ntmps56
  go_wp2
  go_ret
  exact ⟨rfl, rfl⟩
set_option maxHeartbeats 400000 in
theorem numb_err (k : Int) (w : World) : Calls Try.prog 56 #[.iface 96 (.int .i64 k)] w fun e w' => e = .returned (.int .i64 k) ∧ w = w' := by
  have ha := fun v W => assert_err v W
  go_enter Try.func56, Try.ntmps56
  go_wp2
  go_ret
  exact ⟨rfl, rfl⟩
def LitE (es : List (List Ch)) (most : Nat) : Prop := es.length ≤ most ∧ ∀ e ∈ es, LitC e 14
def LePost (es : List (List Ch)) (most : Nat) (w : World) (e : Ending) (w' : World) : Prop := ∃ b, e = .returned (.bool b) ∧ (b = true → LitE es most) ∧ w = w'
def LeRel (w : World) (es : List (List Ch)) (i : Value) (wr : World) : Prop := ∃ k : Nat, k ≤ es.length ∧ i = .int .i64 k ∧ wr = w ∧ ∀ (j : Nat) (f : List Ch), j < k → es[j]? = some f → LitC f 14
set_option maxHeartbeats 1000000 in
set_option maxRecDepth 100000 in
theorem lightE_any (A : Option Addr) (n c : Nat) (es : List (List Ch)) (most B : Nat) (w : World) (h : RdE w B A n c es) (hmost : most ≤ 1000) :
    Calls Try.prog 55 #[.slice A n c, .int .i64 most] w (LePost es most w) := by
  have HR := Lib.hid h
  have HL := Lib.hid h.1
  have hc1 := h.2.1
  have hc2 := h.2.2.1
  unfold maxLen at hc2
  clear h
  by_cases hm : most < n
  · have zm : (most : Int) < (n : Int) := by omega
    go_enter Try.func55, Try.ntmps55
    go_wp2
    go_ret
    exact ⟨false, rfl, by simp, rfl⟩
  have zm : decide ((most : Int) < (n : Int)) = false := decide_eq_false (by omega)
  go_enter Try.func55, Try.ntmps55
  go_wp2
  go_loopw [5] (fun i wr => LeRel w es i wr) (fun i _ => n - (intOf i).toNat)
  case atStart => exact ⟨0, Nat.zero_le _, rfl, rfl, fun j g h => absurd h (Nat.not_lt_zero j)⟩
  case round =>
    obtain ⟨k, hk, rfl, rfl, hno⟩ := hrel
    have hkn : k ≤ n := by rw [← HL.out]; exact hk
    have HN := Lib.hid hno
    clear hk hno
    by_cases hlt : k < n
    · obtain ⟨f, hf⟩ : ∃ f, es[k]? = some f := ⟨_, List.getElem?_eq_getElem (by rw [HL.out]; exact hlt)⟩
      obtain ⟨b', off, rfl, _, A', n', c', y0, hr⟩ := HR.out.at_ hf
      have hkz : (k : Int) < (n : Int) := by omega
      have HF := Lib.hid hf
      have HLC := Lib.hid (lightChanges_any A' n' c' f 14 B wr hr (by omega))
      rw [show ((14 : Nat) : Int) = 14 from rfl] at HLC
      unfold LcPost at HLC
      clear hf hr
      go_wp2_with fail
      refine HLC.out.mono ?_
      rintro e w2 ⟨b, rfl, hb, rfl⟩
      cases b with
      | false =>
        clear hb
        go_wp2
        go_ret
        exact ⟨false, rfl, by simp, rfl⟩
      | true =>
        have HLI := Lib.hid (hb rfl)
        clear hb
        go_wp2
        go_roundw
        case rel => exact ⟨k + 1, by rw [HL.out]; omega, by go_num, rfl, idx_step HF.out HN.out HLI.out⟩
        case measure => simp [intOf]; omega
    · obtain rfl : k = n := by omega
      go_wp2
      go_ret
      exact ⟨true, rfl, fun _ => ⟨by rw [HL.out]; omega, all_of_idx (fun j f hj hf => HN.out j f (by rw [← HL.out]; exact hj) hf)⟩, rfl⟩
theorem WFail.len {D D' : Dk} {n : Nat} {ss : List ByteArray} (h : WFail D n ss D') (i : Nat) : (D'.sec i).ws.length ≤ (D.sec i).ws.length + 1 := by
  by_cases hi : i < n ∨ n + ss.length ≤ i
  · rw [h.out i hi]; omega
  · have hj : i - n < ss.length := by omega
    have e : n + (i - n) = i := by omega
    rcases h.in_ (i - n) ss[i - n] (List.getElem?_eq_getElem hj) with h1 | ⟨b, h1⟩
    · rw [e] at h1; rw [h1]; omega
    · rw [e] at h1; rw [h1]; simp
theorem weR_ws (D : Dk) (a : Nat) (rs : List ByteArray) (s0 : ByteArray) (hn : a + 1 + rs.length ≤ D.n) (hs : ∀ s ∈ rs, s.size ≤ 340) (h0 : s0.size ≤ 340) (hr : rs.length < 64) (hw : WOk D 1) (hfl : ∀ i, i < D.n → (D.sec i).ws = []) :
    ∀ i, i < D.n → ((weR D a rs s0).1.sec i).ws.length ≤ 1 := fun i hi => by
  have hbl : ∀ s ∈ [blB], s.size ≤ 340 := one_small (by show 0 ≤ 340; omega)
  unfold weR
  split
  · rcases wrL_spec [blB] D a (by show a + 1 ≤ D.n; omega) hbl hw with ⟨_, d1⟩ | ⟨_, f1⟩
    · rw [show (we1 D a).1 = (wrL D a [blB]).1 from rfl, d1.ws i]; simp
    · have := f1.len i
      rw [hfl i hi] at this
      exact this
  · rename_i e1
    have d1 : WDone D a [blB] (we1 D a).1 := by
      rcases wrL_spec [blB] D a (by show a + 1 ≤ D.n; omega) hbl hw with ⟨_, d1⟩ | ⟨e, _⟩
      · exact d1
      · exact absurd (show (we1 D a).2 ≠ 0 by rw [show (we1 D a).2 = 11 from e]; simp) e1
    split
    · rcases wrL_spec rs (we1 D a).1 (a + 1) (by rw [d1.n_]; exact hn) hs (wok_done d1 hr) with ⟨_, d2⟩ | ⟨_, f2⟩
      · rw [show (we2 D a rs).1 = (wrL (we1 D a).1 (a + 1) rs).1 from rfl, d2.ws i]; simp
      · have := f2.len i
        rw [d1.ws i] at this
        exact this
    · rename_i e2
      have d2 : WDone (we1 D a).1 (a + 1) rs (we2 D a rs).1 := by
        rcases wrL_spec rs (we1 D a).1 (a + 1) (by rw [d1.n_]; exact hn) hs (wok_done d1 hr) with ⟨_, d2⟩ | ⟨e, _⟩
        · exact d2
        · exact absurd (show (we2 D a rs).2 ≠ 0 by rw [show (we2 D a rs).2 = 11 from e]; simp) e2
      rcases wrL_spec [s0] (we2 D a rs).1 a (by rw [d2.n_, d1.n_]; show a + 1 ≤ D.n; omega) (one_small h0) (wok_done d2 (by show 1 < 64; omega)) with ⟨_, d3⟩ | ⟨_, f3⟩
      · rw [show (we3 D a rs s0).1 = (wrL (we2 D a rs).1 a [s0]).1 from rfl, d3.ws i]; simp
      · have := f3.len i
        rw [d2.ws i] at this
        exact this
/-- The disk stands still: nothing waits. -/
structure Flat (D : Dk) : Prop where
  ws : ∀ i, i < D.n → (D.sec i).ws = []
  wok : ∀ k, k < 64 → WOk D k
theorem stand_crash {D D' : Dk} {fr mn fi u : Nat} {l : List Ch} {keep : Nat} (hl : ∀ j, j < fr + u → stay keep D' j = nowB (D.sec j)) (h0 : stay keep D' (fr + u) = padB (s0R (fi + u) l)) (hr : ∀ j s, (rsR (mn - u) (entR (fi + u) l))[j]? = some s → stay keep D' (fr + u + 1 + j) = padB s) :
    Stand (fun i => stay keep D' (fr + i)) (nowF D fr) u mn (entR (fi + u) l) := by
  refine ⟨fun j hj => hl _ (by omega), fun s hs => ?_, fun j s hj => ?_⟩
  · rw [s0R_at] at hs
    injection hs with hs
    rw [← hs]; exact h0
  · show stay keep D' (fr + (u + 1 + j)) = padB s
    rw [show fr + (u + 1 + j) = fr + u + 1 + j by omega]
    exact hr j s hj
/-- Add on a disk that may fail. -/
theorem LaR.any {D D' : Dk} {fr mn fi u u' : Nat} {l : List Ch} {er : Int} {es : List (List Ch)} (h : LaR D fr mn fi u l er D' u') (hfl : Flat D) (hf : fr + mn ≤ D.n) (hrd : rdR (nowF D fr) fi mn 0 [] [] 0 = (es, u)) :
    (0 < er ∧ er ≠ 11 ∧ D' = D ∧ u' = u) ∨
    (er = 11 ∧ D'.n = D.n ∧ (∀ i, i < D.n → (D'.sec i).ws.length ≤ 1) ∧ ∀ keep, ∃ u'', rdR (fun i => stay keep D' (fr + i)) fi mn 0 [] [] 0 = (es, u'') ∨ rdR (fun i => stay keep D' (fr + i)) fi mn 0 [] [] 0 = (es ++ [l], u'')) ∨
    (er = 0 ∧ u' = u + l.length + 1 ∧ D'.n = D.n ∧ Flat D' ∧ rdR (nowF D' fr) fi mn 0 [] [] 0 = (es ++ [l], u + l.length + 1)) := by
  have hwe : l.length ≤ 40 → u + l.length + 1 ≤ mn → (∀ c ∈ l, ckR c = 0) → (((weL D fr mn fi u l).2 = 0 ∧ EDone D (fr + u) (rsR (mn - u) (entR (fi + u) l)) (s0R (fi + u) l) (weL D fr mn fi u l).1) ∨ ((weL D fr mn fi u l).2 = 11 ∧ ECr D (fr + u) (rsR (mn - u) (entR (fi + u) l)) (s0R (fi + u) l) (weL D fr mn fi u l).1)) ∧ ∀ i, i < D.n → ((weL D fr mn fi u l).1.sec i).ws.length ≤ 1 := fun h1 h2 h3 => by
    have hlen := entR_len (fi + u) l
    have hrs := rsR_len (room := mn - u) (ss := entR (fi + u) l) (by omega) (by omega)
    have a1 : fr + u + 1 + (rsR (mn - u) (entR (fi + u) l)).length ≤ D.n := by omega
    have a2 := rsR_small (room := mn - u) (entR_small (n := fi + u) h3)
    have a3 := entR_small (n := fi + u) h3 _ (List.mem_of_getElem? (s0R_at (fi + u) l))
    refine ⟨?_, weR_ws D (fr + u) (rsR (mn - u) (entR (fi + u) l)) (s0R (fi + u) l) a1 a2 a3 (by omega) (hfl.wok 1 (by omega)) hfl.ws⟩
    rcases weR_spec D (fr + u) (rsR (mn - u) (entR (fi + u) l)) (s0R (fi + u) l) a1 a2 a3 (by omega) (hfl.wok 1 (by omega)) with h | ⟨h, hc⟩
    · exact .inl h
    · exact .inr ⟨h, hc hfl.ws⟩
  cases h with
  | many h1 => exact .inl ⟨by omega, by omega, rfl, rfl⟩
  | full h1 h2 => exact .inl ⟨by omega, by omega, rfl, rfl⟩
  | bad k c h1 h2 h3 h4 h5 => exact .inl ⟨by rcases ckR_cases c with h | h | h <;> omega, by rcases ckR_cases c with h | h | h <;> omega, rfl, rfl⟩
  | down h1 h2 h3 h4 =>
    obtain ⟨hh, hws⟩ := hwe h1 h2 h3
    rcases hh with ⟨e, _⟩ | ⟨_, hcr⟩
    · rw [e] at h4; cases h4
    · refine .inr (.inl ⟨rfl, hcr.1, hws, fun keep => ?_⟩)
      rcases hcr.2 keep with hall | ⟨hlow, hb | ⟨h0, hr⟩⟩
      · refine ⟨u, .inl ?_⟩
        rw [← hrd]
        exact rdR_congr _ _ _ _ _ fun j _ hj => hall _ (by omega)
      · refine ⟨u, .inl (read_blank hrd (fun j hj => hlow _ (by omega)) ?_)⟩
        exact hb
      · refine ⟨_, .inr (read_added hrd h3 (by omega) (stand_crash (fun j hj => hlow j hj) h0 hr))⟩
  | ok h1 h2 h3 h4 =>
    obtain ⟨hh, _⟩ := hwe h1 h2 h3
    rcases hh with ⟨_, hed⟩ | ⟨e, _⟩
    · exact .inr (.inr ⟨rfl, rfl, hed.n_, ⟨fun i _ => hed.ws i, fun k hk => wok_e hed hk⟩, read_added hrd h3 (by omega) (stand_done hed hf (by omega))⟩)
    · rw [e] at h4; cases h4
theorem flat_restart (keep : Nat) (D : Dk) : Flat (restartR keep D) := ⟨fun _ _ => rfl, fun k hk => ⟨by show -9223372036854775808 ≤ (-1 : Int) ∧ (-1 : Int) ≤ 9223372036854775807; omega, by show 0 + k < 64; omega, fun i _ x hx => (by cases hx), fun i _ => Nat.zero_le _⟩⟩
theorem now_restartF (keep : Nat) (D : Dk) (fr : Nat) : nowF (restartR keep D) fr = fun i => stay keep D (fr + i) := rfl
theorem flat_arm {D : Dk} (n : Nat) (h : D = newD n) (left : Int) (hl : -1 ≤ left ∧ left ≤ 200) : Flat { D with left := left } := by
  subst h
  exact ⟨fun _ _ => rfl, fun k hk => ⟨by show -9223372036854775808 ≤ left ∧ left ≤ 9223372036854775807; omega, by show 0 + k < 64; omega, fun i _ x hx => (by cases hx), fun i _ => Nat.zero_le _⟩⟩
end Go.Proofs.Ytgkenknplepmeaa
