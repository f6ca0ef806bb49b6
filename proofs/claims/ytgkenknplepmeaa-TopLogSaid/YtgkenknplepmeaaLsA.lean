/-
  WORDS for LogSays and TopLog.
-/
import Derived.Test.YtgkenknplepmeaaLgR
import Derived.Deep.AppendLies
namespace Go.Proofs.Ytgkenknplepmeaa
open Go.RowKit Go.Sort

/-- A slice that reads as texts. -/
def RdT (w : World) (B : Nat) (A : Option Addr) (n c : Nat) (l : List ByteArray) : Prop :=
  l.length = n ∧ n ≤ c ∧ c ≤ maxLen ∧ (0 < n → ∃ b off, A = some ⟨b, off, none⟩ ∧ b < B ∧ ∀ (j : Nat) (u : ByteArray), l[j]? = some u → w.cell? ⟨b, off + j, none⟩ = some (.string u))
theorem RdT.below {w w' : World} {B n c : Nat} {A : Option Addr} {l : List ByteArray} (h : RdT w B A n c l) (hb : Below B w w') : RdT w' B A n c l :=
  ⟨h.1, h.2.1, h.2.2.1, fun hn => by
    obtain ⟨b, off, e, hlt, hc⟩ := h.2.2.2 hn
    exact ⟨b, off, e, hlt, fun j u hj => (hb.cell (p := ⟨b, _, none⟩) hlt).trans (hc j u hj)⟩⟩
theorem RdT.at_ {w : World} {B n c : Nat} {A : Option Addr} {l : List ByteArray} (h : RdT w B A n c l) {j : Nat} {u : ByteArray} (hj : l[j]? = some u) : ∃ b off, A = some ⟨b, off, none⟩ ∧ b < B ∧ w.cell? ⟨b, off + j, none⟩ = some (.string u) := by
  have hl : j < l.length := (List.getElem?_eq_some_iff.1 hj).1
  obtain ⟨b, off, e, hlt, hc⟩ := h.2.2.2 (by have := h.1; omega)
  exact ⟨b, off, e, hlt, hc j u hj⟩
def S1Rel (w1 : World) (ss : List ByteArray) (i : Value) (wr : World) : Prop := ∃ k : Nat, k ≤ ss.length ∧ i = .int .i64 k ∧ wr = w1 ∧ ∀ (j : Nat) (s : ByteArray), j < k → ss[j]? = some s → s.size ≤ 340
def S2Rel (w : World) (base p B N : Nat) (ss : List ByteArray) (i : Value) (wr : World) : Prop := ∃ (k : Nat) (V : Nat → Value) (D : Dk), k ≤ ss.length ∧ i = .int .i64 k ∧ DkAt wr base p B V D ∧ Good D ∧ D.n = N ∧ WOk D (ss.length - k + 1) ∧ Below base w wr
structure LsSt (w0 w : World) (base pl fr mn fi N : Nat) (D : Dk) (u : Nat) (want : List (List Ch)) : Prop where
  bel : Below w0.heap.size w0 w
  dk : ∃ V, DkAt w base (base + 1) base V D
  log : Blk w pl tLog #[ptr (base + 1), .int .i64 fr, .int .i64 mn, .int .i64 fi, .int .i64 u]
  hpl : base ≤ pl
  good : Good D
  wok : WOk D 1
  dn : D.n = N
  rd : rdR (nowF D fr) fi mn 0 [] [] 0 = (want, u)
theorem LsSt.below {w0 w w' : World} {base pl fr mn fi N : Nat} {D : Dk} {u : Nat} {want : List (List Ch)} (h : LsSt w0 w base pl fr mn fi N D u want) (hb : Below w.heap.size w w') : LsSt w0 w' base pl fr mn fi N D u want := by
  obtain ⟨V, hd⟩ := h.dk
  exact ⟨h.bel.trans (hb.mono h.bel.size), ⟨V, hd.keep fun _ _ hk => hb.block _ hk⟩, (hb.block pl h.log.lt).trans h.log, h.hpl, h.good, h.wok, h.dn, h.rd⟩
abbrev tDe : TypeId := 38
def S5C (w6 : World) (fv : Int) (v26 v27 : Value) (wx : World) : Prop := v27 = .int .i64 0 ∧ v26 = .int .i64 fv ∧ wx = w6
def S5Rel (w6 : World) (mn u : Nat) (l : List Ch) (v26 v27 : Value) (wx : World) : Prop := ∃ (j : Nat) (fv : Int), j ≤ l.length ∧ v27 = .int .i64 j ∧ v26 = .int .i64 fv ∧ (fv ≠ 0 → FvOk mn u l fv) ∧ (fv = 0 → l.length ≤ 40 ∧ u + l.length + 1 ≤ mn ∧ ∀ (i : Nat) (d : Ch), i < j → l[i]? = some d → ckR d = 0) ∧ Below w6.heap.size w6 wx
theorem RdX.alloc {w : World} {size m : Nat} {A : Option Addr} {xs : List Value} (h : RdX w size A m xs) (o : Obj) : RdX (w.alloc o) size A m xs :=
  ⟨h.1, h.2.1, fun hm => by
    obtain ⟨b, off, e, hc⟩ := h.2.2 hm
    refine ⟨b, off, e, fun j u hu => ?_⟩
    have h1 := hc j u hu
    have hb := World.block_lt_of_cell? _ _ h1
    exact (World.cell?_of_block (w := w) (a := ⟨b, _, none⟩) (Below.heap_alloc _ _ _ hb)).trans h1⟩
theorem KpE.x {w : World} {b0 n c : Nat} {A : Option Addr} {es : List (List Ch)} (h : KpE w b0 A n c es) : ∃ vs : List Value, RdX w 1 A n vs ∧ ∀ (i : Nat) (x : Value) (e : List Ch), vs[i]? = some x → es[i]? = some e → ∃ A' c', x = .slice A' e.length c' ∧ KpC w b0 A' e.length c' e := by
  rcases Nat.eq_zero_or_pos n with h0 | h0
  · subst h0
    exact ⟨[], ⟨rfl, fun u hu => (by cases hu), fun h => absurd h (by omega)⟩, fun i x e hx => (by simp at hx)⟩
  · obtain ⟨b, off, rfl, _, _, hc⟩ := h.2.2.2 h0
    have hex : ∀ i : Nat, ∃ x : Value, i < n → w.cell? ⟨b, off + i, none⟩ = some x ∧ x.oneCell' = true ∧ ∀ e : List Ch, es[i]? = some e → ∃ A' c', x = .slice A' e.length c' ∧ KpC w b0 A' e.length c' e := fun i => by
      by_cases hi : i < n
      · have he : es[i]? = some (es[i]'(by rw [h.1]; exact hi)) := List.getElem?_eq_getElem _
        obtain ⟨A', n', c', h1, h2⟩ := hc i _ he
        refine ⟨.slice A' n' c', fun _ => ⟨h1, rfl, fun e he' => ?_⟩⟩
        rw [he] at he'
        injection he' with he'
        have hn' := h2.1.1
        rw [he'] at hn' h2
        subst hn'
        exact ⟨A', c', rfl, h2⟩
      · exact ⟨.nilIface, fun h => absurd h hi⟩
    obtain ⟨g, hg⟩ := Classical.axiomOfChoice hex
    refine ⟨(List.range n).map g, ⟨by simp, fun u hu => ?_, fun _ => ⟨b, off, rfl, fun j u hu => ?_⟩⟩, fun i x e hx he => ?_⟩
    · obtain ⟨i, hi, rfl⟩ := List.mem_map.1 hu
      exact (hg i (List.mem_range.1 hi)).2.1
    · have hj : j < n := by have := (List.getElem?_eq_some_iff.1 hu).1; simpa using this
      have : u = g j := by simp [hj] at hu; exact hu.symm
      rw [this]
      exact (hg j hj).1
    · have hj : i < n := by have := (List.getElem?_eq_some_iff.1 hx).1; simpa using this
      have : x = g i := by simp [hj] at hx; exact hx.symm
      rw [this]
      exact (hg i hj).2.2 e he
/-- One more entry. -/
theorem KpE.snoc {w w' : World} {b0 base : Nat} {v : Value} {vs : List Value} {es : List (List Ch)} {l : List Ch} {A : Option Addr} {c : Nat} (hv : ∀ (i : Nat) (x : Value) (e : List Ch), vs[i]? = some x → es[i]? = some e → ∃ A' c', x = .slice A' e.length c' ∧ KpC w b0 A' e.length c' e) (hlen : vs.length = es.length)
    (hl : KpC w b0 A l.length c l) (hf : Fr b0 w w') (ho : w'.ownsRow base tSl 1 v (es.length + 1) (vs ++ [.slice A l.length c])) : ∃ A' c', v = .slice A' (es ++ [l]).length c' ∧ KpE w' b0 A' (es ++ [l]).length c' (es ++ [l]) := by
  have he : (es ++ [l]).length = es.length + 1 := by simp
  rw [he]
  refine KpE.of_own ho he fun i x e hx hei => ?_
  rcases Nat.lt_or_ge i es.length with h1 | h1
  · rw [List.getElem?_append_left (by rw [hlen]; exact h1)] at hx
    rw [List.getElem?_append_left h1] at hei
    obtain ⟨A', c', rfl, hk⟩ := hv i x e hx hei
    exact ⟨A', c', rfl, hk.keep hf⟩
  · rw [List.getElem?_append_right (by rw [hlen]; exact h1)] at hx
    rw [List.getElem?_append_right h1] at hei
    have h2 := (List.getElem?_eq_some_iff.1 hei).1
    have h3 : i - es.length = 0 := by simp at h2; omega
    rw [h3] at hei
    rw [hlen, h3] at hx
    simp at hx hei
    subst hx hei
    exact ⟨A, c, rfl, hl.keep hf⟩
def S3Rel (w3 : World) (f : Nat → ByteArray) (mn : Nat) (v18 i : Value) (wr : World) : Prop := ∃ k : Nat, k ≤ mn ∧ i = .int .i64 k ∧ wr.ownsRow w3.heap.size tStr 1 v18 k (scells ((List.range k).map f)) ∧ Below w3.heap.size w3 wr
def S4Rel (w0 : World) (base fr mn fi N m : Nat) (v16 v17 v22 v23 v24 : Value) (wr : World) : Prop := ∃ (k pl u : Nat) (want : List (List Ch)) (D : Dk) (Ag : Option Addr) (cg : Nat) (Aw : Option Addr) (cw : Nat), k ≤ m ∧ v16 = ptr pl ∧ v17 = .slice Ag want.length cg ∧ v22 = .slice Aw want.length cw ∧ v23 = .int .i64 u ∧ v24 = .int .i64 k ∧
  LsSt w0 wr base pl fr mn fi N D u want ∧ KpE wr w0.heap.size Ag want.length cg want ∧ KpE wr w0.heap.size Aw want.length cw want
theorem range_at (f : Nat → ByteArray) {k i : Nat} (h : i < k) : (scells ((List.range k).map f))[i]? = some (.string (f i)) := by
  simp [scells, h]
def LySPost (w : World) (e : Ending) (w' : World) : Prop := e = .returned (.bool true) ∧ Below w.heap.size w w'
end Go.Proofs.Ytgkenknplepmeaa
