/-
  WORDS: entries that are kept while a log is written; what Add comes to on a disk that is not armed. WALK: hammerpondlaw.logs.
-/
import Derived.Test.YtgkenknplepmeaaLgP
namespace Go.Proofs.Ytgkenknplepmeaa
open Go.RowKit Go.Sort

/-- Changes that lie below b0 or in a block of changes. -/
def KpC (w : World) (b0 : Nat) (A : Option Addr) (n c : Nat) (l : List Ch) : Prop := RdC w w.heap.size A n c l ∧ ∀ b off, A = some ⟨b, off, none⟩ → 0 < n → b < b0 ∨ ∃ cs, Blk w b tCh cs
/-- Entries, likewise. -/
def KpE (w : World) (b0 : Nat) (A : Option Addr) (n c : Nat) (es : List (List Ch)) : Prop :=
  es.length = n ∧ n ≤ c ∧ c ≤ maxLen ∧ (0 < n → ∃ b off, A = some ⟨b, off, none⟩ ∧ (b < b0 ∨ ∃ cs, Blk w b tSl cs) ∧ b < w.heap.size ∧ ∀ (i : Nat) (e : List Ch), es[i]? = some e → ∃ A' n' c', w.cell? ⟨b, off + i, none⟩ = some (.slice A' n' c') ∧ KpC w b0 A' n' c' e)
/-- What is below b0 stands, and so do the blocks of changes and of slices. -/
structure Fr (b0 : Nat) (w w' : World) : Prop where
  size : w.heap.size ≤ w'.heap.size
  low : ∀ k, k < b0 → w'.heap[k]? = w.heap[k]?
  ch : ∀ k cs, Blk w k tCh cs → Blk w' k tCh cs
  sl : ∀ k cs, Blk w k tSl cs → Blk w' k tSl cs
theorem Fr.refl (b0 : Nat) (w : World) : Fr b0 w w := ⟨Nat.le_refl _, fun _ _ => rfl, fun _ _ h => h, fun _ _ h => h⟩
theorem Fr.trans {b0 : Nat} {a b c : World} (h : Fr b0 a b) (k : Fr b0 b c) : Fr b0 a c := ⟨Nat.le_trans h.size k.size, fun i hi => (k.low i hi).trans (h.low i hi), fun i cs hb => k.ch i cs (h.ch i cs hb), fun i cs hb => k.sl i cs (h.sl i cs hb)⟩
theorem Fr.of_below {b0 : Nat} {w w' : World} (h : Below w.heap.size w w') (hb : b0 ≤ w.heap.size) : Fr b0 w w' := ⟨h.size, fun k hk => h.block k (by omega), fun k _ hb => (h.block k hb.lt).trans hb, fun k _ hb => (h.block k hb.lt).trans hb⟩
theorem Fr.of_tyx {b0 pl : Nat} {w w' : World} {cs0 : Array Value} (h : TyX w w' pl) (hb : Below b0 w w') (hl : Blk w pl tLog cs0) : Fr b0 w w' :=
  ⟨hb.size, fun k hk => hb.block k hk, fun k cs hk => h k tCh cs hk (by decide) (by decide) (by decide) (hk.ne hl (by decide)), fun k cs hk => h k tSl cs hk (by decide) (by decide) (by decide) (hk.ne hl (by decide))⟩
theorem Fr.of_ty {b0 : Nat} {w w' : World} (h : Ty w w') (hb : Below b0 w w') : Fr b0 w w' :=
  ⟨hb.size, fun k hk => hb.block k hk, fun k cs hk => h k tCh cs hk (by decide) (by decide) (by decide), fun k cs hk => h k tSl cs hk (by decide) (by decide) (by decide)⟩
theorem Fr.of_upd {b0 pl : Nat} {w w' : World} {cs0 : Array Value} (h : Upd w w' (fun k => k = pl)) (hl : Blk w pl tLog cs0) (hb : b0 ≤ pl) : Fr b0 w w' :=
  ⟨h.size, fun k hk => h.block k (by have := hl.lt; omega) (by omega), fun k cs hk => (h.block k hk.lt (hk.ne hl (by decide))).trans hk, fun k cs hk => (h.block k hk.lt (hk.ne hl (by decide))).trans hk⟩
theorem Fr.drewN {b0 : Nat} {w w' : World} (h : Fr b0 w w') (q : Nat) : Fr b0 w (w'.drewN q) := ⟨h.size, h.low, h.ch, h.sl⟩
theorem RdC.lowB {w w' : World} {B n c : Nat} {A : Option Addr} {l : List Ch} (h : RdC w B A n c l) (hB : w.heap.size ≤ w'.heap.size) (hk : ∀ b off, A = some ⟨b, off, none⟩ → 0 < n → w'.heap[b]? = w.heap[b]?) : RdC w' B A n c l := by
  refine ⟨h.1, h.2.1, h.2.2.1, fun hn => ?_⟩
  obtain ⟨b, off, e, hb, hc⟩ := h.2.2.2 hn
  refine ⟨b, off, e, hb, fun i f hi => ?_⟩
  obtain ⟨h1, h2, h3⟩ := hc i f hi
  have := hk b off e hn
  exact ⟨(World.cell?_of_block (w := w) (a := ⟨b, _, none⟩) this).trans h1, (World.cell?_of_block (w := w) (a := ⟨b, _, none⟩) this).trans h2, (World.cell?_of_block (w := w) (a := ⟨b, _, none⟩) this).trans h3⟩
theorem KpC.keep {w w' : World} {b0 n c : Nat} {A : Option Addr} {l : List Ch} (h : KpC w b0 A n c l) (hf : Fr b0 w w') : KpC w' b0 A n c l := by
  have hk : ∀ b off, A = some ⟨b, off, none⟩ → 0 < n → w'.heap[b]? = w.heap[b]? := fun b off e hn => by
    rcases h.2 b off e hn with h1 | ⟨cs, h1⟩
    · exact hf.low b h1
    · exact (hf.ch b cs h1).trans h1.symm
  refine ⟨(h.1.lowB hf.size hk).more hf.size, fun b off e hn => ?_⟩
  rcases h.2 b off e hn with h1 | ⟨cs, h1⟩
  · exact .inl h1
  · exact .inr ⟨cs, hf.ch b cs h1⟩
theorem KpE.keep {w w' : World} {b0 n c : Nat} {A : Option Addr} {es : List (List Ch)} (h : KpE w b0 A n c es) (hf : Fr b0 w w') : KpE w' b0 A n c es := by
  refine ⟨h.1, h.2.1, h.2.2.1, fun hn => ?_⟩
  obtain ⟨b, off, e, hb, hlt, hc⟩ := h.2.2.2 hn
  have hk : w'.heap[b]? = w.heap[b]? := by
    rcases hb with h1 | ⟨cs, h1⟩
    · exact hf.low b h1
    · exact (hf.sl b cs h1).trans h1.symm
  refine ⟨b, off, e, ?_, Nat.lt_of_lt_of_le hlt hf.size, fun i x hi => ?_⟩
  · rcases hb with h1 | ⟨cs, h1⟩
    · exact .inl h1
    · exact .inr ⟨cs, hf.sl b cs h1⟩
  · obtain ⟨A', n', c', h1, h2⟩ := hc i x hi
    exact ⟨A', n', c', (World.cell?_of_block (w := w) (a := ⟨b, _, none⟩) hk).trans h1, h2.keep hf⟩
theorem KpE.rd {w : World} {b0 n c : Nat} {A : Option Addr} {es : List (List Ch)} (h : KpE w b0 A n c es) : RdE w w.heap.size A n c es :=
  ⟨h.1, h.2.1, h.2.2.1, fun hn => by
    obtain ⟨b, off, e, _, hlt, hc⟩ := h.2.2.2 hn
    refine ⟨b, off, e, hlt, fun i x hi => ?_⟩
    obtain ⟨A', n', c', h1, h2⟩ := hc i x hi
    exact ⟨A', n', c', h1, h2.1⟩⟩
theorem KpC.of_own {w : World} {base b0 : Nat} {v : Value} {l : List Ch} (h : w.ownsRow base tCh 3 v l.length (ccells l)) : ∃ A c, v = .slice A l.length c ∧ KpC w b0 A l.length c l := by
  obtain ⟨A, c, rfl, hr⟩ := RdC.of_own h
  refine ⟨A, c, rfl, hr, fun b off e hn => .inr ?_⟩
  rcases h.2 with ⟨h1, _⟩ | ⟨g, cap, cur, h1, _, hh, _⟩
  · injection h1 with h1
    rw [h1] at e; cases e
  · injection h1 with h1
    rw [h1] at e
    injection e with e
    injection e with e _
    subst e
    exact ⟨cur, hh⟩
theorem KpE.nil (w : World) (b0 : Nat) : KpE w b0 none 0 0 [] := ⟨rfl, Nat.le_refl _, Nat.zero_le _, fun h => absurd h (by omega)⟩
/-- An own row of slices, each kept, reads as entries. -/
theorem KpE.of_own {w : World} {base b0 n : Nat} {v : Value} {vs : List Value} {es : List (List Ch)} (h : w.ownsRow base tSl 1 v n vs) (hn : es.length = n) (hv : ∀ (i : Nat) (x : Value) (e : List Ch), vs[i]? = some x → es[i]? = some e → ∃ A c, x = .slice A e.length c ∧ KpC w b0 A e.length c e) :
    ∃ A c, v = .slice A n c ∧ KpE w b0 A n c es := by
  rcases h.2 with ⟨rfl, rfl⟩ | ⟨g, cap, cur, rfl, hb, hh, h1, h2, h3, h4⟩
  · obtain rfl : es = [] := List.eq_nil_of_length_eq_zero hn
    exact ⟨none, 0, rfl, KpE.nil _ _⟩
  · have hbk : Blk w g tSl cur := hh
    refine ⟨_, cap, rfl, hn, h1, h2, fun hpos => ⟨g, 0, rfl, .inr ⟨cur, hbk⟩, hbk.lt, fun i e hi => ?_⟩⟩
    have hil := (List.getElem?_eq_some_iff.1 hi).1
    have hvl : vs.length = n := by have := h.1; omega
    obtain ⟨x, hx⟩ : ∃ x, vs[i]? = some x := ⟨_, List.getElem?_eq_getElem (by omega)⟩
    obtain ⟨A, c, rfl, hk⟩ := hv i x e hx hi
    refine ⟨A, e.length, c, ?_, hk⟩
    rw [hbk.cell, Nat.zero_add, ← Array.getElem?_toList]
    rw [← h4, List.getElem?_take] at hx
    split at hx
    · exact hx
    · cases hx
theorem kpE_of_lgst {w wr : World} {pl p fr mn fi u : Nat} {v v5 : Value} {es : List (List Ch)} {cs : List Ch} (b0 : Nat) (h : LgSt w pl p fr mn fi u v v5 es cs wr) : ∃ A c, v = .slice A es.length c ∧ KpE wr b0 A es.length c es := by
  obtain ⟨M, vs, h1, h2, _⟩ := h.ent
  exact KpE.of_own h2 rfl fun i x e hx he => KpC.of_own (h1.2 i x e hx he).1
theorem KpC.low {w : World} {b0 n c : Nat} {A : Option Addr} {l : List Ch} (h : RdC w b0 A n c l) (hb : b0 ≤ w.heap.size) : KpC w b0 A n c l :=
  ⟨h.more hb, fun b off e hn => by
    obtain ⟨b', off', e', h1, _⟩ := h.2.2.2 hn
    rw [e] at e'
    injection e' with e'
    injection e' with e' _
    exact .inl (by omega)⟩
/-- The error that adding a list of changes comes to. -/
def FvOk (mn u : Nat) (l : List Ch) (fv : Int) : Prop := (40 < l.length ∧ fv = 2) ∨ (l.length ≤ 40 ∧ mn < u + l.length + 1 ∧ fv = 10) ∨ (l.length ≤ 40 ∧ u + l.length + 1 ≤ mn ∧ ∃ (k : Nat) (c : Ch), l[k]? = some c ∧ ckR c ≠ 0 ∧ (∀ (j : Nat) (d : Ch), j < k → l[j]? = some d → ckR d = 0) ∧ fv = ckR c)
def NoFv (mn u : Nat) (l : List Ch) : Prop := l.length ≤ 40 ∧ u + l.length + 1 ≤ mn ∧ ∀ c ∈ l, ckR c = 0
theorem FvOk.not {mn u : Nat} {l : List Ch} {fv : Int} (h : FvOk mn u l fv) : ¬ NoFv mn u l := by
  rintro ⟨h1, h2, h3⟩
  rcases h with ⟨h, _⟩ | ⟨_, h, _⟩ | ⟨_, _, k, c, hk, hc, _⟩
  · omega
  · omega
  · exact hc (h3 c (List.mem_of_getElem? hk))
theorem FvOk.eq {mn u : Nat} {l : List Ch} {a b : Int} (h : FvOk mn u l a) (h' : FvOk mn u l b) : a = b := by
  rcases h with ⟨h, rfl⟩ | ⟨h1, h, rfl⟩ | ⟨h1, h, k, c, hk, hc, hf, rfl⟩
  · rcases h' with ⟨_, rfl⟩ | ⟨h2, _⟩ | ⟨h2, _⟩
    · rfl
    · omega
    · omega
  · rcases h' with ⟨h2, _⟩ | ⟨_, _, rfl⟩ | ⟨_, h2, _⟩
    · omega
    · rfl
    · omega
  · rcases h' with ⟨h2, _⟩ | ⟨_, h2, _⟩ | ⟨_, _, k', c', hk', hc', hf', rfl⟩
    · omega
    · omega
    · rcases Nat.lt_trichotomy k k' with h3 | rfl | h3
      · exact absurd (hf' k c h3 hk) hc
      · rw [hk] at hk'
        injection hk' with hk'
        rw [hk']
      · exact absurd (hf k' c' h3 hk') hc'
theorem FvOk.pos {mn u : Nat} {l : List Ch} {fv : Int} (h : FvOk mn u l fv) : 0 < fv := by
  rcases h with ⟨_, rfl⟩ | ⟨_, _, rfl⟩ | ⟨_, _, k, c, _, hc, _, rfl⟩
  · omega
  · omega
  · rcases ckR_cases c with h | h | h <;> omega
/-- The sectors of a log, as they read now. -/
def nowF (D : Dk) (fr : Nat) : Nat → ByteArray := fun i => nowB (D.sec (fr + i))
theorem stand_done {D D' : Dk} {fr mn fi u : Nat} {l : List Ch} (h : EDone D (fr + u) (rsR (mn - u) (entR (fi + u) l)) (s0R (fi + u) l) D') (hf : fr + mn ≤ D.n) (hu : u ≤ mn) : Stand (nowF D' fr) (nowF D fr) u mn (entR (fi + u) l) := by
  refine ⟨fun j hj => ?_, fun s hs => ?_, fun j s hj => ?_⟩
  · unfold nowF
    rw [now_flat (h.ws _)]
    exact h.out _ (by omega) (.inl (by omega))
  · rw [s0R_at] at hs
    injection hs with hs
    unfold nowF
    rw [now_flat (h.ws _), h.at_, hs]
  · unfold nowF
    rw [now_flat (h.ws _), show fr + (u + 1 + j) = fr + u + 1 + j by omega]
    exact h.in_ j s hj
/-- Add on a disk that is neither armed nor down. -/
theorem LaR.good {D D' : Dk} {fr mn fi u u' : Nat} {l : List Ch} {er : Int} {es : List (List Ch)} (h : LaR D fr mn fi u l er D' u') (hg : Good D) (hw : WOk D 1) (hf : fr + mn ≤ D.n) (hrd : rdR (nowF D fr) fi mn 0 [] [] 0 = (es, u)) :
    (FvOk mn u l er ∧ D' = D ∧ u' = u) ∨ (er = 0 ∧ NoFv mn u l ∧ u' = u + l.length + 1 ∧ Good D' ∧ (∀ k, k < 64 → WOk D' k) ∧ D'.n = D.n ∧ rdR (nowF D' fr) fi mn 0 [] [] 0 = (es ++ [l], u + l.length + 1)) := by
  have hwe : l.length ≤ 40 → u + l.length + 1 ≤ mn → (∀ c ∈ l, ckR c = 0) → ((weL D fr mn fi u l).2 = 0 ∧ Good (weL D fr mn fi u l).1) ∧ EDone D (fr + u) (rsR (mn - u) (entR (fi + u) l)) (s0R (fi + u) l) (weL D fr mn fi u l).1 := fun h1 h2 h3 => by
    have hlen := entR_len (fi + u) l
    have hrs := rsR_len (room := mn - u) (ss := entR (fi + u) l) (by omega) (by omega)
    have a1 : fr + u + 1 + (rsR (mn - u) (entR (fi + u) l)).length ≤ D.n := by omega
    have a2 := rsR_small (room := mn - u) (entR_small (n := fi + u) h3)
    have a3 := entR_small (n := fi + u) h3 _ (List.mem_of_getElem? (s0R_at (fi + u) l))
    have hgd := good_weR D (fr + u) (rsR (mn - u) (entR (fi + u) l)) (s0R (fi + u) l) a1 a2 a3 (by omega) hw hg
    refine ⟨hgd, ?_⟩
    rcases weR_spec D (fr + u) (rsR (mn - u) (entR (fi + u) l)) (s0R (fi + u) l) a1 a2 a3 (by omega) hw with ⟨_, h⟩ | ⟨h, _⟩
    · exact h
    · rw [hgd.1] at h; cases h
  cases h with
  | many h1 => exact .inl ⟨.inl ⟨h1, rfl⟩, rfl, rfl⟩
  | full h1 h2 => exact .inl ⟨.inr (.inl ⟨h1, h2, rfl⟩), rfl, rfl⟩
  | bad k c h1 h2 h3 h4 h5 => exact .inl ⟨.inr (.inr ⟨h1, h2, k, c, h3, h4, h5, rfl⟩), rfl, rfl⟩
  | down h1 h2 h3 h4 => have := (hwe h1 h2 h3).1.1; rw [this] at h4; cases h4
  | ok h1 h2 h3 h4 =>
    obtain ⟨⟨_, hgd⟩, hed⟩ := hwe h1 h2 h3
    exact .inr ⟨rfl, ⟨h1, h2, h3⟩, rfl, hgd, fun k hk => wok_e hed hk, hed.n_, read_added hrd h3 (by omega) (stand_done hed hf (by omega))⟩
theorem new_now (n i : Nat) : nowB ((newD n).sec i) = padB blB := by
  show (⟨Array.replicate 340 0⟩ : ByteArray) = ⟨#[] ++ Array.replicate (340 - 0) 0⟩
  simp
theorem new_read (n fr fi mn : Nat) : rdR (nowF (newD n) fr) fi mn 0 [] [] 0 = ([], 0) := rdR_stop _ _ _ _ _ _ _ fun _ => new_now n _
theorem new_wok (n k : Nat) (h : k < 64) : WOk (newD n) k := ⟨by show -9223372036854775808 ≤ (-1 : Int) ∧ (-1 : Int) ≤ 9223372036854775807; omega, by show 0 + k < 64; omega, fun i _ x hx => (by cases hx), fun i _ => Nat.zero_le _⟩
theorem new_goodD (n : Nat) : Good (newD n) := ⟨rfl, rfl⟩
end Go.Proofs.Ytgkenknplepmeaa
