/-
  WALK: hammerpondlaw.logs; log.Open as LogSays and TopLog use it.
-/
import Derived.Test.YtgkenknplepmeaaLgO
namespace Go.Proofs.Ytgkenknplepmeaa
open Go.RowKit Go.Sort

def ScPost (w : World) (b : Bool) (e : Ending) (w' : World) : Prop := e = .returned (.bool b) ∧ ∃ k, w' = w.drewN k
def ScRel (w : World) (n : Nat) (l l' : List Ch) (i : Value) (wr : World) : Prop := ∃ k : Nat, k ≤ n ∧ i = .int .i64 k ∧ (∀ j : Nat, j < k → l[j]? = l'[j]?) ∧ ∃ q, wr = w.drewN q
set_option maxHeartbeats 2000000 in
set_option maxRecDepth 100000 in
theorem sameC_gen (A A' : Option Addr) (n n' c c' B B' : Nat) (l l' : List Ch) (w : World) (h : RdC w B A n c l) (h' : RdC w B' A' n' c' l') (b0 : Bool) (hb0 : b0 = true ↔ l = l') :
    Calls Try.prog 37 #[.slice A n c, .slice A' n' c'] w (ScPost w b0) := by
  have hm := h.2.2.1
  have hnc := h.2.1
  have hm' := h'.2.2.1
  have hnc' := h'.2.1
  unfold maxLen at hm hm'
  by_cases hll : l = l'
  · subst hll
    obtain rfl : n = n' := by rw [← h.1, ← h'.1]
    refine (sameC_any A A' n c c' B B' l w h h').mono ?_
    rintro e w1 ⟨rfl, hk⟩
    exact ⟨by rw [hb0.2 rfl], hk⟩
  obtain rfl : b0 = false := by
    cases b0 with
    | false => rfl
    | true => exact absurd (hb0.1 rfl) hll
  have HR := Lib.hid h
  have HR' := Lib.hid h'
  have HLL := Lib.hid hll
  clear h h' hll hb0
  by_cases hn : n = n'
  · subst hn
    go_enter Try.func37, Try.ntmps37
    go_wp2
    go_loopw [5] (fun i wr => ScRel w n l l' i wr) (fun i _ => n - (intOf i).toNat)
    case atStart => exact ⟨0, Nat.zero_le _, rfl, fun j hj => absurd hj (Nat.not_lt_zero j), 0, rfl⟩
    case round =>
      obtain ⟨k, hk, rfl, hpre, q, rfl⟩ := hrel
      have HPRE := Lib.hid hpre
      clear hpre
      by_cases hlt : k < n
      · obtain ⟨f, hf⟩ : ∃ f, l[k]? = some f := ⟨_, List.getElem?_eq_getElem (by rw [HR.out.1]; exact hlt)⟩
        obtain ⟨f', hf'⟩ : ∃ f, l'[k]? = some f := ⟨_, List.getElem?_eq_getElem (by rw [HR'.out.1]; exact hlt)⟩
        obtain ⟨b, off, rfl, hbb, hc1, hc2, hc3⟩ := HR.out.at_ hf
        obtain ⟨b', off', rfl, hbb', hc1', hc2', hc3'⟩ := HR'.out.at_ hf'
        have HF := Lib.hid hf
        have HF' := Lib.hid hf'
        clear hf hf'
        obtain ⟨x, t, g⟩ := f
        obtain ⟨x', t', g'⟩ := f'
        have hiz : (k : Int) < (n : Int) := by omega
        by_cases hx : x.toList = x'.toList
        · have hxb : (x.toList == x'.toList) = true := by rw [hx]; simp
          by_cases ht : t.toList = t'.toList
          · have htb : (t.toList == t'.toList) = true := by rw [ht]; simp
            by_cases hg : g = g'
            · subst hg
              have hgb : (g == g) = true := by simp
              go_wp2
              go_quiet (fail)
              go_wp2
              go_roundw
              case rel => exact ⟨k + 1, by omega, by go_num, fun j hj => by
                rcases Nat.lt_or_ge j k with h1 | h1
                · exact HPRE.out j h1
                · obtain rfl : j = k := by omega
                  rw [HF.out, HF'.out, toList_inj hx, toList_inj ht], by first | exact ⟨_, rfl⟩ | exact ⟨_, World.drewN_drewN _ _ _⟩⟩
              case measure => simp [intOf]; omega
            · have hgb : (g == g') = false := by rw [beq_eq_false_iff_ne]; exact hg
              go_wp2
              go_quiet (fail)
              go_wp2
              go_ret
              exact ⟨rfl, _, by first | rfl | exact World.drewN_drewN _ _ _⟩
          · have htb : (t.toList == t'.toList) = false := by rw [beq_eq_false_iff_ne]; exact ht
            go_wp2
            go_quiet (fail)
            go_wp2
            go_ret
            exact ⟨rfl, _, by first | rfl | exact World.drewN_drewN _ _ _⟩
        · have hxb : (x.toList == x'.toList) = false := by rw [beq_eq_false_iff_ne]; exact hx
          go_wp2
          go_quiet (fail)
          go_wp2
          go_ret
          exact ⟨rfl, _, by first | rfl | exact World.drewN_drewN _ _ _⟩
      · obtain rfl : k = n := by omega
        exact absurd (List.ext_getElem? fun j => by
          rcases Nat.lt_or_ge j k with h1 | h1
          · exact HPRE.out j h1
          · rw [List.getElem?_eq_none (by rw [HR.out.1]; exact h1), List.getElem?_eq_none (by rw [HR'.out.1]; exact h1)]) HLL.out
  · have hnz : ((n : Int) == (n' : Int)) = false := by rw [beq_eq_false_iff_ne]; omega
    have hnz2 : ¬ ((n : Int) = (n' : Int)) := by omega
    go_enter Try.func37, Try.ntmps37
    go_wp2
    go_ret
    exact ⟨rfl, 0, rfl⟩
/-- A slice that reads as entries; all lie below B. -/
def RdE (w : World) (B : Nat) (A : Option Addr) (n c : Nat) (es : List (List Ch)) : Prop :=
  es.length = n ∧ n ≤ c ∧ c ≤ maxLen ∧ (0 < n → ∃ b off, A = some ⟨b, off, none⟩ ∧ b < B ∧ ∀ (i : Nat) (e : List Ch), es[i]? = some e → ∃ A' n' c', w.cell? ⟨b, off + i, none⟩ = some (.slice A' n' c') ∧ RdC w B A' n' c' e)
theorem RdE.at_ {w : World} {B : Nat} {A : Option Addr} {n c : Nat} {es : List (List Ch)} (h : RdE w B A n c es) {i : Nat} {e : List Ch} (he : es[i]? = some e) : ∃ b off, A = some ⟨b, off, none⟩ ∧ b < B ∧ ∃ A' n' c', w.cell? ⟨b, off + i, none⟩ = some (.slice A' n' c') ∧ RdC w B A' n' c' e := by
  have hl : i < es.length := (List.getElem?_eq_some_iff.1 he).1
  obtain ⟨b, off, e1, hb, hc⟩ := h.2.2.2 (by have := h.1; omega)
  exact ⟨b, off, e1, hb, hc i e he⟩
theorem RdC.drewN {w : World} {B n c : Nat} {A : Option Addr} {l : List Ch} (h : RdC w B A n c l) (q : Nat) : RdC (w.drewN q) B A n c l := h.keep fun _ _ => rfl
def SdRel (w : World) (n : Nat) (es es' : List (List Ch)) (i : Value) (wr : World) : Prop := ∃ k : Nat, k ≤ n ∧ i = .int .i64 k ∧ (∀ j : Nat, j < k → es[j]? = es'[j]?) ∧ ∃ q, wr = w.drewN q
set_option maxHeartbeats 2000000 in
set_option maxRecDepth 100000 in
theorem sameD_gen (A A' : Option Addr) (n n' c c' B B' : Nat) (es es' : List (List Ch)) (w : World) (h : RdE w B A n c es) (h' : RdE w B' A' n' c' es') (b0 : Bool) (hb0 : b0 = true ↔ es = es') :
    Calls Try.prog 43 #[.slice A n c, .slice A' n' c'] w (ScPost w b0) := by
  have hm := h.2.2.1
  have hnc := h.2.1
  have hm' := h'.2.2.1
  have hnc' := h'.2.1
  unfold maxLen at hm hm'
  have HR := Lib.hid h
  have HR' := Lib.hid h'
  have HB0 := Lib.hid hb0
  clear h h' hb0
  by_cases hn : n = n'
  · subst hn
    go_enter Try.func43, Try.ntmps43
    go_wp2
    go_loopw [5] (fun i wr => SdRel w n es es' i wr) (fun i _ => n - (intOf i).toNat)
    case atStart => exact ⟨0, Nat.zero_le _, rfl, fun j hj => absurd hj (Nat.not_lt_zero j), 0, rfl⟩
    case round =>
      obtain ⟨k, hk, rfl, hpre, hq⟩ := hrel
      have HQ := Lib.hid hq
      have HRw : Hid (RdE wr B A n c es) := by obtain ⟨q, rfl⟩ := hq; exact HR.out
      have HRw' : Hid (RdE wr B' A' n c' es') := by obtain ⟨q, rfl⟩ := hq; exact HR'.out
      clear hq
      have HPRE := Lib.hid hpre
      clear hpre
      by_cases hlt : k < n
      · obtain ⟨f, hf⟩ : ∃ f, es[k]? = some f := ⟨_, List.getElem?_eq_getElem (by rw [HR.out.1]; exact hlt)⟩
        obtain ⟨f', hf'⟩ : ∃ f, es'[k]? = some f := ⟨_, List.getElem?_eq_getElem (by rw [HR'.out.1]; exact hlt)⟩
        obtain ⟨b, off, rfl, hbb, A1, n1, c1, hc1, hr1⟩ := HRw.out.at_ hf
        obtain ⟨b', off', rfl, hbb', A2, n2, c2, hc2, hr2⟩ := HRw'.out.at_ hf'
        have hiz : (k : Int) < (n : Int) := by omega
        have HF := Lib.hid hf
        have HF' := Lib.hid hf'
        by_cases hff : f = f'
        · have HC := Lib.hid (fun q' => sameC_gen A1 A2 n1 n2 c1 c2 B B' f f' (wr.drewN q') (hr1.drewN q') (hr2.drewN q') true ⟨fun _ => hff, fun _ => rfl⟩)
          unfold ScPost at HC
          clear hf hf' hr1 hr2
          go_wp2_with fail
          go_quiet (first | (go_at_call 37; exact Calls.quiet_of (HC.out _)))
          go_wp2
          go_roundw
          case rel => exact ⟨k + 1, by omega, by go_num, fun j hj => by
            rcases Nat.lt_or_ge j k with h1 | h1
            · exact HPRE.out j h1
            · obtain rfl : j = k := by omega
              rw [HF.out, HF'.out, hff], by obtain ⟨q, hq⟩ := HQ.out; rw [hq]; exact ⟨_, World.drewN_drewN _ _ _⟩⟩
          case measure => simp [intOf]; omega
        · have HC := Lib.hid (fun q' => sameC_gen A1 A2 n1 n2 c1 c2 B B' f f' (wr.drewN q') (hr1.drewN q') (hr2.drewN q') false ⟨fun h => (by cases h), fun h => absurd h hff⟩)
          unfold ScPost at HC
          clear hf hf' hr1 hr2
          obtain rfl : b0 = false := by
            cases b0 with
            | false => rfl
            | true =>
              have h1 := HF.out
              rw [HB0.out.1 rfl, HF'.out] at h1
              injection h1 with h1
              exact absurd h1.symm hff
          go_wp2_with fail
          go_quiet (first | (go_at_call 37; exact Calls.quiet_of (HC.out _)))
          go_wp2
          go_ret
          obtain ⟨q, hq⟩ := HQ.out
          exact ⟨rfl, _, by rw [hq]; exact World.drewN_drewN _ _ _⟩
      · obtain rfl : k = n := by omega
        obtain rfl : b0 = true := HB0.out.2 (List.ext_getElem? fun j => by
          rcases Nat.lt_or_ge j k with h1 | h1
          · exact HPRE.out j h1
          · rw [List.getElem?_eq_none (by rw [HR.out.1]; exact h1), List.getElem?_eq_none (by rw [HR'.out.1]; exact h1)])
        go_wp2
        go_ret
        exact ⟨rfl, HQ.out⟩
  · have hnz : ((n : Int) == (n' : Int)) = false := by rw [beq_eq_false_iff_ne]; omega
    have hnz2 : ¬ ((n : Int) = (n' : Int)) := by omega
    obtain rfl : b0 = false := by
      cases b0 with
      | false => rfl
      | true => exact absurd (by rw [← HR.out.1, ← HR'.out.1, HB0.out.1 rfl]) hn
    go_enter Try.func43, Try.ntmps43
    go_wp2
    go_ret
    exact ⟨rfl, 0, rfl⟩
end Go.Proofs.Ytgkenknplepmeaa
namespace Go.Proofs.Ytgkenknplepmeaa
open Go.RowKit Go.Sort

/-- Changes that lie below b0 or in a block of changes. -/
def KpC (w : World) (b0 : Nat) (A : Option Addr) (n c : Nat) (l : List Ch) : Prop := RdC w w.heap.size A n c l ∧ ∀ b off, A = some ⟨b, off, none⟩ → 0 < n → b < b0 ∨ ∃ cs, Blk w b tCh cs
/-- Entries, likewise. -/
def KpE (w : World) (b0 : Nat) (A : Option Addr) (n c : Nat) (es : List (List Ch)) : Prop :=
  es.length = n ∧ n ≤ c ∧ c ≤ maxLen ∧ (0 < n → ∃ b off, A = some ⟨b, off, none⟩ ∧ (b < b0 ∨ ∃ cs, Blk w b tSl cs) ∧ b < w.heap.size ∧ ∀ (i : Nat) (e : List Ch), es[i]? = some e → ∃ A' n' c', w.cell? ⟨b, off + i, none⟩ = some (.slice A' n' c') ∧ KpC w b0 A' n' c' e)
/-- What is below b0 stands, and so do the blocks of changes and of slices. -/
structure Fr (b0 : Nat) (w w' : World) : Prop where
  size : w.heap.size ≤ w'.heap.size
  low : ∀ k, k < b0 → w'.heap[k]? = w.heap[k]?
  ch : ∀ k cs, Blk w k tCh cs → Blk w' k tCh cs
  sl : ∀ k cs, Blk w k tSl cs → Blk w' k tSl cs
theorem Fr.refl (b0 : Nat) (w : World) : Fr b0 w w := ⟨Nat.le_refl _, fun _ _ => rfl, fun _ _ h => h, fun _ _ h => h⟩
theorem Fr.trans {b0 : Nat} {a b c : World} (h : Fr b0 a b) (k : Fr b0 b c) : Fr b0 a c := ⟨Nat.le_trans h.size k.size, fun i hi => (k.low i hi).trans (h.low i hi), fun i cs hb => k.ch i cs (h.ch i cs hb), fun i cs hb => k.sl i cs (h.sl i cs hb)⟩
theorem Fr.of_below {b0 : Nat} {w w' : World} (h : Below w.heap.size w w') (hb : b0 ≤ w.heap.size) : Fr b0 w w' := ⟨h.size, fun k hk => h.block k (by omega), fun k _ hb => (h.block k hb.lt).trans hb, fun k _ hb => (h.block k hb.lt).trans hb⟩
theorem Fr.of_tyx {b0 pl : Nat} {w w' : World} {cs0 : Array Value} (h : TyX w w' pl) (hb : Below b0 w w') (hl : Blk w pl tLog cs0) : Fr b0 w w' :=
  ⟨hb.size, fun k hk => hb.block k hk, fun k cs hk => h k tCh cs hk (by decide) (by decide) (by decide) (hk.ne hl (by decide)), fun k cs hk => h k tSl cs hk (by decide) (by decide) (by decide) (hk.ne hl (by decide))⟩
theorem Fr.of_ty {b0 : Nat} {w w' : World} (h : Ty w w') (hb : Below b0 w w') : Fr b0 w w' :=
  ⟨hb.size, fun k hk => hb.block k hk, fun k cs hk => h k tCh cs hk (by decide) (by decide) (by decide), fun k cs hk => h k tSl cs hk (by decide) (by decide) (by decide)⟩
theorem Fr.of_upd {b0 pl : Nat} {w w' : World} {cs0 : Array Value} (h : Upd w w' (fun k => k = pl)) (hl : Blk w pl tLog cs0) (hb : b0 ≤ pl) : Fr b0 w w' :=
  ⟨h.size, fun k hk => h.block k (by have := hl.lt; omega) (by omega), fun k cs hk => (h.block k hk.lt (hk.ne hl (by decide))).trans hk, fun k cs hk => (h.block k hk.lt (hk.ne hl (by decide))).trans hk⟩
theorem Fr.drewN {b0 : Nat} {w w' : World} (h : Fr b0 w w') (q : Nat) : Fr b0 w (w'.drewN q) := ⟨h.size, h.low, h.ch, h.sl⟩
theorem RdC.lowB {w w' : World} {B n c : Nat} {A : Option Addr} {l : List Ch} (h : RdC w B A n c l) (hB : w.heap.size ≤ w'.heap.size) (hk : ∀ b off, A = some ⟨b, off, none⟩ → 0 < n → w'.heap[b]? = w.heap[b]?) : RdC w' B A n c l := by
  refine ⟨h.1, h.2.1, h.2.2.1, fun hn => ?_⟩
  obtain ⟨b, off, e, hb, hc⟩ := h.2.2.2 hn
  refine ⟨b, off, e, hb, fun i f hi => ?_⟩
  obtain ⟨h1, h2, h3⟩ := hc i f hi
  have := hk b off e hn
  exact ⟨(World.cell?_of_block (w := w) (a := ⟨b, _, none⟩) this).trans h1, (World.cell?_of_block (w := w) (a := ⟨b, _, none⟩) this).trans h2, (World.cell?_of_block (w := w) (a := ⟨b, _, none⟩) this).trans h3⟩
theorem KpC.keep {w w' : World} {b0 n c : Nat} {A : Option Addr} {l : List Ch} (h : KpC w b0 A n c l) (hf : Fr b0 w w') : KpC w' b0 A n c l := by
  have hk : ∀ b off, A = some ⟨b, off, none⟩ → 0 < n → w'.heap[b]? = w.heap[b]? := fun b off e hn => by
    rcases h.2 b off e hn with h1 | ⟨cs, h1⟩
    · exact hf.low b h1
    · exact (hf.ch b cs h1).trans h1.symm
  refine ⟨(h.1.lowB hf.size hk).more hf.size, fun b off e hn => ?_⟩
  rcases h.2 b off e hn with h1 | ⟨cs, h1⟩
  · exact .inl h1
  · exact .inr ⟨cs, hf.ch b cs h1⟩
theorem KpE.keep {w w' : World} {b0 n c : Nat} {A : Option Addr} {es : List (List Ch)} (h : KpE w b0 A n c es) (hf : Fr b0 w w') : KpE w' b0 A n c es := by
  refine ⟨h.1, h.2.1, h.2.2.1, fun hn => ?_⟩
  obtain ⟨b, off, e, hb, hlt, hc⟩ := h.2.2.2 hn
  have hk : w'.heap[b]? = w.heap[b]? := by
    rcases hb with h1 | ⟨cs, h1⟩
    · exact hf.low b h1
    · exact (hf.sl b cs h1).trans h1.symm
  refine ⟨b, off, e, ?_, Nat.lt_of_lt_of_le hlt hf.size, fun i x hi => ?_⟩
  · rcases hb with h1 | ⟨cs, h1⟩
    · exact .inl h1
    · exact .inr ⟨cs, hf.sl b cs h1⟩
  · obtain ⟨A', n', c', h1, h2⟩ := hc i x hi
    exact ⟨A', n', c', (World.cell?_of_block (w := w) (a := ⟨b, _, none⟩) hk).trans h1, h2.keep hf⟩
theorem KpE.rd {w : World} {b0 n c : Nat} {A : Option Addr} {es : List (List Ch)} (h : KpE w b0 A n c es) : RdE w w.heap.size A n c es :=
  ⟨h.1, h.2.1, h.2.2.1, fun hn => by
    obtain ⟨b, off, e, _, hlt, hc⟩ := h.2.2.2 hn
    refine ⟨b, off, e, hlt, fun i x hi => ?_⟩
    obtain ⟨A', n', c', h1, h2⟩ := hc i x hi
    exact ⟨A', n', c', h1, h2.1⟩⟩
theorem KpC.of_own {w : World} {base b0 : Nat} {v : Value} {l : List Ch} (h : w.ownsRow base tCh 3 v l.length (ccells l)) : ∃ A c, v = .slice A l.length c ∧ KpC w b0 A l.length c l := by
  obtain ⟨A, c, rfl, hr⟩ := RdC.of_own h
  refine ⟨A, c, rfl, hr, fun b off e hn => .inr ?_⟩
  rcases h.2 with ⟨h1, _⟩ | ⟨g, cap, cur, h1, _, hh, _⟩
  · injection h1 with h1
    rw [h1] at e; cases e
  · injection h1 with h1
    rw [h1] at e
    injection e with e
    injection e with e _
    subst e
    exact ⟨cur, hh⟩
theorem KpE.nil (w : World) (b0 : Nat) : KpE w b0 none 0 0 [] := ⟨rfl, Nat.le_refl _, Nat.zero_le _, fun h => absurd h (by omega)⟩
/-- An own row of slices, each kept, reads as entries. -/
theorem KpE.of_own {w : World} {base b0 n : Nat} {v : Value} {vs : List Value} {es : List (List Ch)} (h : w.ownsRow base tSl 1 v n vs) (hn : es.length = n) (hv : ∀ (i : Nat) (x : Value) (e : List Ch), vs[i]? = some x → es[i]? = some e → ∃ A c, x = .slice A e.length c ∧ KpC w b0 A e.length c e) :
    ∃ A c, v = .slice A n c ∧ KpE w b0 A n c es := by
  rcases h.2 with ⟨rfl, rfl⟩ | ⟨g, cap, cur, rfl, hb, hh, h1, h2, h3, h4⟩
  · obtain rfl : es = [] := List.eq_nil_of_length_eq_zero hn
    exact ⟨none, 0, rfl, KpE.nil _ _⟩
  · have hbk : Blk w g tSl cur := hh
    refine ⟨_, cap, rfl, hn, h1, h2, fun hpos => ⟨g, 0, rfl, .inr ⟨cur, hbk⟩, hbk.lt, fun i e hi => ?_⟩⟩
    have hil := (List.getElem?_eq_some_iff.1 hi).1
    have hvl : vs.length = n := by have := h.1; omega
    obtain ⟨x, hx⟩ : ∃ x, vs[i]? = some x := ⟨_, List.getElem?_eq_getElem (by omega)⟩
    obtain ⟨A, c, rfl, hk⟩ := hv i x e hx hi
    refine ⟨A, e.length, c, ?_, hk⟩
    rw [hbk.cell, Nat.zero_add, ← Array.getElem?_toList]
    rw [← h4, List.getElem?_take] at hx
    split at hx
    · exact hx
    · cases hx
theorem kpE_of_lgst {w wr : World} {pl p fr mn fi u : Nat} {v v5 : Value} {es : List (List Ch)} {cs : List Ch} (b0 : Nat) (h : LgSt w pl p fr mn fi u v v5 es cs wr) : ∃ A c, v = .slice A es.length c ∧ KpE wr b0 A es.length c es := by
  obtain ⟨M, vs, h1, h2, _⟩ := h.ent
  exact KpE.of_own h2 rfl fun i x e hx he => KpC.of_own (h1.2 i x e hx he).1
theorem KpC.low {w : World} {b0 n c : Nat} {A : Option Addr} {l : List Ch} (h : RdC w b0 A n c l) (hb : b0 ≤ w.heap.size) : KpC w b0 A n c l :=
  ⟨h.more hb, fun b off e hn => by
    obtain ⟨b', off', e', h1, _⟩ := h.2.2.2 hn
    rw [e] at e'
    injection e' with e'
    injection e' with e' _
    exact .inl (by omega)⟩
/-- The error that adding a list of changes comes to. -/
def FvOk (mn u : Nat) (l : List Ch) (fv : Int) : Prop := (40 < l.length ∧ fv = 2) ∨ (l.length ≤ 40 ∧ mn < u + l.length + 1 ∧ fv = 10) ∨ (l.length ≤ 40 ∧ u + l.length + 1 ≤ mn ∧ ∃ (k : Nat) (c : Ch), l[k]? = some c ∧ ckR c ≠ 0 ∧ (∀ (j : Nat) (d : Ch), j < k → l[j]? = some d → ckR d = 0) ∧ fv = ckR c)
def NoFv (mn u : Nat) (l : List Ch) : Prop := l.length ≤ 40 ∧ u + l.length + 1 ≤ mn ∧ ∀ c ∈ l, ckR c = 0
theorem FvOk.not {mn u : Nat} {l : List Ch} {fv : Int} (h : FvOk mn u l fv) : ¬ NoFv mn u l := by
  rintro ⟨h1, h2, h3⟩
  rcases h with ⟨h, _⟩ | ⟨_, h, _⟩ | ⟨_, _, k, c, hk, hc, _⟩
  · omega
  · omega
  · exact hc (h3 c (List.mem_of_getElem? hk))
theorem FvOk.eq {mn u : Nat} {l : List Ch} {a b : Int} (h : FvOk mn u l a) (h' : FvOk mn u l b) : a = b := by
  rcases h with ⟨h, rfl⟩ | ⟨h1, h, rfl⟩ | ⟨h1, h, k, c, hk, hc, hf, rfl⟩
  · rcases h' with ⟨_, rfl⟩ | ⟨h2, _⟩ | ⟨h2, _⟩
    · rfl
    · omega
    · omega
  · rcases h' with ⟨h2, _⟩ | ⟨_, _, rfl⟩ | ⟨_, h2, _⟩
    · omega
    · rfl
    · omega
  · rcases h' with ⟨h2, _⟩ | ⟨_, h2, _⟩ | ⟨_, _, k', c', hk', hc', hf', rfl⟩
    · omega
    · omega
    · rcases Nat.lt_trichotomy k k' with h3 | rfl | h3
      · exact absurd (hf' k c h3 hk) hc
      · rw [hk] at hk'
        injection hk' with hk'
        rw [hk']
      · exact absurd (hf k' c' h3 hk') hc'
theorem FvOk.pos {mn u : Nat} {l : List Ch} {fv : Int} (h : FvOk mn u l fv) : 0 < fv := by
  rcases h with ⟨_, rfl⟩ | ⟨_, _, rfl⟩ | ⟨_, _, k, c, _, hc, _, rfl⟩
  · omega
  · omega
  · rcases ckR_cases c with h | h | h <;> omega
/-- The sectors of a log, as they read now. -/
def nowF (D : Dk) (fr : Nat) : Nat → ByteArray := fun i => nowB (D.sec (fr + i))
theorem stand_done {D D' : Dk} {fr mn fi u : Nat} {l : List Ch} (h : EDone D (fr + u) (rsR (mn - u) (entR (fi + u) l)) (s0R (fi + u) l) D') (hf : fr + mn ≤ D.n) (hu : u ≤ mn) : Stand (nowF D' fr) (nowF D fr) u mn (entR (fi + u) l) := by
  refine ⟨fun j hj => ?_, fun s hs => ?_, fun j s hj => ?_⟩
  · unfold nowF
    rw [now_flat (h.ws _)]
    exact h.out _ (by omega) (.inl (by omega))
  · rw [s0R_at] at hs
    injection hs with hs
    unfold nowF
    rw [now_flat (h.ws _), h.at_, hs]
  · unfold nowF
    rw [now_flat (h.ws _), show fr + (u + 1 + j) = fr + u + 1 + j by omega]
    exact h.in_ j s hj
/-- Add on a disk that is neither armed nor down. -/
theorem LaR.good {D D' : Dk} {fr mn fi u u' : Nat} {l : List Ch} {er : Int} {es : List (List Ch)} (h : LaR D fr mn fi u l er D' u') (hg : Good D) (hw : WOk D 1) (hf : fr + mn ≤ D.n) (hrd : rdR (nowF D fr) fi mn 0 [] [] 0 = (es, u)) :
    (FvOk mn u l er ∧ D' = D ∧ u' = u) ∨ (er = 0 ∧ NoFv mn u l ∧ u' = u + l.length + 1 ∧ Good D' ∧ (∀ k, k < 64 → WOk D' k) ∧ D'.n = D.n ∧ rdR (nowF D' fr) fi mn 0 [] [] 0 = (es ++ [l], u + l.length + 1)) := by
  have hwe : l.length ≤ 40 → u + l.length + 1 ≤ mn → (∀ c ∈ l, ckR c = 0) → ((weL D fr mn fi u l).2 = 0 ∧ Good (weL D fr mn fi u l).1) ∧ EDone D (fr + u) (rsR (mn - u) (entR (fi + u) l)) (s0R (fi + u) l) (weL D fr mn fi u l).1 := fun h1 h2 h3 => by
    have hlen := entR_len (fi + u) l
    have hrs := rsR_len (room := mn - u) (ss := entR (fi + u) l) (by omega) (by omega)
    have a1 : fr + u + 1 + (rsR (mn - u) (entR (fi + u) l)).length ≤ D.n := by omega
    have a2 := rsR_small (room := mn - u) (entR_small (n := fi + u) h3)
    have a3 := entR_small (n := fi + u) h3 _ (List.mem_of_getElem? (s0R_at (fi + u) l))
    have hgd := good_weR D (fr + u) (rsR (mn - u) (entR (fi + u) l)) (s0R (fi + u) l) a1 a2 a3 (by omega) hw hg
    refine ⟨hgd, ?_⟩
    rcases weR_spec D (fr + u) (rsR (mn - u) (entR (fi + u) l)) (s0R (fi + u) l) a1 a2 a3 (by omega) hw with ⟨_, h⟩ | ⟨h, _⟩
    · exact h
    · rw [hgd.1] at h; cases h
  cases h with
  | many h1 => exact .inl ⟨.inl ⟨h1, rfl⟩, rfl, rfl⟩
  | full h1 h2 => exact .inl ⟨.inr (.inl ⟨h1, h2, rfl⟩), rfl, rfl⟩
  | bad k c h1 h2 h3 h4 h5 => exact .inl ⟨.inr (.inr ⟨h1, h2, k, c, h3, h4, h5, rfl⟩), rfl, rfl⟩
  | down h1 h2 h3 h4 => have := (hwe h1 h2 h3).1.1; rw [this] at h4; cases h4
  | ok h1 h2 h3 h4 =>
    obtain ⟨⟨_, hgd⟩, hed⟩ := hwe h1 h2 h3
    exact .inr ⟨rfl, ⟨h1, h2, h3⟩, rfl, hgd, fun k hk => wok_e hed hk, hed.n_, read_added hrd h3 (by omega) (stand_done hed hf (by omega))⟩
theorem new_now (n i : Nat) : nowB ((newD n).sec i) = padB blB := by
  show (⟨Array.replicate 340 0⟩ : ByteArray) = ⟨#[] ++ Array.replicate (340 - 0) 0⟩
  simp
theorem new_read (n fr fi mn : Nat) : rdR (nowF (newD n) fr) fi mn 0 [] [] 0 = ([], 0) := rdR_stop _ _ _ _ _ _ _ fun _ => new_now n _
theorem new_wok (n k : Nat) (h : k < 64) : WOk (newD n) k := ⟨by show -9223372036854775808 ≤ (-1 : Int) ∧ (-1 : Int) ≤ 9223372036854775807; omega, by show 0 + k < 64; omega, fun i _ x hx => (by cases hx), fun i _ => Nat.zero_le _⟩
theorem new_goodD (n : Nat) : Good (newD n) := ⟨rfl, rfl⟩
end Go.Proofs.Ytgkenknplepmeaa
namespace Go.Proofs.Ytgkenknplepmeaa
open Go.RowKit Go.Sort

theorem open_kp (b0 base p B fr mn fi : Nat) (V : Nat → Value) (D : Dk) (w : World) (hd : DkAt w base p B V D) (hdn : D.down = false) (hfr : fr + mn ≤ D.n) (hmn : 1 ≤ mn) (hf1 : 1 ≤ fi) (hfi : fi ≤ 1000000000000) {es : List (List Ch)} {u : Nat} (hrd : rdR (nowF D fr) fi mn 0 [] [] 0 = (es, u)) :
    Calls Try.prog 41 #[ptr p, .int .i64 fr, .int .i64 mn, .int .i64 fi] w fun e w' => ∃ A c, e = .returned (.tuple #[ptr w.heap.size, .slice A es.length c, .nilIface]) ∧ KpE w' b0 A es.length c es ∧ Blk w' w.heap.size tLog #[ptr p, .int .i64 fr, .int .i64 mn, .int .i64 fi, .int .i64 u] ∧ Below w.heap.size w w' := by
  refine (open_good base p B fr mn fi V D w hd hdn hfr hmn hf1 hfi).mono ?_
  rintro e w' ⟨v, v5, cs, rfl, hst⟩
  rw [show (fun i => nowB (D.sec (fr + i))) = nowF D fr from rfl, hrd] at hst
  obtain ⟨A, c, rfl, hk⟩ := kpE_of_lgst b0 hst
  refine ⟨A, c, rfl, hk, hst.log, hst.upd.os, hst.upd.tape, hst.upd.output, ?_, fun k hk => ?_⟩
  · have := hst.upd.size
    simp at this
    omega
  · rw [hst.upd.block k (by simp; omega) (by omega)]
    exact Below.heap_alloc _ _ _ hk
theorem rdC_one (w : World) (c : Ch) (t : TypeId) : RdC (w.alloc (.cells #[.string c.key, .string c.val, .bool c.gone] t)) (w.alloc (.cells #[.string c.key, .string c.val, .bool c.gone] t)).heap.size (some ⟨w.heap.size, 0, none⟩) 1 1 [c] := by
  refine ⟨rfl, Nat.le_refl _, by unfold maxLen; omega, fun _ => ⟨w.heap.size, 0, rfl, by simp, fun i f hi => ?_⟩⟩
  have hb := Blk.new w t #[.string c.key, .string c.val, .bool c.gone]
  cases i with
  | zero =>
    obtain rfl : c = f := by simpa using hi
    exact ⟨hb.cell 0, hb.cell 1, hb.cell 2⟩
  | succ i => simp at hi
theorem ck_fax : ckR ⟨⟨#[102, 47, 97]⟩, ⟨#[120]⟩, false⟩ = 0 := by
  unfold ckR keyB preB
  simp only [ByteArray.toList_eq]
  decide +kernel
set_option maxHeartbeats 1000000 in
set_option maxRecDepth 100000 in
theorem logs_any (w : World) : Calls Try.prog 40 #[] w fun e w' => e = .returned (.bool true) ∧ Below w.heap.size w w' := by
  have HN := Lib.hid (new_good 8 w (by omega) (by omega))
  rw [show ((8 : Nat) : Int) = 8 from rfl] at HN
  have HSN := Lib.hid (fun W => same_erV 0 (.inl rfl) W)
  rw [show erV 0 = .nilIface from rfl] at HSN
  unfold ptr at *
  go_enter Try.func40, Try.ntmps40
  go_wp2_with fail
  refine HN.out.mono ?_
  rintro e w1 ⟨rfl, hd1, hb1⟩
  have HD1 := Lib.hid hd1
  have HB1 := Lib.hid hb1
  have HO := Lib.hid (open_kp w.heap.size w.heap.size (w.heap.size + 1) w.heap.size 2 6 1 _ (newD 8) w1 hd1 rfl (by show 2 + 6 ≤ 8; omega) (by omega) (by omega) (by omega) (new_read 8 2 1 6))
  rw [show ((2 : Nat) : Int) = 2 from rfl, show ((6 : Nat) : Int) = 6 from rfl, show ((1 : Nat) : Int) = 1 from rfl] at HO
  unfold ptr at HO
  clear hd1 hb1 HN
  go_wp2_with fail
  refine HO.out.mono ?_
  rintro e w2 ⟨A2, c2, rfl, -, hl2, hb2⟩
  have HD2 := Lib.hid (HD1.out.keep fun _ _ hk => hb2.block _ hk)
  have HB2 := Lib.hid (HB1.out.trans (hb2.mono HB1.out.size))
  have HL2 := Lib.hid hl2
  have hs1 := HB1.out.size
  have hw1 : w.heap.size + 1 < w1.heap.size := HD1.out.ltp
  clear hl2 hb2 HO HD1 HB1
  have hb3 : Below w2.heap.size w2 (w2.alloc (.cells #[.string ⟨#[102, 47, 97]⟩, .string ⟨#[120]⟩, .bool false] tCh)) := (Below.refl _ _).alloc (Nat.le_refl _) _
  have HA := Lib.hid (logAdd_any w1.heap.size w.heap.size (w.heap.size + 1) w.heap.size 2 6 1 0 (some ⟨w2.heap.size, 0, none⟩) 1 1 [⟨⟨#[102, 47, 97]⟩, ⟨#[120]⟩, false⟩] _ (newD 8) (w2.alloc (.cells #[.string ⟨#[102, 47, 97]⟩, .string ⟨#[120]⟩, .bool false] tCh)) (HL2.out.alloc _) (HD2.out.keep fun _ _ hk => hb3.block _ hk) (rdC_one w2 ⟨⟨#[102, 47, 97]⟩, ⟨#[120]⟩, false⟩ tCh) (fun f hf => by
    obtain rfl : f = ⟨⟨#[102, 47, 97]⟩, ⟨#[120]⟩, false⟩ := by simpa using hf
    exact ⟨by show 3 ≤ 20; omega, by show 1 ≤ 400; omega⟩) (by omega) (by show 2 + 6 ≤ 8; omega) (by omega) (by omega) (new_wok 8 1 (by omega)) (by omega))
  have HB3 := Lib.hid (HB2.out.trans (hb3.mono HB2.out.size))
  unfold LaPost ptr at HA
  clear hb3
  go_wp2_with fail
  refine HA.out.mono ?_
  rintro e w3 ⟨er, D', u', rfl, hla, -, hl3, hb3, -⟩
  obtain ⟨rfl, rfl⟩ : er = 0 ∧ u' = 2 := by
    rcases hla.good (es := []) (new_goodD 8) (new_wok 8 1 (by omega)) (by show 2 + 6 ≤ 8; omega) (new_read 8 2 1 6) with ⟨h, _⟩ | ⟨h1, _, h2, _⟩
    · exact absurd ⟨by show 1 ≤ 40; omega, by show 0 + 1 + 1 ≤ 6; omega, fun c hc => by
        obtain rfl : c = ⟨⟨#[102, 47, 97]⟩, ⟨#[120]⟩, false⟩ := by simpa using hc
        exact ck_fax⟩ h.not
    · exact ⟨h1, h2⟩
  have HB4 := Lib.hid (HB3.out.trans hb3)
  have HRM := Lib.hid (room_any w1.heap.size (w.heap.size + 1) 2 6 1 2 w3 hl3 (by omega) (by omega))
  have HNX := Lib.hid (fun q => next_any w1.heap.size (w.heap.size + 1) 2 6 1 2 (w3.drewN q) hl3 (by omega) (by omega))
  unfold ptr at HRM HNX
  clear hl3 hla hb3 HA
  rw [show erV 0 = .nilIface from rfl]
  go_wp2_with fail
  refine (HSN.out _).mono ?_
  rintro e w4 ⟨rfl, rfl⟩
  go_wp2_with fail
  refine HRM.out.mono ?_
  rintro e w4 ⟨rfl, q, rfl⟩
  go_wp2_with fail
  refine (HNX.out _).mono ?_
  rintro e w4 ⟨rfl, q', rfl⟩
  go_wp2
  go_ret
  exact ⟨rfl, below_drewN HB4.out (q + q')⟩
end Go.Proofs.Ytgkenknplepmeaa
