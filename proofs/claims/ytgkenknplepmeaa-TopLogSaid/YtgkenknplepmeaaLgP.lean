/-
  WALKS: hammerpondref.SameChanges, SameDeeds, of any lists: equal ones are found equal.
-/
import Derived.Test.YtgkenknplepmeaaLgO
namespace Go.Proofs.Ytgkenknplepmeaa
open Go.RowKit Go.Sort

def ScPost (w : World) (b : Bool) (e : Ending) (w' : World) : Prop := e = .returned (.bool b) ∧ ∃ k, w' = w.drewN k
def ScRel (w : World) (n : Nat) (l l' : List Ch) (i : Value) (wr : World) : Prop := ∃ k : Nat, k ≤ n ∧ i = .int .i64 k ∧ (∀ j : Nat, j < k → l[j]? = l'[j]?) ∧ ∃ q, wr = w.drewN q
set_option maxHeartbeats 2000000 in
set_option maxRecDepth 100000 in
theorem sameC_gen (A A' : Option Addr) (n n' c c' B B' : Nat) (l l' : List Ch) (w : World) (h : RdC w B A n c l) (h' : RdC w B' A' n' c' l') (b0 : Bool) (hb0 : b0 = true ↔ l = l') :
    Calls Try.prog 37 #[.slice A n c, .slice A' n' c'] w (ScPost w b0) := by
  have hm := h.2.2.1
  have hnc := h.2.1
  have hm' := h'.2.2.1
  have hnc' := h'.2.1
  unfold maxLen at hm hm'
  by_cases hll : l = l'
  · subst hll
    obtain rfl : n = n' := by rw [← h.1, ← h'.1]
    refine (sameC_any A A' n c c' B B' l w h h').mono ?_
    rintro e w1 ⟨rfl, hk⟩
    exact ⟨by rw [hb0.2 rfl], hk⟩
  obtain rfl : b0 = false := by
    cases b0 with
    | false => rfl
    | true => exact absurd (hb0.1 rfl) hll
  have HR := Lib.hid h
  have HR' := Lib.hid h'
  have HLL := Lib.hid hll
  clear h h' hll hb0
  by_cases hn : n = n'
  · subst hn
    go_enter Try.func37, Try.ntmps37
    go_wp2
    go_loopw [5] (fun i wr => ScRel w n l l' i wr) (fun i _ => n - (intOf i).toNat)
    case atStart => exact ⟨0, Nat.zero_le _, rfl, fun j hj => absurd hj (Nat.not_lt_zero j), 0, rfl⟩
    case round =>
      obtain ⟨k, hk, rfl, hpre, q, rfl⟩ := hrel
      have HPRE := Lib.hid hpre
      clear hpre
      by_cases hlt : k < n
      · obtain ⟨f, hf⟩ : ∃ f, l[k]? = some f := ⟨_, List.getElem?_eq_getElem (by rw [HR.out.1]; exact hlt)⟩
        obtain ⟨f', hf'⟩ : ∃ f, l'[k]? = some f := ⟨_, List.getElem?_eq_getElem (by rw [HR'.out.1]; exact hlt)⟩
        obtain ⟨b, off, rfl, hbb, hc1, hc2, hc3⟩ := HR.out.at_ hf
        obtain ⟨b', off', rfl, hbb', hc1', hc2', hc3'⟩ := HR'.out.at_ hf'
        have HF := Lib.hid hf
        have HF' := Lib.hid hf'
        clear hf hf'
        obtain ⟨x, t, g⟩ := f
        obtain ⟨x', t', g'⟩ := f'
        have hiz : (k : Int) < (n : Int) := by omega
        by_cases hx : x.toList = x'.toList
        · have hxb : (x.toList == x'.toList) = true := by rw [hx]; simp
          by_cases ht : t.toList = t'.toList
          · have htb : (t.toList == t'.toList) = true := by rw [ht]; simp
            by_cases hg : g = g'
            · subst hg
              have hgb : (g == g) = true := by simp
              go_wp2
              go_quiet (fail)
              go_wp2
              go_roundw
              case rel => exact ⟨k + 1, by omega, by go_num, fun j hj => by
                rcases Nat.lt_or_ge j k with h1 | h1
                · exact HPRE.out j h1
                · obtain rfl : j = k := by omega
                  rw [HF.out, HF'.out, toList_inj hx, toList_inj ht], by first | exact ⟨_, rfl⟩ | exact ⟨_, World.drewN_drewN _ _ _⟩⟩
              case measure => simp [intOf]; omega
            · have hgb : (g == g') = false := by rw [beq_eq_false_iff_ne]; exact hg
              go_wp2
              go_quiet (fail)
              go_wp2
              go_ret
              exact ⟨rfl, _, by first | rfl | exact World.drewN_drewN _ _ _⟩
          · have htb : (t.toList == t'.toList) = false := by rw [beq_eq_false_iff_ne]; exact ht
            go_wp2
            go_quiet (fail)
            go_wp2
            go_ret
            exact ⟨rfl, _, by first | rfl | exact World.drewN_drewN _ _ _⟩
        · have hxb : (x.toList == x'.toList) = false := by rw [beq_eq_false_iff_ne]; exact hx
          go_wp2
          go_quiet (fail)
          go_wp2
          go_ret
          exact ⟨rfl, _, by first | rfl | exact World.drewN_drewN _ _ _⟩
      · obtain rfl : k = n := by omega
        exact absurd (List.ext_getElem? fun j => by
          rcases Nat.lt_or_ge j k with h1 | h1
          · exact HPRE.out j h1
          · rw [List.getElem?_eq_none (by rw [HR.out.1]; exact h1), List.getElem?_eq_none (by rw [HR'.out.1]; exact h1)]) HLL.out
  · have hnz : ((n : Int) == (n' : Int)) = false := by rw [beq_eq_false_iff_ne]; omega
    have hnz2 : ¬ ((n : Int) = (n' : Int)) := by omega
    go_enter Try.func37, Try.ntmps37
    go_wp2
    go_ret
    exact ⟨rfl, 0, rfl⟩
/-- A slice that reads as entries; all lie below B. -/
def RdE (w : World) (B : Nat) (A : Option Addr) (n c : Nat) (es : List (List Ch)) : Prop :=
  es.length = n ∧ n ≤ c ∧ c ≤ maxLen ∧ (0 < n → ∃ b off, A = some ⟨b, off, none⟩ ∧ b < B ∧ ∀ (i : Nat) (e : List Ch), es[i]? = some e → ∃ A' n' c', w.cell? ⟨b, off + i, none⟩ = some (.slice A' n' c') ∧ RdC w B A' n' c' e)
theorem RdE.at_ {w : World} {B : Nat} {A : Option Addr} {n c : Nat} {es : List (List Ch)} (h : RdE w B A n c es) {i : Nat} {e : List Ch} (he : es[i]? = some e) : ∃ b off, A = some ⟨b, off, none⟩ ∧ b < B ∧ ∃ A' n' c', w.cell? ⟨b, off + i, none⟩ = some (.slice A' n' c') ∧ RdC w B A' n' c' e := by
  have hl : i < es.length := (List.getElem?_eq_some_iff.1 he).1
  obtain ⟨b, off, e1, hb, hc⟩ := h.2.2.2 (by have := h.1; omega)
  exact ⟨b, off, e1, hb, hc i e he⟩
theorem RdC.drewN {w : World} {B n c : Nat} {A : Option Addr} {l : List Ch} (h : RdC w B A n c l) (q : Nat) : RdC (w.drewN q) B A n c l := h.keep fun _ _ => rfl
def SdRel (w : World) (n : Nat) (es es' : List (List Ch)) (i : Value) (wr : World) : Prop := ∃ k : Nat, k ≤ n ∧ i = .int .i64 k ∧ (∀ j : Nat, j < k → es[j]? = es'[j]?) ∧ ∃ q, wr = w.drewN q
set_option maxHeartbeats 2000000 in
set_option maxRecDepth 100000 in
theorem sameD_gen (A A' : Option Addr) (n n' c c' B B' : Nat) (es es' : List (List Ch)) (w : World) (h : RdE w B A n c es) (h' : RdE w B' A' n' c' es') (b0 : Bool) (hb0 : b0 = true ↔ es = es') :
    Calls Try.prog 43 #[.slice A n c, .slice A' n' c'] w (ScPost w b0) := by
  have hm := h.2.2.1
  have hnc := h.2.1
  have hm' := h'.2.2.1
  have hnc' := h'.2.1
  unfold maxLen at hm hm'
  have HR := Lib.hid h
  have HR' := Lib.hid h'
  have HB0 := Lib.hid hb0
  clear h h' hb0
  by_cases hn : n = n'
  · subst hn
    go_enter Try.func43, Try.ntmps43
    go_wp2
    go_loopw [5] (fun i wr => SdRel w n es es' i wr) (fun i _ => n - (intOf i).toNat)
    case atStart => exact ⟨0, Nat.zero_le _, rfl, fun j hj => absurd hj (Nat.not_lt_zero j), 0, rfl⟩
    case round =>
      obtain ⟨k, hk, rfl, hpre, hq⟩ := hrel
      have HQ := Lib.hid hq
      have HRw : Hid (RdE wr B A n c es) := by obtain ⟨q, rfl⟩ := hq; exact HR.out
      have HRw' : Hid (RdE wr B' A' n c' es') := by obtain ⟨q, rfl⟩ := hq; exact HR'.out
      clear hq
      have HPRE := Lib.hid hpre
      clear hpre
      by_cases hlt : k < n
      · obtain ⟨f, hf⟩ : ∃ f, es[k]? = some f := ⟨_, List.getElem?_eq_getElem (by rw [HR.out.1]; exact hlt)⟩
        obtain ⟨f', hf'⟩ : ∃ f, es'[k]? = some f := ⟨_, List.getElem?_eq_getElem (by rw [HR'.out.1]; exact hlt)⟩
        obtain ⟨b, off, rfl, hbb, A1, n1, c1, hc1, hr1⟩ := HRw.out.at_ hf
        obtain ⟨b', off', rfl, hbb', A2, n2, c2, hc2, hr2⟩ := HRw'.out.at_ hf'
        have hiz : (k : Int) < (n : Int) := by omega
        have HF := Lib.hid hf
        have HF' := Lib.hid hf'
        by_cases hff : f = f'
        · have HC := Lib.hid (fun q' => sameC_gen A1 A2 n1 n2 c1 c2 B B' f f' (wr.drewN q') (hr1.drewN q') (hr2.drewN q') true ⟨fun _ => hff, fun _ => rfl⟩)
          unfold ScPost at HC
          clear hf hf' hr1 hr2
          go_wp2_with fail
          go_quiet (first | (go_at_call 37; exact Calls.quiet_of (HC.out _)))
          go_wp2
          go_roundw
          case rel => exact ⟨k + 1, by omega, by go_num, fun j hj => by
            rcases Nat.lt_or_ge j k with h1 | h1
            · exact HPRE.out j h1
            · obtain rfl : j = k := by omega
              rw [HF.out, HF'.out, hff], by obtain ⟨q, hq⟩ := HQ.out; rw [hq]; exact ⟨_, World.drewN_drewN _ _ _⟩⟩
          case measure => simp [intOf]; omega
        · have HC := Lib.hid (fun q' => sameC_gen A1 A2 n1 n2 c1 c2 B B' f f' (wr.drewN q') (hr1.drewN q') (hr2.drewN q') false ⟨fun h => (by cases h), fun h => absurd h hff⟩)
          unfold ScPost at HC
          clear hf hf' hr1 hr2
          obtain rfl : b0 = false := by
            cases b0 with
            | false => rfl
            | true =>
              have h1 := HF.out
              rw [HB0.out.1 rfl, HF'.out] at h1
              injection h1 with h1
              exact absurd h1.symm hff
          go_wp2_with fail
          go_quiet (first | (go_at_call 37; exact Calls.quiet_of (HC.out _)))
          go_wp2
          go_ret
          obtain ⟨q, hq⟩ := HQ.out
          exact ⟨rfl, _, by rw [hq]; exact World.drewN_drewN _ _ _⟩
      · obtain rfl : k = n := by omega
        obtain rfl : b0 = true := HB0.out.2 (List.ext_getElem? fun j => by
          rcases Nat.lt_or_ge j k with h1 | h1
          · exact HPRE.out j h1
          · rw [List.getElem?_eq_none (by rw [HR.out.1]; exact h1), List.getElem?_eq_none (by rw [HR'.out.1]; exact h1)])
        go_wp2
        go_ret
        exact ⟨rfl, HQ.out⟩
  · have hnz : ((n : Int) == (n' : Int)) = false := by rw [beq_eq_false_iff_ne]; omega
    have hnz2 : ¬ ((n : Int) = (n' : Int)) := by omega
    obtain rfl : b0 = false := by
      cases b0 with
      | false => rfl
      | true => exact absurd (by rw [← HR.out.1, ← HR'.out.1, HB0.out.1 rfl]) hn
    go_enter Try.func43, Try.ntmps43
    go_wp2
    go_ret
    exact ⟨rfl, 0, rfl⟩
end Go.Proofs.Ytgkenknplepmeaa
