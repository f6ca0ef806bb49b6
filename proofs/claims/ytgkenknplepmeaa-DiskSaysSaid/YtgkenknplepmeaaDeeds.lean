/-
  WORDS AND WALKS: slices that read as changes and as deeds; hammerpondlaw.LightChanges, LightDeeds.
-/
import Derived.Test.YtgkenknplepmeaaBlk
namespace Go.Proofs.Ytgkenknplepmeaa
open Go.RowKit

/-- A change: key, value, gone. -/
structure Ch where
  key : ByteArray
  val : ByteArray
  gone : Bool
def RdC (w : World) (B : Nat) (A : Option Addr) (n c : Nat) (l : List Ch) : Prop :=
  l.length = n ∧ n ≤ c ∧ c ≤ maxLen ∧ (0 < n → ∃ b off, A = some ⟨b, off, none⟩ ∧ b < B ∧ ∀ i f, l[i]? = some f →
    w.cell? ⟨b, off + i * 3, none⟩ = some (.string f.key) ∧ w.cell? ⟨b, off + i * 3 + 1, none⟩ = some (.string f.val) ∧ w.cell? ⟨b, off + i * 3 + 2, none⟩ = some (.bool f.gone))
section
variable {w w' : World} {B B' n c : Nat} {A : Option Addr} {l : List Ch}
theorem RdC.keep (h : RdC w B A n c l) (hk : ∀ p : Addr, p.block < B → w'.cell? p = w.cell? p) : RdC w' B A n c l :=
  ⟨h.1, h.2.1, h.2.2.1, fun hn => by
    obtain ⟨b, off, e, hb, hc⟩ := h.2.2.2 hn
    refine ⟨b, off, e, hb, fun i f hi => ?_⟩
    obtain ⟨h1, h2, h3⟩ := hc i f hi
    exact ⟨(hk ⟨b, _, none⟩ hb).trans h1, (hk ⟨b, _, none⟩ hb).trans h2, (hk ⟨b, _, none⟩ hb).trans h3⟩⟩
theorem RdC.more (h : RdC w B A n c l) (hB : B ≤ B') : RdC w B' A n c l :=
  ⟨h.1, h.2.1, h.2.2.1, fun hn => by
    obtain ⟨b, off, e, hb, hc⟩ := h.2.2.2 hn
    exact ⟨b, off, e, by omega, hc⟩⟩
theorem RdC.at_ (h : RdC w B A n c l) {i : Nat} {f : Ch} (hi : l[i]? = some f) : ∃ b off, A = some ⟨b, off, none⟩ ∧ b < B ∧
    w.cell? ⟨b, off + i * 3, none⟩ = some (.string f.key) ∧ w.cell? ⟨b, off + i * 3 + 1, none⟩ = some (.string f.val) ∧ w.cell? ⟨b, off + i * 3 + 2, none⟩ = some (.bool f.gone) := by
  have hl : i < l.length := (List.getElem?_eq_some_iff.1 hi).1
  obtain ⟨b, off, e, hb, hc⟩ := h.2.2.2 (by have := h.1; omega)
  exact ⟨b, off, e, hb, hc i f hi⟩
end
/-- A deed; its changes lie behind a slice of their own. -/
structure De where
  kind : ByteArray
  s : ByteArray
  t : ByteArray
  a : Int
  k : Nat
  A : Option Addr
  n : Nat
  c : Nat
  ch : List Ch
def RdD (w : World) (B : Nat) (A : Option Addr) (n c : Nat) (l : List De) : Prop :=
  l.length = n ∧ n ≤ c ∧ c ≤ maxLen ∧ (0 < n → ∃ b off, A = some ⟨b, off, none⟩ ∧ b < B ∧ ∀ i f, l[i]? = some f →
    w.cell? ⟨b, off + i * 6, none⟩ = some (.string f.kind) ∧ w.cell? ⟨b, off + i * 6 + 1, none⟩ = some (.string f.s) ∧ w.cell? ⟨b, off + i * 6 + 2, none⟩ = some (.string f.t) ∧
    w.cell? ⟨b, off + i * 6 + 3, none⟩ = some (.int .i64 f.a) ∧ w.cell? ⟨b, off + i * 6 + 4, none⟩ = some (.int .u64 f.k) ∧ w.cell? ⟨b, off + i * 6 + 5, none⟩ = some (.slice f.A f.n f.c) ∧
    RdC w B f.A f.n f.c f.ch ∧ (-9223372036854775808 ≤ f.a ∧ f.a ≤ 9223372036854775807) ∧ f.k < 2 ^ 64)
section
variable {w w' : World} {B B' n c : Nat} {A : Option Addr} {l : List De}
theorem RdD.keep (h : RdD w B A n c l) (hk : ∀ p : Addr, p.block < B → w'.cell? p = w.cell? p) : RdD w' B A n c l :=
  ⟨h.1, h.2.1, h.2.2.1, fun hn => by
    obtain ⟨b, off, e, hb, hc⟩ := h.2.2.2 hn
    refine ⟨b, off, e, hb, fun i f hi => ?_⟩
    obtain ⟨h1, h2, h3, h4, h5, h6, h7, h8⟩ := hc i f hi
    exact ⟨(hk ⟨b, _, none⟩ hb).trans h1, (hk ⟨b, _, none⟩ hb).trans h2, (hk ⟨b, _, none⟩ hb).trans h3, (hk ⟨b, _, none⟩ hb).trans h4, (hk ⟨b, _, none⟩ hb).trans h5, (hk ⟨b, _, none⟩ hb).trans h6, h7.keep hk, h8⟩⟩
theorem RdD.below (h : RdD w B A n c l) (hb : Below B w w') : RdD w' B A n c l := h.keep fun _ hp => hb.cell hp
theorem RdD.at_ (h : RdD w B A n c l) {i : Nat} {f : De} (hi : l[i]? = some f) : ∃ b off, A = some ⟨b, off, none⟩ ∧ b < B ∧
    w.cell? ⟨b, off + i * 6, none⟩ = some (.string f.kind) ∧ w.cell? ⟨b, off + i * 6 + 1, none⟩ = some (.string f.s) ∧ w.cell? ⟨b, off + i * 6 + 2, none⟩ = some (.string f.t) ∧
    w.cell? ⟨b, off + i * 6 + 3, none⟩ = some (.int .i64 f.a) ∧ w.cell? ⟨b, off + i * 6 + 4, none⟩ = some (.int .u64 f.k) ∧ w.cell? ⟨b, off + i * 6 + 5, none⟩ = some (.slice f.A f.n f.c) ∧
    RdC w B f.A f.n f.c f.ch ∧ (-9223372036854775808 ≤ f.a ∧ f.a ≤ 9223372036854775807) ∧ f.k < 2 ^ 64 := by
  have hl : i < l.length := (List.getElem?_eq_some_iff.1 hi).1
  obtain ⟨b, off, e, hb, hc⟩ := h.2.2.2 (by have := h.1; omega)
  exact ⟨b, off, e, hb, hc i f hi⟩
end

def LitC (l : List Ch) (most : Nat) : Prop := l.length ≤ most ∧ ∀ f ∈ l, f.key.size ≤ 20 ∧ f.val.size ≤ 400
def LcPost (l : List Ch) (most : Nat) (w : World) (e : Ending) (w' : World) : Prop := ∃ b, e = .returned (.bool b) ∧ (b = true → LitC l most) ∧ w = w'
def LcRel (l : List Ch) (i : Value) : Prop := ∃ k : Nat, k ≤ l.length ∧ i = .int .i64 k ∧ ∀ j f, j < k → l[j]? = some f → f.key.size ≤ 20 ∧ f.val.size ≤ 400
theorem all_of_idx {α : Type} {l : List α} {P : α → Prop} (h : ∀ j f, j < l.length → l[j]? = some f → P f) : ∀ f ∈ l, P f := fun f hf => by
  obtain ⟨j, hj, e⟩ := List.mem_iff_getElem.1 hf
  exact h j f hj (by rw [List.getElem?_eq_getElem hj, e])
theorem idx_step {α : Type} {l : List α} {P : α → Prop} {k : Nat} {x : α} (hx : l[k]? = some x) (h : ∀ j f, j < k → l[j]? = some f → P f) (hp : P x) : ∀ j f, j < k + 1 → l[j]? = some f → P f := fun j f hj hf => by
  rcases Nat.lt_or_ge j k with h1 | h1
  · exact h j f h1 hf
  · obtain rfl : j = k := by omega
    rw [hx] at hf
    injection hf with hf
    rw [← hf]; exact hp
set_option maxHeartbeats 1000000 in
set_option maxRecDepth 100000 in
theorem lightChanges_any (A : Option Addr) (n c : Nat) (l : List Ch) (most B : Nat) (w : World) (h : RdC w B A n c l) (hmost : most ≤ 1000) :
    Calls Try.prog 29 #[.slice A n c, .int .i64 most] w (LcPost l most w) := by
  have HR := Lib.hid h
  have HL := Lib.hid h.1
  have hm := h.2.2.1
  have hnc := h.2.1
  unfold maxLen at hm
  clear h
  by_cases hq : most < n
  · have hq2 : (most : Int) < (n : Int) := by omega
    go_enter Try.func29, Try.ntmps29
    go_wp2
    go_ret
    exact ⟨false, rfl, by simp, rfl⟩
  have hq2 : decide ((most : Int) < (n : Int)) = false := decide_eq_false (by omega)
  have hq3 : decide (most < n) = false := decide_eq_false hq
  go_enter Try.func29, Try.ntmps29
  go_wp2
  go_loop [5] (fun i => LcRel l i) (fun i => n - (intOf i).toNat)
  case atStart => exact ⟨0, Nat.zero_le _, rfl, fun j g h => by omega⟩
  case round =>
    obtain ⟨k, hk, rfl, hno⟩ := hrel
    have hkn : k ≤ n := by rw [← HL.out]; exact hk
    have HN := Lib.hid hno
    clear hk hno
    by_cases hlt : k < n
    · obtain ⟨f, hf⟩ : ∃ f, l[k]? = some f := ⟨_, List.getElem?_eq_getElem (by rw [HL.out]; exact hlt)⟩
      obtain ⟨b', off, rfl, _, hc1, hc2, _⟩ := HR.out.at_ hf
      have hkz : (k : Int) < (n : Int) := by omega
      have HF := Lib.hid hf
      clear hf
      by_cases hq1 : 20 < f.key.size
      · have u1 : (20 : Int) < (f.key.size : Int) := by omega
        go_wp2
        go_ret
        exact ⟨false, rfl, by simp, rfl⟩
      have u1 : decide ((20 : Int) < (f.key.size : Int)) = false := decide_eq_false (by omega)
      by_cases hq2 : 400 < f.val.size
      · have u2 : (400 : Int) < (f.val.size : Int) := by omega
        go_wp2
        go_ret
        exact ⟨false, rfl, by simp, rfl⟩
      have u2 : decide ((400 : Int) < (f.val.size : Int)) = false := decide_eq_false (by omega)
      go_wp2
      go_round
      case rel => exact ⟨k + 1, by rw [HL.out]; omega, by go_num, idx_step HF.out HN.out ⟨by omega, by omega⟩⟩
      case measure => simp [intOf]; omega
    · obtain rfl : k = n := by omega
      have hkz : decide ((k : Int) < (k : Int)) = false := decide_eq_false (by omega)
      go_wp2
      go_ret
      exact ⟨true, rfl, fun _ => ⟨by rw [HL.out]; omega, all_of_idx (fun j f hj hf => HN.out j f (by rw [← HL.out]; exact hj) hf)⟩, rfl⟩

def LitD (l : List De) (most : Nat) : Prop := l.length ≤ most ∧ ∀ f ∈ l, f.s.size ≤ 800 ∧ f.t.size ≤ 400 ∧ LitC f.ch 50
def LdPost (l : List De) (most : Nat) (w : World) (e : Ending) (w' : World) : Prop := ∃ b, e = .returned (.bool b) ∧ (b = true → LitD l most) ∧ w = w'
def LdRel (l : List De) (i : Value) : Prop := ∃ k : Nat, k ≤ l.length ∧ i = .int .i64 k ∧ ∀ j f, j < k → l[j]? = some f → f.s.size ≤ 800 ∧ f.t.size ≤ 400 ∧ LitC f.ch 50
set_option maxHeartbeats 1000000 in
set_option maxRecDepth 100000 in
theorem lightDeeds_any (A : Option Addr) (n c : Nat) (l : List De) (most B : Nat) (w : World) (h : RdD w B A n c l) (hmost : most ≤ 1000) :
    Calls Try.prog 13 #[.slice A n c, .int .i64 most] w (LdPost l most w) := by
  have HR := Lib.hid h
  have HL := Lib.hid h.1
  have hm := h.2.2.1
  have hnc := h.2.1
  unfold maxLen at hm
  clear h
  by_cases hq : most < n
  · have hq2 : (most : Int) < (n : Int) := by omega
    go_enter Try.func13, Try.ntmps13
    go_wp2
    go_ret
    exact ⟨false, rfl, by simp, rfl⟩
  have hq2 : decide ((most : Int) < (n : Int)) = false := decide_eq_false (by omega)
  have hq3 : decide (most < n) = false := decide_eq_false hq
  go_enter Try.func13, Try.ntmps13
  go_wp2
  go_loop [5] (fun i => LdRel l i) (fun i => n - (intOf i).toNat)
  case atStart => exact ⟨0, Nat.zero_le _, rfl, fun j g h => by omega⟩
  case round =>
    obtain ⟨k, hk, rfl, hno⟩ := hrel
    have hkn : k ≤ n := by rw [← HL.out]; exact hk
    have HN := Lib.hid hno
    clear hk hno
    by_cases hlt : k < n
    · obtain ⟨f, hf⟩ : ∃ f, l[k]? = some f := ⟨_, List.getElem?_eq_getElem (by rw [HL.out]; exact hlt)⟩
      obtain ⟨b', off, rfl, _, _, hc1, hc2, _, _, hc5, hch, _⟩ := HR.out.at_ hf
      have hkz : (k : Int) < (n : Int) := by omega
      have HF := Lib.hid hf
      have HC := Lib.hid (lightChanges_any f.A f.n f.c f.ch 50 B w hch (by omega))
      clear hf hch
      by_cases hq1 : 800 < f.s.size
      · have u1 : (800 : Int) < (f.s.size : Int) := by omega
        go_wp2
        go_ret
        exact ⟨false, rfl, by simp, rfl⟩
      have u1 : decide ((800 : Int) < (f.s.size : Int)) = false := decide_eq_false (by omega)
      by_cases hq2 : 400 < f.t.size
      · have u2 : (400 : Int) < (f.t.size : Int) := by omega
        go_wp2
        go_ret
        exact ⟨false, rfl, by simp, rfl⟩
      have u2 : decide ((400 : Int) < (f.t.size : Int)) = false := decide_eq_false (by omega)
      go_wp2_with fail
      refine HC.out.mono ?_
      rintro e w' ⟨b, rfl, hlc, rfl⟩
      cases b with
      | false =>
        go_wp2
        go_ret
        exact ⟨false, rfl, by simp, rfl⟩
      | true =>
        have HLC := Lib.hid (hlc rfl)
        clear hlc
        go_wp2
        go_round
        case rel => exact ⟨k + 1, by rw [HL.out]; omega, by go_num, idx_step HF.out HN.out ⟨by omega, by omega, HLC.out⟩⟩
        case measure => simp [intOf]; omega
    · obtain rfl : k = n := by omega
      have hkz : decide ((k : Int) < (k : Int)) = false := decide_eq_false (by omega)
      go_wp2
      go_ret
      exact ⟨true, rfl, fun _ => ⟨by rw [HL.out]; omega, all_of_idx (fun j f hj hf => HN.out j f (by rw [← HL.out]; exact hj) hf)⟩, rfl⟩
end Go.Proofs.Ytgkenknplepmeaa
