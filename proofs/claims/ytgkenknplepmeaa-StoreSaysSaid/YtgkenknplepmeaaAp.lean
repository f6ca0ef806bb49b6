/-
  PLAIN FACTS ON CHANGES APPLIED, under no condition on any program: of a sorted row the last of each key, where it is not gone, is what the row's changes come to.
-/
import Derived.Test.YtgkenknplepmeaaBlk
import Derived.Test.YtgkenknplepmeaaPlain
namespace Go.Proofs.Ytgkenknplepmeaa
open Go.RowKit

/-- A change: key, value, gone. -/
structure Ch where
  key : ByteArray
  val : ByteArray
  gone : Bool
def RdC (w : World) (B : Nat) (A : Option Addr) (n c : Nat) (l : List Ch) : Prop :=
  l.length = n ∧ n ≤ c ∧ c ≤ maxLen ∧ (0 < n → ∃ b off, A = some ⟨b, off, none⟩ ∧ b < B ∧ ∀ i f, l[i]? = some f →
    w.cell? ⟨b, off + i * 3, none⟩ = some (.string f.key) ∧ w.cell? ⟨b, off + i * 3 + 1, none⟩ = some (.string f.val) ∧ w.cell? ⟨b, off + i * 3 + 2, none⟩ = some (.bool f.gone))
section
variable {w w' : World} {B B' n c : Nat} {A : Option Addr} {l : List Ch}
theorem RdC.keep (h : RdC w B A n c l) (hk : ∀ p : Addr, p.block < B → w'.cell? p = w.cell? p) : RdC w' B A n c l :=
  ⟨h.1, h.2.1, h.2.2.1, fun hn => by
    obtain ⟨b, off, e, hb, hc⟩ := h.2.2.2 hn
    refine ⟨b, off, e, hb, fun i f hi => ?_⟩
    obtain ⟨h1, h2, h3⟩ := hc i f hi
    exact ⟨(hk ⟨b, _, none⟩ hb).trans h1, (hk ⟨b, _, none⟩ hb).trans h2, (hk ⟨b, _, none⟩ hb).trans h3⟩⟩
theorem RdC.more (h : RdC w B A n c l) (hB : B ≤ B') : RdC w B' A n c l :=
  ⟨h.1, h.2.1, h.2.2.1, fun hn => by
    obtain ⟨b, off, e, hb, hc⟩ := h.2.2.2 hn
    exact ⟨b, off, e, by omega, hc⟩⟩
theorem RdC.at_ (h : RdC w B A n c l) {i : Nat} {f : Ch} (hi : l[i]? = some f) : ∃ b off, A = some ⟨b, off, none⟩ ∧ b < B ∧
    w.cell? ⟨b, off + i * 3, none⟩ = some (.string f.key) ∧ w.cell? ⟨b, off + i * 3 + 1, none⟩ = some (.string f.val) ∧ w.cell? ⟨b, off + i * 3 + 2, none⟩ = some (.bool f.gone) := by
  have hl : i < l.length := (List.getElem?_eq_some_iff.1 hi).1
  obtain ⟨b, off, e, hb, hc⟩ := h.2.2.2 (by have := h.1; omega)
  exact ⟨b, off, e, hb, hc i f hi⟩
end
/-- A deed; its changes lie behind a slice of their own. -/
structure De where
  kind : ByteArray
  s : ByteArray
  t : ByteArray
  a : Int
  k : Nat
  A : Option Addr
  n : Nat
  c : Nat
  ch : List Ch
def RdD (w : World) (B : Nat) (A : Option Addr) (n c : Nat) (l : List De) : Prop :=
  l.length = n ∧ n ≤ c ∧ c ≤ maxLen ∧ (0 < n → ∃ b off, A = some ⟨b, off, none⟩ ∧ b < B ∧ ∀ i f, l[i]? = some f →
    w.cell? ⟨b, off + i * 6, none⟩ = some (.string f.kind) ∧ w.cell? ⟨b, off + i * 6 + 1, none⟩ = some (.string f.s) ∧ w.cell? ⟨b, off + i * 6 + 2, none⟩ = some (.string f.t) ∧
    w.cell? ⟨b, off + i * 6 + 3, none⟩ = some (.int .i64 f.a) ∧ w.cell? ⟨b, off + i * 6 + 4, none⟩ = some (.int .u64 f.k) ∧ w.cell? ⟨b, off + i * 6 + 5, none⟩ = some (.slice f.A f.n f.c) ∧
    RdC w B f.A f.n f.c f.ch ∧ (-9223372036854775808 ≤ f.a ∧ f.a ≤ 9223372036854775807) ∧ f.k < 2 ^ 64)
section
variable {w w' : World} {B B' n c : Nat} {A : Option Addr} {l : List De}
theorem RdD.keep (h : RdD w B A n c l) (hk : ∀ p : Addr, p.block < B → w'.cell? p = w.cell? p) : RdD w' B A n c l :=
  ⟨h.1, h.2.1, h.2.2.1, fun hn => by
    obtain ⟨b, off, e, hb, hc⟩ := h.2.2.2 hn
    refine ⟨b, off, e, hb, fun i f hi => ?_⟩
    obtain ⟨h1, h2, h3, h4, h5, h6, h7, h8⟩ := hc i f hi
    exact ⟨(hk ⟨b, _, none⟩ hb).trans h1, (hk ⟨b, _, none⟩ hb).trans h2, (hk ⟨b, _, none⟩ hb).trans h3, (hk ⟨b, _, none⟩ hb).trans h4, (hk ⟨b, _, none⟩ hb).trans h5, (hk ⟨b, _, none⟩ hb).trans h6, h7.keep hk, h8⟩⟩
theorem RdD.below (h : RdD w B A n c l) (hb : Below B w w') : RdD w' B A n c l := h.keep fun _ hp => hb.cell hp
theorem RdD.at_ (h : RdD w B A n c l) {i : Nat} {f : De} (hi : l[i]? = some f) : ∃ b off, A = some ⟨b, off, none⟩ ∧ b < B ∧
    w.cell? ⟨b, off + i * 6, none⟩ = some (.string f.kind) ∧ w.cell? ⟨b, off + i * 6 + 1, none⟩ = some (.string f.s) ∧ w.cell? ⟨b, off + i * 6 + 2, none⟩ = some (.string f.t) ∧
    w.cell? ⟨b, off + i * 6 + 3, none⟩ = some (.int .i64 f.a) ∧ w.cell? ⟨b, off + i * 6 + 4, none⟩ = some (.int .u64 f.k) ∧ w.cell? ⟨b, off + i * 6 + 5, none⟩ = some (.slice f.A f.n f.c) ∧
    RdC w B f.A f.n f.c f.ch ∧ (-9223372036854775808 ≤ f.a ∧ f.a ≤ 9223372036854775807) ∧ f.k < 2 ^ 64 := by
  have hl : i < l.length := (List.getElem?_eq_some_iff.1 hi).1
  obtain ⟨b, off, e, hb, hc⟩ := h.2.2.2 (by have := h.1; omega)
  exact ⟨b, off, e, hb, hc i f hi⟩
end

def LitC (l : List Ch) (most : Nat) : Prop := l.length ≤ most ∧ ∀ f ∈ l, f.key.size ≤ 20 ∧ f.val.size ≤ 400
def LcPost (l : List Ch) (most : Nat) (w : World) (e : Ending) (w' : World) : Prop := ∃ b, e = .returned (.bool b) ∧ (b = true → LitC l most) ∧ w = w'
def LcRel (l : List Ch) (i : Value) : Prop := ∃ k : Nat, k ≤ l.length ∧ i = .int .i64 k ∧ ∀ j f, j < k → l[j]? = some f → f.key.size ≤ 20 ∧ f.val.size ≤ 400
theorem all_of_idx {α : Type} {l : List α} {P : α → Prop} (h : ∀ j f, j < l.length → l[j]? = some f → P f) : ∀ f ∈ l, P f := fun f hf => by
  obtain ⟨j, hj, e⟩ := List.mem_iff_getElem.1 hf
  exact h j f hj (by rw [List.getElem?_eq_getElem hj, e])
theorem idx_step {α : Type} {l : List α} {P : α → Prop} {k : Nat} {x : α} (hx : l[k]? = some x) (h : ∀ j f, j < k → l[j]? = some f → P f) (hp : P x) : ∀ j f, j < k + 1 → l[j]? = some f → P f := fun j f hj hf => by
  rcases Nat.lt_or_ge j k with h1 | h1
  · exact h j f h1 hf
  · obtain rfl : j = k := by omega
    rw [hx] at hf
    injection hf with hf
    rw [← hf]; exact hp
set_option maxHeartbeats 1000000 in
set_option maxRecDepth 100000 in
theorem lightChanges_any (A : Option Addr) (n c : Nat) (l : List Ch) (most B : Nat) (w : World) (h : RdC w B A n c l) (hmost : most ≤ 1000) :
    Calls Try.prog 29 #[.slice A n c, .int .i64 most] w (LcPost l most w) := by
  have HR := Lib.hid h
  have HL := Lib.hid h.1
  have hm := h.2.2.1
  have hnc := h.2.1
  unfold maxLen at hm
  clear h
  by_cases hq : most < n
  · have hq2 : (most : Int) < (n : Int) := by omega
    go_enter Try.func29, Try.ntmps29
    go_wp2
    go_ret
    exact ⟨false, rfl, by simp, rfl⟩
  have hq2 : decide ((most : Int) < (n : Int)) = false := decide_eq_false (by omega)
  have hq3 : decide (most < n) = false := decide_eq_false hq
  go_enter Try.func29, Try.ntmps29
  go_wp2
  go_loop [5] (fun i => LcRel l i) (fun i => n - (intOf i).toNat)
  case atStart => exact ⟨0, Nat.zero_le _, rfl, fun j g h => by omega⟩
  case round =>
    obtain ⟨k, hk, rfl, hno⟩ := hrel
    have hkn : k ≤ n := by rw [← HL.out]; exact hk
    have HN := Lib.hid hno
    clear hk hno
    by_cases hlt : k < n
    · obtain ⟨f, hf⟩ : ∃ f, l[k]? = some f := ⟨_, List.getElem?_eq_getElem (by rw [HL.out]; exact hlt)⟩
      obtain ⟨b', off, rfl, _, hc1, hc2, _⟩ := HR.out.at_ hf
      have hkz : (k : Int) < (n : Int) := by omega
      have HF := Lib.hid hf
      clear hf
      by_cases hq1 : 20 < f.key.size
      · have u1 : (20 : Int) < (f.key.size : Int) := by omega
        go_wp2
        go_ret
        exact ⟨false, rfl, by simp, rfl⟩
      have u1 : decide ((20 : Int) < (f.key.size : Int)) = false := decide_eq_false (by omega)
      by_cases hq2 : 400 < f.val.size
      · have u2 : (400 : Int) < (f.val.size : Int) := by omega
        go_wp2
        go_ret
        exact ⟨false, rfl, by simp, rfl⟩
      have u2 : decide ((400 : Int) < (f.val.size : Int)) = false := decide_eq_false (by omega)
      go_wp2
      go_round
      case rel => exact ⟨k + 1, by rw [HL.out]; omega, by go_num, idx_step HF.out HN.out ⟨by omega, by omega⟩⟩
      case measure => simp [intOf]; omega
    · obtain rfl : k = n := by omega
      have hkz : decide ((k : Int) < (k : Int)) = false := decide_eq_false (by omega)
      go_wp2
      go_ret
      exact ⟨true, rfl, fun _ => ⟨by rw [HL.out]; omega, all_of_idx (fun j f hj hf => HN.out j f (by rw [← HL.out]; exact hj) hf)⟩, rfl⟩

def LitD (l : List De) (most : Nat) : Prop := l.length ≤ most ∧ ∀ f ∈ l, f.s.size ≤ 800 ∧ f.t.size ≤ 400 ∧ LitC f.ch 50
def LdPost (l : List De) (most : Nat) (w : World) (e : Ending) (w' : World) : Prop := ∃ b, e = .returned (.bool b) ∧ (b = true → LitD l most) ∧ w = w'
def LdRel (l : List De) (i : Value) : Prop := ∃ k : Nat, k ≤ l.length ∧ i = .int .i64 k ∧ ∀ j f, j < k → l[j]? = some f → f.s.size ≤ 800 ∧ f.t.size ≤ 400 ∧ LitC f.ch 50
set_option maxHeartbeats 1000000 in
set_option maxRecDepth 100000 in
theorem lightDeeds_any (A : Option Addr) (n c : Nat) (l : List De) (most B : Nat) (w : World) (h : RdD w B A n c l) (hmost : most ≤ 1000) :
    Calls Try.prog 13 #[.slice A n c, .int .i64 most] w (LdPost l most w) := by
  have HR := Lib.hid h
  have HL := Lib.hid h.1
  have hm := h.2.2.1
  have hnc := h.2.1
  unfold maxLen at hm
  clear h
  by_cases hq : most < n
  · have hq2 : (most : Int) < (n : Int) := by omega
    go_enter Try.func13, Try.ntmps13
    go_wp2
    go_ret
    exact ⟨false, rfl, by simp, rfl⟩
  have hq2 : decide ((most : Int) < (n : Int)) = false := decide_eq_false (by omega)
  have hq3 : decide (most < n) = false := decide_eq_false hq
  go_enter Try.func13, Try.ntmps13
  go_wp2
  go_loop [5] (fun i => LdRel l i) (fun i => n - (intOf i).toNat)
  case atStart => exact ⟨0, Nat.zero_le _, rfl, fun j g h => by omega⟩
  case round =>
    obtain ⟨k, hk, rfl, hno⟩ := hrel
    have hkn : k ≤ n := by rw [← HL.out]; exact hk
    have HN := Lib.hid hno
    clear hk hno
    by_cases hlt : k < n
    · obtain ⟨f, hf⟩ : ∃ f, l[k]? = some f := ⟨_, List.getElem?_eq_getElem (by rw [HL.out]; exact hlt)⟩
      obtain ⟨b', off, rfl, _, _, hc1, hc2, _, _, hc5, hch, _⟩ := HR.out.at_ hf
      have hkz : (k : Int) < (n : Int) := by omega
      have HF := Lib.hid hf
      have HC := Lib.hid (lightChanges_any f.A f.n f.c f.ch 50 B w hch (by omega))
      clear hf hch
      by_cases hq1 : 800 < f.s.size
      · have u1 : (800 : Int) < (f.s.size : Int) := by omega
        go_wp2
        go_ret
        exact ⟨false, rfl, by simp, rfl⟩
      have u1 : decide ((800 : Int) < (f.s.size : Int)) = false := decide_eq_false (by omega)
      by_cases hq2 : 400 < f.t.size
      · have u2 : (400 : Int) < (f.t.size : Int) := by omega
        go_wp2
        go_ret
        exact ⟨false, rfl, by simp, rfl⟩
      have u2 : decide ((400 : Int) < (f.t.size : Int)) = false := decide_eq_false (by omega)
      go_wp2_with fail
      refine HC.out.mono ?_
      rintro e w' ⟨b, rfl, hlc, rfl⟩
      cases b with
      | false =>
        go_wp2
        go_ret
        exact ⟨false, rfl, by simp, rfl⟩
      | true =>
        have HLC := Lib.hid (hlc rfl)
        clear hlc
        go_wp2
        go_round
        case rel => exact ⟨k + 1, by rw [HL.out]; omega, by go_num, idx_step HF.out HN.out ⟨by omega, by omega, HLC.out⟩⟩
        case measure => simp [intOf]; omega
    · obtain rfl : k = n := by omega
      have hkz : decide ((k : Int) < (k : Int)) = false := decide_eq_false (by omega)
      go_wp2
      go_ret
      exact ⟨true, rfl, fun _ => ⟨by rw [HL.out]; omega, all_of_idx (fun j f hj hf => HN.out j f (by rw [← HL.out]; exact hj) hf)⟩, rfl⟩
end Go.Proofs.Ytgkenknplepmeaa
namespace Go.Proofs.Ytgkenknplepmeaa

instance decCh : DecidableEq Ch := fun a b =>
  if h : a.key = b.key ∧ a.val = b.val ∧ a.gone = b.gone then isTrue (by cases a; cases b; simp only at h; obtain ⟨rfl, rfl, rfl⟩ := h; rfl) else isFalse (by rintro rfl; exact h ⟨rfl, rfl, rfl⟩)
def leC (x y : Ch) : Bool := !lt y.key x.key
def keyIs (k : ByteArray) (c : Ch) : Bool := c.key == k
theorem leC_trans (x y z : Ch) (h : leC x y = true) (k : leC y z = true) : leC x z = true := by
  unfold leC at *
  cases e : lt z.key x.key with
  | false => rfl
  | true =>
    cases e1 : lt y.key x.key with
    | true => rw [e1] at h; cases h
    | false =>
      cases e2 : lt z.key y.key with
      | true => rw [e2] at k; cases k
      | false =>
        cases e3 : lt x.key y.key with
        | true => rw [lt_trans e e3] at e2; cases e2
        | false =>
          have := lt_tri e3 e1
          rw [this, e2] at e; cases e
theorem leC_total (x y : Ch) : (leC x y || leC y x) = true := by
  unfold leC
  cases e : lt y.key x.key with
  | false => rfl
  | true => rw [lt_asymm e]; rfl
theorem leC_key (k : ByteArray) (x y : Ch) (hx : keyIs k x = true) (hy : keyIs k y = true) : leC x y = true := by
  unfold keyIs at hx hy
  rw [beq_iff_eq] at hx hy
  unfold leC
  rw [hx, hy, lt_irrefl]; rfl
/-- What changes of one key come to. -/
def ends (l : List Ch) : List Ch := match l.getLast? with
  | some c => if c.gone then [] else [c]
  | none => []
theorem ends_nil : ends [] = [] := rfl
theorem ends_snoc (l : List Ch) (c : Ch) : ends (l ++ [c]) = if c.gone then [] else [c] := by simp [ends]
/-- out is what the changes l come to: the keys rise, and of each key stands what its changes come to. -/
structure ApplyOf (l out : List Ch) : Prop where
  rises : out.Pairwise fun a b => lt a.key b.key = true
  same : ∀ k, out.filter (keyIs k) = ends (l.filter (keyIs k))
/-- The last of each key in a row, where it is not gone. -/
def lasts : List Ch → List Ch
  | [] => []
  | c :: r => if (r.head?.map (·.key) != some c.key) && !c.gone then c :: lasts r else lasts r
theorem lasts_sub : ∀ (s : List Ch) (c : Ch), c ∈ lasts s → c ∈ s
  | [], _, h => by simp [lasts] at h
  | d :: r, c, h => by
    unfold lasts at h
    split at h
    · rcases List.mem_cons.1 h with rfl | h
      · simp
      · exact List.mem_cons_of_mem _ (lasts_sub r c h)
    · exact List.mem_cons_of_mem _ (lasts_sub r c h)
theorem sorted_none {c : Ch} {r : List Ch} (h : (c :: r).Pairwise fun a b => leC a b = true) (hn : (r.head?.map (·.key) != some c.key) = true) : ∀ d ∈ r, lt c.key d.key = true := by
  cases r with
  | nil => simp
  | cons e r =>
    have h1 := List.pairwise_cons.1 h
    have hce : leC c e = true := h1.1 e (by simp)
    have hne : e.key ≠ c.key := by simpa using hn
    have hlt : lt c.key e.key = true := by
      cases q : lt c.key e.key with
      | true => rfl
      | false =>
        unfold leC at hce
        have q2 : lt e.key c.key = false := by simpa using hce
        exact absurd (lt_tri q2 q) hne
    intro d hd
    rcases List.mem_cons.1 hd with rfl | hd
    · exact hlt
    · have hed := (List.pairwise_cons.1 h1.2).1 d hd
      unfold leC at hed
      cases q : lt c.key d.key with
      | true => rfl
      | false =>
        cases q2 : lt e.key d.key with
        | true => rw [lt_trans hlt q2] at q; cases q
        | false =>
          have q3 : lt d.key e.key = false := by simpa using hed
          rw [← lt_tri q2 q3, hlt] at q; cases q
theorem lasts_of : ∀ {s : List Ch}, (s.Pairwise fun a b => leC a b = true) → ApplyOf s (lasts s)
  | [], _ => ⟨by simp [lasts], fun k => by simp [lasts, ends_nil]⟩
  | c :: r, h => by
    have ih := lasts_of (List.pairwise_cons.1 h).2
    have hh := lasts.eq_2 c r
    cases hn : (r.head?.map (·.key) != some c.key) with
    | true =>
      have hno := sorted_none h hn
      have hf : r.filter (keyIs c.key) = [] := by
        rw [List.filter_eq_nil_iff]
        intro d hd hk
        unfold keyIs at hk
        rw [beq_iff_eq] at hk
        exact lt_ne (hno d hd) hk.symm
      have hf2 : (lasts r).filter (keyIs c.key) = [] := by rw [ih.same, hf]; rfl
      rw [hn] at hh
      cases hg : c.gone with
      | true =>
        rw [hg] at hh
        simp only [Bool.not_true, Bool.and_false, Bool.false_eq_true, if_false] at hh
        rw [hh]
        refine ⟨ih.rises, fun k => ?_⟩
        by_cases hk : keyIs k c = true
        · have : c.key = k := by simpa [keyIs] using hk
          subst this
          rw [hf2, List.filter_cons, if_pos hk, hf]
          simp [ends, hg]
        · rw [ih.same, List.filter_cons, if_neg hk]
      | false =>
        rw [hg] at hh
        simp only [Bool.not_false, Bool.and_true, if_true] at hh
        rw [hh]
        refine ⟨List.pairwise_cons.2 ⟨fun d hd => hno d (lasts_sub r d hd), ih.rises⟩, fun k => ?_⟩
        by_cases hk : keyIs k c = true
        · have : c.key = k := by simpa [keyIs] using hk
          subst this
          rw [List.filter_cons, if_pos hk, hf2, List.filter_cons, if_pos hk, hf]
          simp [ends, hg]
        · rw [List.filter_cons, if_neg hk, ih.same, List.filter_cons, if_neg hk]
    | false =>
      rw [hn] at hh
      simp only [Bool.false_and, Bool.false_eq_true, if_false] at hh
      rw [hh]
      refine ⟨ih.rises, fun k => ?_⟩
      by_cases hk : keyIs k c = true
      · have e : c.key = k := by simpa [keyIs] using hk
        rw [ih.same, List.filter_cons, if_pos hk]
        cases r with
        | nil => simp at hn
        | cons d r =>
          have hd : d.key = c.key := by simpa using hn
          have hkd : keyIs k d = true := by unfold keyIs; rw [hd, e]; simp
          rw [List.filter_cons, if_pos hkd]
          simp [ends]
      · rw [ih.same, List.filter_cons, if_neg hk]
theorem ApplyOf.sorted {l s : List Ch} (h : SortOf leC keyIs l s) : ApplyOf l (lasts s) := by
  have := lasts_of h.sorted
  exact ⟨this.rises, fun k => by rw [this.same, h.same]⟩
theorem ApplyOf.mem {l out : List Ch} (h : ApplyOf l out) (c : Ch) : c ∈ out ↔ c ∈ ends (l.filter (keyIs c.key)) := by
  rw [← h.same, List.mem_filter]
  simp [keyIs]
theorem rises_ext : ∀ {a b : List Ch}, (a.Pairwise fun x y => lt x.key y.key = true) → (b.Pairwise fun x y => lt x.key y.key = true) → (∀ c, c ∈ a ↔ c ∈ b) → a = b
  | [], [], _, _, _ => rfl
  | [], d :: b, _, _, h => by have := (h d).2 (by simp); simp at this
  | c :: a, [], _, _, h => by have := (h c).1 (by simp); simp at this
  | c :: a, d :: b, ha, hb, h => by
    have ha' := List.pairwise_cons.1 ha
    have hb' := List.pairwise_cons.1 hb
    have e : c = d := by
      rcases List.mem_cons.1 ((h c).1 (by simp)) with e | hc
      · exact e
      · rcases List.mem_cons.1 ((h d).2 (by simp)) with e | hd
        · exact e.symm
        · have h1 := hb'.1 c hc
          have h2 := ha'.1 d hd
          rw [lt_asymm h1] at h2; cases h2
    subst e
    refine congrArg (c :: ·) (rises_ext ha'.2 hb'.2 fun x => ⟨fun hx => ?_, fun hx => ?_⟩)
    · rcases List.mem_cons.1 ((h x).1 (List.mem_cons_of_mem _ hx)) with rfl | q
      · have := ha'.1 x hx; rw [lt_irrefl] at this; cases this
      · exact q
    · rcases List.mem_cons.1 ((h x).2 (List.mem_cons_of_mem _ hx)) with rfl | q
      · have := hb'.1 x hx; rw [lt_irrefl] at this; cases this
      · exact q
theorem ApplyOf.unique {l l' a b : List Ch} (ha : ApplyOf l a) (hb : ApplyOf l' b) (h : ∀ k, ends (l.filter (keyIs k)) = ends (l'.filter (keyIs k))) : a = b :=
  rises_ext ha.rises hb.rises fun c => by rw [ha.mem, hb.mem, h]
theorem ends_ends (l : List Ch) : ends (ends l) = ends l := by
  unfold ends
  cases e : l.getLast? with
  | none => rfl
  | some c =>
    cases g : c.gone with
    | true => simp [g]
    | false => simp [g]
theorem ends_append (a b : List Ch) : ends (a ++ b) = if b = [] then ends a else ends b := by
  unfold ends
  cases e : b.getLast? with
  | none => obtain rfl := List.getLast?_eq_none_iff.1 e; simp
  | some c =>
    have hb : b ≠ [] := by rintro rfl; cases e
    rw [if_neg hb, List.getLast?_append, e]; rfl
theorem ApplyOf.ends {l out : List Ch} (h : ApplyOf l out) (m : List Ch) (k : ByteArray) : Go.Proofs.Ytgkenknplepmeaa.ends ((out ++ m).filter (keyIs k)) = Go.Proofs.Ytgkenknplepmeaa.ends ((l ++ m).filter (keyIs k)) := by
  rw [List.filter_append, List.filter_append, ends_append, ends_append, h.same, ends_ends]
theorem ApplyOf.step {l m rows out : List Ch} (h : ApplyOf l rows) (h2 : ApplyOf (rows ++ m) out) : ApplyOf (l ++ m) out := ⟨h2.rises, fun k => by rw [h2.same, h.ends]⟩
theorem ApplyOf.nil : ApplyOf [] [] := ⟨by simp, fun _ => rfl⟩
theorem nodup_len : ∀ (a b : List Ch), a.Nodup → (∀ x ∈ a, x ∈ b) → a.length ≤ b.length
  | [], _, _, _ => Nat.zero_le _
  | x :: a, b, hn, h => by
    have hx : x ∈ b := h x (by simp)
    have hn' := List.nodup_cons.1 hn
    have := nodup_len a (b.erase x) hn'.2 (fun y hy => by
      have hne : y ≠ x := by rintro rfl; exact hn'.1 hy
      exact (List.mem_erase_of_ne hne).2 (h y (List.mem_cons_of_mem _ hy)))
    rw [List.length_erase_of_mem hx] at this
    have := List.length_pos_of_mem hx
    simp only [List.length_cons]
    omega
theorem ApplyOf.len {l out : List Ch} (h : ApplyOf l out) : out.length ≤ l.length := by
  have hn : out.Nodup := h.rises.imp (fun {a b} hab e => by rw [e, lt_irrefl] at hab; cases hab)
  refine nodup_len _ _ hn fun c hc => ?_
  rw [h.mem] at hc
  unfold Go.Proofs.Ytgkenknplepmeaa.ends at hc
  split at hc
  · rename_i d hd
    split at hc
    · simp at hc
    · obtain rfl : c = d := by simpa using hc
      exact (List.mem_filter.1 (List.mem_of_getLast? hd)).1
  · simp at hc
end Go.Proofs.Ytgkenknplepmeaa
