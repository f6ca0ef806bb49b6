/-
  PLAIN FACTS ON CHANGES APPLIED, under no condition on any program: of a sorted row the last of each key, where it is not gone, is what the row's changes come to.
-/
import Derived.Test.YtgkenknplepmeaaSt
import Derived.Test.YtgkenknplepmeaaPlain
import Derived.Test.YtgkenknplepmeaaDeeds
namespace Go.Proofs.Ytgkenknplepmeaa

instance decCh : DecidableEq Ch := fun a b =>
  if h : a.key = b.key ∧ a.val = b.val ∧ a.gone = b.gone then isTrue (by cases a; cases b; simp only at h; obtain ⟨rfl, rfl, rfl⟩ := h; rfl) else isFalse (by rintro rfl; exact h ⟨rfl, rfl, rfl⟩)
def leC (x y : Ch) : Bool := !lt y.key x.key
def keyIs (k : ByteArray) (c : Ch) : Bool := c.key == k
theorem leC_trans (x y z : Ch) (h : leC x y = true) (k : leC y z = true) : leC x z = true := by
  unfold leC at *
  cases e : lt z.key x.key with
  | false => rfl
  | true =>
    cases e1 : lt y.key x.key with
    | true => rw [e1] at h; cases h
    | false =>
      cases e2 : lt z.key y.key with
      | true => rw [e2] at k; cases k
      | false =>
        cases e3 : lt x.key y.key with
        | true => rw [lt_trans e e3] at e2; cases e2
        | false =>
          have := lt_tri e3 e1
          rw [this, e2] at e; cases e
theorem leC_total (x y : Ch) : (leC x y || leC y x) = true := by
  unfold leC
  cases e : lt y.key x.key with
  | false => rfl
  | true => rw [lt_asymm e]; rfl
theorem leC_key (k : ByteArray) (x y : Ch) (hx : keyIs k x = true) (hy : keyIs k y = true) : leC x y = true := by
  unfold keyIs at hx hy
  rw [beq_iff_eq] at hx hy
  unfold leC
  rw [hx, hy, lt_irrefl]; rfl
/-- What changes of one key come to. -/
def ends (l : List Ch) : List Ch := match l.getLast? with
  | some c => if c.gone then [] else [c]
  | none => []
theorem ends_nil : ends [] = [] := rfl
theorem ends_snoc (l : List Ch) (c : Ch) : ends (l ++ [c]) = if c.gone then [] else [c] := by simp [ends]
/-- out is what the changes l come to: the keys rise, and of each key stands what its changes come to. -/
structure ApplyOf (l out : List Ch) : Prop where
  rises : out.Pairwise fun a b => lt a.key b.key = true
  same : ∀ k, out.filter (keyIs k) = ends (l.filter (keyIs k))
/-- The last of each key in a row, where it is not gone. -/
def lasts : List Ch → List Ch
  | [] => []
  | c :: r => if (r.head?.map (·.key) != some c.key) && !c.gone then c :: lasts r else lasts r
theorem lasts_sub : ∀ (s : List Ch) (c : Ch), c ∈ lasts s → c ∈ s
  | [], _, h => by simp [lasts] at h
  | d :: r, c, h => by
    unfold lasts at h
    split at h
    · rcases List.mem_cons.1 h with rfl | h
      · simp
      · exact List.mem_cons_of_mem _ (lasts_sub r c h)
    · exact List.mem_cons_of_mem _ (lasts_sub r c h)
theorem sorted_none {c : Ch} {r : List Ch} (h : (c :: r).Pairwise fun a b => leC a b = true) (hn : (r.head?.map (·.key) != some c.key) = true) : ∀ d ∈ r, lt c.key d.key = true := by
  cases r with
  | nil => simp
  | cons e r =>
    have h1 := List.pairwise_cons.1 h
    have hce : leC c e = true := h1.1 e (by simp)
    have hne : e.key ≠ c.key := by simpa using hn
    have hlt : lt c.key e.key = true := by
      cases q : lt c.key e.key with
      | true => rfl
      | false =>
        unfold leC at hce
        have q2 : lt e.key c.key = false := by simpa using hce
        exact absurd (lt_tri q2 q) hne
    intro d hd
    rcases List.mem_cons.1 hd with rfl | hd
    · exact hlt
    · have hed := (List.pairwise_cons.1 h1.2).1 d hd
      unfold leC at hed
      cases q : lt c.key d.key with
      | true => rfl
      | false =>
        cases q2 : lt e.key d.key with
        | true => rw [lt_trans hlt q2] at q; cases q
        | false =>
          have q3 : lt d.key e.key = false := by simpa using hed
          rw [← lt_tri q2 q3, hlt] at q; cases q
theorem lasts_of : ∀ {s : List Ch}, (s.Pairwise fun a b => leC a b = true) → ApplyOf s (lasts s)
  | [], _ => ⟨by simp [lasts], fun k => by simp [lasts, ends_nil]⟩
  | c :: r, h => by
    have ih := lasts_of (List.pairwise_cons.1 h).2
    have hh := lasts.eq_2 c r
    cases hn : (r.head?.map (·.key) != some c.key) with
    | true =>
      have hno := sorted_none h hn
      have hf : r.filter (keyIs c.key) = [] := by
        rw [List.filter_eq_nil_iff]
        intro d hd hk
        unfold keyIs at hk
        rw [beq_iff_eq] at hk
        exact lt_ne (hno d hd) hk.symm
      have hf2 : (lasts r).filter (keyIs c.key) = [] := by rw [ih.same, hf]; rfl
      rw [hn] at hh
      cases hg : c.gone with
      | true =>
        rw [hg] at hh
        simp only [Bool.not_true, Bool.and_false, Bool.false_eq_true, if_false] at hh
        rw [hh]
        refine ⟨ih.rises, fun k => ?_⟩
        by_cases hk : keyIs k c = true
        · have : c.key = k := by simpa [keyIs] using hk
          subst this
          rw [hf2, List.filter_cons, if_pos hk, hf]
          simp [ends, hg]
        · rw [ih.same, List.filter_cons, if_neg hk]
      | false =>
        rw [hg] at hh
        simp only [Bool.not_false, Bool.and_true, if_true] at hh
        rw [hh]
        refine ⟨List.pairwise_cons.2 ⟨fun d hd => hno d (lasts_sub r d hd), ih.rises⟩, fun k => ?_⟩
        by_cases hk : keyIs k c = true
        · have : c.key = k := by simpa [keyIs] using hk
          subst this
          rw [List.filter_cons, if_pos hk, hf2, List.filter_cons, if_pos hk, hf]
          simp [ends, hg]
        · rw [List.filter_cons, if_neg hk, ih.same, List.filter_cons, if_neg hk]
    | false =>
      rw [hn] at hh
      simp only [Bool.false_and, Bool.false_eq_true, if_false] at hh
      rw [hh]
      refine ⟨ih.rises, fun k => ?_⟩
      by_cases hk : keyIs k c = true
      · have e : c.key = k := by simpa [keyIs] using hk
        rw [ih.same, List.filter_cons, if_pos hk]
        cases r with
        | nil => simp at hn
        | cons d r =>
          have hd : d.key = c.key := by simpa using hn
          have hkd : keyIs k d = true := by unfold keyIs; rw [hd, e]; simp
          rw [List.filter_cons, if_pos hkd]
          simp [ends]
      · rw [ih.same, List.filter_cons, if_neg hk]
theorem ApplyOf.sorted {l s : List Ch} (h : SortOf leC keyIs l s) : ApplyOf l (lasts s) := by
  have := lasts_of h.sorted
  exact ⟨this.rises, fun k => by rw [this.same, h.same]⟩
theorem ApplyOf.mem {l out : List Ch} (h : ApplyOf l out) (c : Ch) : c ∈ out ↔ c ∈ ends (l.filter (keyIs c.key)) := by
  rw [← h.same, List.mem_filter]
  simp [keyIs]
theorem rises_ext : ∀ {a b : List Ch}, (a.Pairwise fun x y => lt x.key y.key = true) → (b.Pairwise fun x y => lt x.key y.key = true) → (∀ c, c ∈ a ↔ c ∈ b) → a = b
  | [], [], _, _, _ => rfl
  | [], d :: b, _, _, h => by have := (h d).2 (by simp); simp at this
  | c :: a, [], _, _, h => by have := (h c).1 (by simp); simp at this
  | c :: a, d :: b, ha, hb, h => by
    have ha' := List.pairwise_cons.1 ha
    have hb' := List.pairwise_cons.1 hb
    have e : c = d := by
      rcases List.mem_cons.1 ((h c).1 (by simp)) with e | hc
      · exact e
      · rcases List.mem_cons.1 ((h d).2 (by simp)) with e | hd
        · exact e.symm
        · have h1 := hb'.1 c hc
          have h2 := ha'.1 d hd
          rw [lt_asymm h1] at h2; cases h2
    subst e
    refine congrArg (c :: ·) (rises_ext ha'.2 hb'.2 fun x => ⟨fun hx => ?_, fun hx => ?_⟩)
    · rcases List.mem_cons.1 ((h x).1 (List.mem_cons_of_mem _ hx)) with rfl | q
      · have := ha'.1 x hx; rw [lt_irrefl] at this; cases this
      · exact q
    · rcases List.mem_cons.1 ((h x).2 (List.mem_cons_of_mem _ hx)) with rfl | q
      · have := hb'.1 x hx; rw [lt_irrefl] at this; cases this
      · exact q
theorem ApplyOf.unique {l l' a b : List Ch} (ha : ApplyOf l a) (hb : ApplyOf l' b) (h : ∀ k, ends (l.filter (keyIs k)) = ends (l'.filter (keyIs k))) : a = b :=
  rises_ext ha.rises hb.rises fun c => by rw [ha.mem, hb.mem, h]
theorem ends_ends (l : List Ch) : ends (ends l) = ends l := by
  unfold ends
  cases e : l.getLast? with
  | none => rfl
  | some c =>
    cases g : c.gone with
    | true => simp [g]
    | false => simp [g]
theorem ends_append (a b : List Ch) : ends (a ++ b) = if b = [] then ends a else ends b := by
  unfold ends
  cases e : b.getLast? with
  | none => obtain rfl := List.getLast?_eq_none_iff.1 e; simp
  | some c =>
    have hb : b ≠ [] := by rintro rfl; cases e
    rw [if_neg hb, List.getLast?_append, e]; rfl
theorem ApplyOf.ends {l out : List Ch} (h : ApplyOf l out) (m : List Ch) (k : ByteArray) : Go.Proofs.Ytgkenknplepmeaa.ends ((out ++ m).filter (keyIs k)) = Go.Proofs.Ytgkenknplepmeaa.ends ((l ++ m).filter (keyIs k)) := by
  rw [List.filter_append, List.filter_append, ends_append, ends_append, h.same, ends_ends]
theorem ApplyOf.step {l m rows out : List Ch} (h : ApplyOf l rows) (h2 : ApplyOf (rows ++ m) out) : ApplyOf (l ++ m) out := ⟨h2.rises, fun k => by rw [h2.same, h.ends]⟩
theorem ApplyOf.nil : ApplyOf [] [] := ⟨by simp, fun _ => rfl⟩
theorem nodup_len : ∀ (a b : List Ch), a.Nodup → (∀ x ∈ a, x ∈ b) → a.length ≤ b.length
  | [], _, _, _ => Nat.zero_le _
  | x :: a, b, hn, h => by
    have hx : x ∈ b := h x (by simp)
    have hn' := List.nodup_cons.1 hn
    have := nodup_len a (b.erase x) hn'.2 (fun y hy => by
      have hne : y ≠ x := by rintro rfl; exact hn'.1 hy
      exact (List.mem_erase_of_ne hne).2 (h y (List.mem_cons_of_mem _ hy)))
    rw [List.length_erase_of_mem hx] at this
    have := List.length_pos_of_mem hx
    simp only [List.length_cons]
    omega
theorem ApplyOf.len {l out : List Ch} (h : ApplyOf l out) : out.length ≤ l.length := by
  have hn : out.Nodup := h.rises.imp (fun {a b} hab e => by rw [e, lt_irrefl] at hab; cases hab)
  refine nodup_len _ _ hn fun c hc => ?_
  rw [h.mem] at hc
  unfold Go.Proofs.Ytgkenknplepmeaa.ends at hc
  split at hc
  · rename_i d hd
    split at hc
    · simp at hc
    · obtain rfl : c = d := by simpa using hc
      exact (List.mem_filter.1 (List.mem_of_getLast? hd)).1
  · simp at hc
end Go.Proofs.Ytgkenknplepmeaa
