/-
  PLAIN WORDS (no program): the document's units: marks that fall along the needs, as often as there are groups, come to the first indexes of the classes.
-/
import Derived.Test.YtlkpbpecgdphaaaUw
namespace Go.Proofs.Ytlkpbpecgdphaaa
open Go.RowKit

def relaxO (st : List Bool) (m : List Int) (i : Nat) (o : Option Nat) : List Int := match o with
  | none => m
  | some a => if st.getD i false = true ∧ st.getD a false = true then (m.set i (min (clV m i) (clV m a))).set a (min (clV m i) (clV m a)) else m
def relaxI (st : List Bool) (m : List Int) (i : Nat) (os : List (Option Nat)) : List Int := os.foldl (fun m o => relaxO st m i o) m
def relaxN (st : List Bool) (M : Nat → List (Option Nat)) (m : List Int) (k : Nat) : List Int := (List.range k).foldl (fun m i => relaxI st m i (M i)) m
def idL (n : Nat) : List Int := (List.range n).map fun (i : Nat) => (i : Int)
def marksR (n : Nat) (st : List Bool) (M : Nat → List (Option Nat)) : Nat → List Int
  | 0 => idL n
  | t + 1 => relaxN st M (marksR n st M t) n
theorem relaxO_len (st : List Bool) (m : List Int) (i : Nat) (o : Option Nat) : (relaxO st m i o).length = m.length := by
  cases o with
  | none => rfl
  | some a => simp only [relaxO]; split <;> simp
theorem clV_set {m : List Int} {i k : Nat} {x : Int} (h : i < m.length) : clV (m.set i x) k = if i = k then x else clV m k := by
  simp only [clV, List.getD_eq_getElem?_getD, List.getElem?_set]
  split
  · rename_i e; subst e; simp []
  · rfl
theorem relaxO_v {st : List Bool} {m : List Int} {i a k : Nat} (hi : i < m.length) (ha : a < m.length) (hs : st.getD i false = true) (hsa : st.getD a false = true) : clV (relaxO st m i (some a)) k = if k = i ∨ k = a then min (clV m i) (clV m a) else clV m k := by
  simp only [relaxO]
  rw [if_pos ⟨hs, hsa⟩, clV_set (by simpa using ha), clV_set hi]
  by_cases h1 : a = k
  · rw [if_pos h1, if_pos (Or.inr h1.symm)]
  · rw [if_neg h1]
    by_cases h2 : i = k
    · rw [if_pos h2, if_pos (Or.inl h2.symm)]
    · rw [if_neg h2, if_neg (by rintro (e | e); exact h2 e.symm; exact h1 e.symm)]
theorem relaxO_off {st : List Bool} {m : List Int} {i a : Nat} (h : ¬ (st.getD i false = true ∧ st.getD a false = true)) : relaxO st m i (some a) = m := by
  simp only [relaxO]; rw [if_neg h]
/-- The classes that needs make: equal along a need; no more than needs make. -/
structure ClGen (n : Nat) (st : List Bool) (M : Nat → List (Option Nat)) (c : List Int) : Prop where
  ok : ClOk n st c
  inn : ∀ i, i < n → ∀ a, some a ∈ M i → a < n
  joint : ∀ i a, i < n → some a ∈ M i → st.getD i false = true → st.getD a false = true → clV c i = clV c a
  gen : ∀ f : Nat → Bool, (∀ i a, i < n → some a ∈ M i → st.getD i false = true → st.getD a false = true → f i = f a) → ∀ k r : Nat, k < n → clV c k = (r : Int) → f k = f r
theorem cl0_gen {n : Nat} {st : List Bool} {f : Nat → Bool} (k r : Nat) (hk : k < n) (h : clV (cl0 n st) k = (r : Int)) : f k = f r := by
  rw [cl0_v n st k hk] at h
  split at h
  · have : k = r := by omega
    rw [this]
  · omega
theorem clNeeds_gen {n : Nat} {st : List Bool} {f : Nat → Bool} {i : Nat} (hi : i < n) : ∀ (os : List (Option Nat)) (c : List Int), ClOk n st c → (∀ o ∈ os, ∀ a, o = some a → a < n) → (∀ a, some a ∈ os → st.getD i false = true → st.getD a false = true → f i = f a) →
    (∀ k r : Nat, k < n → clV c k = (r : Int) → f k = f r) → ∀ k r : Nat, k < n → clV (clNeeds c i os) k = (r : Int) → f k = f r
  | [], _, _, _, _, h => h
  | o :: os, c, hc, ho, he, h => by
    have hc' := clNeed_ok hc hi (ho o (List.mem_cons_self ..))
    refine clNeeds_gen hi os (clNeed c i o) hc' (fun o' m => ho o' (List.mem_cons_of_mem _ m)) (fun a m => he a (List.mem_cons_of_mem _ m)) ?_
    cases o with
    | none => exact h
    | some a =>
      have ha := ho (some a) (List.mem_cons_self ..) a rfl
      intro k r hk hr
      simp only [clNeed] at hr
      split at hr
      · rename_i hne
        have hsi : st.getD i false = true := by
          cases hb : st.getD i false
          · exact absurd ((hc.stale i hi).2 hb) hne.2
          · rfl
        have hsa : st.getD a false = true := by
          cases hb : st.getD a false
          · exact absurd ((hc.stale a ha).2 hb) hne.1
          · rfl
        have hfe := he a (List.mem_cons_self ..) hsi hsa
        obtain ⟨p, hp, _, _⟩ := hc.low i hi hne.2
        obtain ⟨q, hq, _, _⟩ := hc.low a ha hne.1
        have f1 := h i p hi hp
        have f2 := h a q ha hq
        rw [uniteR_v c _ _ k (by rw [hc.len]; exact hk), hp, hq] at hr
        split at hr
        · rename_i hkk
          have hpq : r = p ∨ r = q := by omega
          have fk : f k = f p ∨ f k = f q := by
            rcases hkk with e | e
            · exact .inl (h k p hk e)
            · exact .inr (h k q hk e)
          have e1 : f p = f q := by rw [← f1, ← f2, hfe]
          rcases hpq with rfl | rfl <;> rcases fk with e | e <;> simp_all
        · exact h k r hk hr
      · exact h k r hk hr
theorem clUpto_gen {n : Nat} {st : List Bool} {M : Nat → List (Option Nat)} (hM : ∀ i, i < n → ∀ o ∈ M i, ∀ a, o = some a → a < n) {f : Nat → Bool} (he : ∀ i a, i < n → some a ∈ M i → st.getD i false = true → st.getD a false = true → f i = f a) : ∀ (t : Nat), t ≤ n → ∀ k r : Nat, k < n → clV (clUpto n st M t) k = (r : Int) → f k = f r
  | 0, _ => cl0_gen
  | t + 1, ht => clNeeds_gen (by omega) (M t) _ (clUpto_ok hM t (by omega)) (hM t (by omega)) (fun a m hs hsa => he t a (by omega) m hs hsa) (clUpto_gen hM he t (by omega))
theorem clUpto_clGen {n : Nat} {st : List Bool} {M : Nat → List (Option Nat)} (hM : ∀ i, i < n → ∀ o ∈ M i, ∀ a, o = some a → a < n) : ClGen n st M (clUpto n st M n) :=
  ⟨clUpto_ok hM n (Nat.le_refl _), fun i hi a m => hM i hi _ m a rfl, fun i a hi m hs hsa => clUpto_joins hM (hM i hi _ m a rfl) hs hsa m n (Nat.le_refl _) hi, fun _f he => clUpto_gen hM he n (Nat.le_refl _)⟩
/-- Marks on their way: not below the classes; those that have come to them stay. -/
structure MksOk (n : Nat) (st : List Bool) (c m : List Int) : Prop where
  len : m.length = n
  low : ∀ k, k < n → st.getD k false = true → clV c k ≤ clV m k
def MksLe (m m' : List Int) : Prop := ∀ k, clV m' k ≤ clV m k
theorem relaxO_ok {n : Nat} {st : List Bool} {M : Nat → List (Option Nat)} {c m : List Int} (hc : ClGen n st M c) (hm : MksOk n st c m) {i : Nat} (hi : i < n) {o : Option Nat} (ho : o ∈ M i) : MksOk n st c (relaxO st m i o) ∧ MksLe m (relaxO st m i o) := by
  cases o with
  | none => exact ⟨hm, fun _ => Int.le_refl _⟩
  | some a =>
    have ha := hc.inn i hi a ho
    by_cases hs : st.getD i false = true ∧ st.getD a false = true
    · have hv := fun k => relaxO_v (st := st) (m := m) (i := i) (a := a) (k := k) (by rw [hm.len]; exact hi) (by rw [hm.len]; exact ha) hs.1 hs.2
      have hj := hc.joint i a hi ho hs.1 hs.2
      have l1 := hm.low i hi hs.1
      have l2 := hm.low a ha hs.2
      refine ⟨⟨(relaxO_len ..).trans hm.len, fun k hk hsk => ?_⟩, fun k => ?_⟩
      · rw [hv k]
        split
        · rename_i e
          have : clV c k = clV c i := by rcases e with rfl | rfl; rfl; exact hj.symm
          omega
        · exact hm.low k hk hsk
      · rw [hv k]
        split
        · rename_i e
          rcases e with rfl | rfl <;> omega
        · exact Int.le_refl _
    · rw [relaxO_off hs]; exact ⟨hm, fun _ => Int.le_refl _⟩
theorem MksLe.trans {a b c : List Int} (h : MksLe a b) (g : MksLe b c) : MksLe a c := fun k => Int.le_trans (g k) (h k)
theorem MksOk.stay {n : Nat} {st : List Bool} {c m m' : List Int} (h' : MksOk n st c m') (hl : MksLe m m') {k : Nat} (hk : k < n) (hs : st.getD k false = true) (h : clV m k = clV c k) : clV m' k = clV c k := by
  have := hl k
  have := h'.low k hk hs
  omega
/-- What a round does: it falls, and along each need whose one end has come to the class the other end has too. -/
structure RndOk (n : Nat) (st : List Bool) (c m m' : List Int) (E : Nat → Nat → Prop) : Prop where
  ok : MksOk n st c m'
  le : MksLe m m'
  hit : ∀ i a, E i a → st.getD i false = true → st.getD a false = true → (clV m i = clV c i ∨ clV m a = clV c a) → clV m' i = clV c i ∧ clV m' a = clV c a
theorem relaxI_ok {n : Nat} {st : List Bool} {M : Nat → List (Option Nat)} {c : List Int} (hc : ClGen n st M c) {i : Nat} (hi : i < n) : ∀ (os : List (Option Nat)) (m : List Int), MksOk n st c m → (∀ o ∈ os, o ∈ M i) → RndOk n st c m (relaxI st m i os) (fun j a => j = i ∧ some a ∈ os)
  | [], m, hm, _ => ⟨hm, fun _ => Int.le_refl _, fun _ _ h => by cases h.2⟩
  | o :: os, m, hm, ho => by
    obtain ⟨h1, l1⟩ := relaxO_ok hc hm hi (ho o (List.mem_cons_self ..))
    have ih := relaxI_ok hc hi os (relaxO st m i o) h1 (fun o' m => ho o' (List.mem_cons_of_mem _ m))
    refine ⟨ih.ok, l1.trans ih.le, fun j a ⟨ej, hm'⟩ hs hsa hh => ?_⟩
    subst ej
    have ha := hc.inn j hi a (by rcases List.mem_cons.1 hm' with e | h; rw [e]; exact ho _ (List.mem_cons_self ..); exact ho _ (List.mem_cons_of_mem _ h))
    rcases List.mem_cons.1 hm' with e | h
    · subst e
      have hv := fun k => relaxO_v (st := st) (m := m) (i := j) (a := a) (k := k) (by rw [hm.len]; exact hi) (by rw [hm.len]; exact ha) hs hsa
      have hj := hc.joint j a hi (ho _ (List.mem_cons_self ..)) hs hsa
      have l1' := hm.low j hi hs
      have l2' := hm.low a ha hsa
      have e1 : clV (relaxO st m j (some a)) j = clV c j := by rw [hv j, if_pos (.inl rfl)]; rcases hh with h | h <;> omega
      have e2 : clV (relaxO st m j (some a)) a = clV c a := by rw [hv a, if_pos (.inr rfl)]; rcases hh with h | h <;> omega
      exact ⟨ih.ok.stay ih.le hi hs e1, ih.ok.stay ih.le ha hsa e2⟩
    · exact ih.hit j a ⟨rfl, h⟩ hs hsa (hh.imp (h1.stay l1 hi hs) (h1.stay l1 ha hsa))
theorem relaxN_ok {n : Nat} {st : List Bool} {M : Nat → List (Option Nat)} {c m : List Int} (hc : ClGen n st M c) (hm : MksOk n st c m) : ∀ k, k ≤ n → RndOk n st c m (relaxN st M m k) (fun j a => j < k ∧ some a ∈ M j)
  | 0, _ => ⟨hm, fun _ => Int.le_refl _, fun _ _ h => by omega⟩
  | k + 1, hk => by
    have ih := relaxN_ok hc hm k (by omega)
    have e : relaxN st M m (k + 1) = relaxI st (relaxN st M m k) k (M k) := by simp [relaxN, List.range_succ]
    rw [e]
    have h2 := relaxI_ok hc (by omega) (M k) (relaxN st M m k) ih.ok (fun _ h => h)
    refine ⟨h2.ok, ih.le.trans h2.le, fun j a ⟨hj, hm'⟩ hs hsa hh => ?_⟩
    have ha := hc.inn j (by omega) a hm'
    rcases Nat.lt_or_ge j k with g | g
    · obtain ⟨e1, e2⟩ := ih.hit j a ⟨g, hm'⟩ hs hsa hh
      exact ⟨h2.ok.stay h2.le (by omega) hs e1, h2.ok.stay h2.le ha hsa e2⟩
    · have : j = k := by omega
      subst this
      exact h2.hit j a ⟨rfl, hm'⟩ hs hsa (hh.imp (ih.ok.stay ih.le (by omega) hs) (ih.ok.stay ih.le ha hsa))
theorem count_back {α : Type} {p q : α → Bool} : ∀ {l : List α}, (∀ x ∈ l, p x = true → q x = true) → l.countP q ≤ l.countP p → ∀ x ∈ l, q x = true → p x = true
  | [], _, _, x, hx, _ => by cases hx
  | y :: l, h, hc, x, hx, hq => by
    have hm := List.countP_mono_left (l := l) (fun x hx => h x (List.mem_cons_of_mem _ hx))
    rw [List.countP_cons, List.countP_cons] at hc
    have hy := h y (List.mem_cons_self ..)
    rcases List.mem_cons.1 hx with rfl | hx'
    · cases hp : p x
      · rw [hp, hq] at hc; simp at hc; omega
      · rfl
    · refine count_back (fun x hx => h x (List.mem_cons_of_mem _ hx)) ?_ x hx' hq
      cases hp : p y
      · rw [hp] at hc
        split at hc <;> simp at hc <;> omega
      · rw [hp, hy hp] at hc; simp at hc; exact hc
def hitB (st : List Bool) (c m : List Int) (k : Nat) : Bool := !st.getD k false || decide (clV m k = clV c k)
theorem hitB_iff {st : List Bool} {c m : List Int} {k : Nat} (hs : st.getD k false = true) : hitB st c m k = true ↔ clV m k = clV c k := by unfold hitB; rw [hs]; simp
theorem idL_ok {n : Nat} {st : List Bool} {c : List Int} (hc : ClOk n st c) : MksOk n st c (idL n) := by
  have hv : ∀ k, k < n → clV (idL n) k = (k : Int) := fun k hk => by rw [clV_lt (by simpa [idL] using hk)]; simp [idL]
  refine ⟨by simp [idL], fun k hk hs => ?_⟩
  rw [hv k hk]
  obtain ⟨r, hr, hrk, _⟩ := hc.low k hk (fun e => by have := (hc.stale k hk).1 e; rw [hs] at this; cases this)
  omega
theorem marks_ok {n : Nat} {st : List Bool} {M : Nat → List (Option Nat)} {c : List Int} (hc : ClGen n st M c) : ∀ t, MksOk n st c (marksR n st M t) ∧ MksLe (idL n) (marksR n st M t) ∧ ((∀ k, k < n → hitB st c (marksR n st M t) k = true) ∨ t ≤ (List.range n).countP (hitB st c (marksR n st M t)))
  | 0 => ⟨idL_ok hc.ok, fun _ => Int.le_refl _, .inr (Nat.zero_le _)⟩
  | t + 1 => by
    obtain ⟨h1, h2, h3⟩ := marks_ok hc t
    have hr := relaxN_ok hc h1 n (Nat.le_refl _)
    have hmono : ∀ k ∈ List.range n, hitB st c (marksR n st M t) k = true → hitB st c (marksR n st M (t + 1)) k = true := fun k hk hh => by
      cases hs : st.getD k false
      · unfold hitB; rw [hs]; rfl
      · exact (hitB_iff hs).2 (hr.ok.stay hr.le (List.mem_range.1 hk) hs ((hitB_iff hs).1 hh))
    refine ⟨hr.ok, h2.trans hr.le, ?_⟩
    rcases h3 with h3 | h3
    · exact .inl fun k hk => hmono k (List.mem_range.2 hk) (h3 k hk)
    · rcases Nat.lt_or_ge ((List.range n).countP (hitB st c (marksR n st M t))) ((List.range n).countP (hitB st c (marksR n st M (t + 1)))) with hlt | hge
      · exact .inr (by omega)
      · have hback := count_back hmono hge
        have hall : ∀ k, k < n → hitB st c (marksR n st M t) k = true := fun k hk => by
          cases hs : st.getD k false
          · unfold hitB; rw [hs]; rfl
          · obtain ⟨r, hrr, hrk, hr0⟩ := hc.ok.low k hk (fun e => by have := (hc.ok.stale k hk).1 e; rw [hs] at this; cases this)
            have hrn : r < n := by omega
            have hsr : st.getD r false = true := by
              cases hb : st.getD r false
              · have := (hc.ok.stale r hrn).2 hb; omega
              · rfl
            have hg := hc.gen (hitB st c (marksR n st M t)) (fun i a hi hm hsi hsa => by
              have ha := hc.inn i hi a hm
              rw [Bool.eq_iff_iff]
              constructor
              · intro hh
                have := hr.hit i a ⟨hi, hm⟩ hsi hsa (.inl ((hitB_iff hsi).1 hh))
                exact hback a (List.mem_range.2 ha) ((hitB_iff hsa).2 this.2)
              · intro hh
                have := hr.hit i a ⟨hi, hm⟩ hsi hsa (.inr ((hitB_iff hsa).1 hh))
                exact hback i (List.mem_range.2 hi) ((hitB_iff hsi).2 this.1)) k r hk hrr
            rw [hg, hitB_iff hsr]
            have l1 := h2 r
            have l2 := h1.low r hrn hsr
            have hv : clV (idL n) r = (r : Int) := by rw [clV_lt (by simpa [idL] using hrn)]; simp [idL]
            omega
        exact .inl fun k hk => hmono k (List.mem_range.2 hk) (hall k hk)
/-- The document's marks are the classes' first indexes. -/
theorem marks_eq {n : Nat} {st : List Bool} {M : Nat → List (Option Nat)} {c : List Int} (hc : ClGen n st M c) {k : Nat} (hk : k < n) (hs : st.getD k false = true) : clV (marksR n st M n) k = clV c k := by
  obtain ⟨_, _, h⟩ := marks_ok hc n
  rcases h with h | h
  · exact (hitB_iff hs).1 (h k hk)
  · have hle : (List.range n).countP (fun _ => true) ≤ (List.range n).countP (hitB st c (marksR n st M n)) := by simpa using h
    exact (hitB_iff hs).1 (count_back (p := hitB st c (marksR n st M n)) (q := fun _ => true) (l := List.range n) (fun _ _ _ => rfl) hle k (List.mem_range.2 hk) rfl)
def unitQ (n : Nat) (st : List Bool) (mk : List Int) (i : Nat) : List Nat := (List.range n).filter fun k => st.getD k false && (clV mk k == (i : Int))
def unitsQ (n : Nat) (st : List Bool) (mk : List Int) (ph : Nat → Bool) : List (List Nat) := ((List.range n).map (unitQ n st mk)).filter (someB ph)
theorem filter_skip {α β : Type} {g : α → β} {p : β → Bool} {q : α → Bool} : ∀ {l : List α}, (∀ x ∈ l, q x = false → p (g x) = false) → (l.map g).filter p = ((l.filter q).map g).filter p
  | [], _ => rfl
  | x :: l, h => by
    have ih := filter_skip (l := l) (fun y hy => h y (List.mem_cons_of_mem _ hy))
    cases hq : q x with
    | true => rw [List.filter_cons_of_pos hq, List.map_cons, List.map_cons, List.filter_cons, List.filter_cons, ih]
    | false => rw [List.filter_cons_of_neg (by rw [hq]; simp), List.map_cons, List.filter_cons_of_neg (by rw [h x (List.mem_cons_self ..) hq]; simp), ih]
theorem unitsQ_eq {n : Nat} {st : List Bool} {M : Nat → List (Option Nat)} (hM : ∀ i, i < n → ∀ o ∈ M i, ∀ a, o = some a → a < n) (ph : Nat → Bool) : unitsQ n st (marksR n st M n) ph = unitsF (clUpto n st M n) n ph := by
  have hc := clUpto_clGen (st := st) hM
  generalize clUpto n st M n = c at hc
  have hu : ∀ i, unitQ n st (marksR n st M n) i = mems c n i := fun i => by
    refine List.filter_congr fun k hk => ?_
    have hk' := List.mem_range.1 hk
    cases hs : st.getD k false
    · have := (hc.ok.stale k hk').2 hs
      rw [this]; simp
    · rw [marks_eq hc hk' hs]; simp
  unfold unitsQ unitsF unitsR reps
  rw [List.map_congr_left (fun i _ => hu i)]
  refine filter_skip fun i hi hq => ?_
  have hn : mems c n i = [] := List.filter_eq_nil_iff.2 fun k hk => by
    intro e
    have e' : clV c k = (i : Int) := by simpa using e
    obtain ⟨r, hr, _, hrr⟩ := hc.ok.low k (List.mem_range.1 hk) (by rw [e']; omega)
    have : r = i := by omega
    subst this
    rw [hrr] at hq
    simp at hq
  rw [hn]; rfl
end Go.Proofs.Ytlkpbpecgdphaaa
