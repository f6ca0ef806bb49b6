/-
  THE PROGRAM's unite: two classes become one.
-/
import Derived.Test.YtlkpbpecgdphaaaGreatDoorUp
namespace Go.Proofs.YtlkpbpecgdphaaaGreatDoor
open Go.RowKit

/-- Of each group the first index of its class: -1 for one that is not stale. -/
def clV (c : List Int) (i : Nat) : Int := c.getD i (-1)
def cl0 (n : Nat) (st : List Bool) : List Int := (List.range n).map fun (i : Nat) => if st.getD i false then (i : Int) else -1
def uniteR (c : List Int) (a b : Int) : List Int := c.map fun x => if x = a ∨ x = b then min a b else x
def clNeed (c : List Int) (i : Nat) (o : Option Nat) : List Int := match o with
  | none => c
  | some a => if clV c a ≠ -1 ∧ clV c i ≠ -1 then uniteR c (clV c i) (clV c a) else c
def clNeeds (c : List Int) (i : Nat) (os : List (Option Nat)) : List Int := os.foldl (fun c o => clNeed c i o) c
def clUpto (n : Nat) (st : List Bool) (M : Nat → List (Option Nat)) : Nat → List Int
  | 0 => cl0 n st
  | k + 1 => clNeeds (clUpto n st M k) k (M k)
/-- What holds of the classes on the way. -/
structure ClOk (n : Nat) (st : List Bool) (c : List Int) : Prop where
  len : c.length = n
  stale : ∀ (i : Nat), i < n → (clV c i = -1 ↔ st.getD i false = false)
  low : ∀ (i : Nat), i < n → clV c i ≠ -1 → ∃ r : Nat, clV c i = (r : Int) ∧ r ≤ i ∧ clV c r = (r : Int)
theorem clV_lt {c : List Int} {i : Nat} (h : i < c.length) : clV c i = c[i] := by simp [clV, h]
theorem clV_ge {c : List Int} {i : Nat} (h : c.length ≤ i) : clV c i = -1 := by simp [clV, h]
theorem cl0_v (n : Nat) (st : List Bool) (i : Nat) (h : i < n) : clV (cl0 n st) i = if st.getD i false then (i : Int) else -1 := by
  rw [clV_lt (by simpa [cl0] using h)]; simp [cl0]
theorem cl0_ok (n : Nat) (st : List Bool) : ClOk n st (cl0 n st) where
  len := by simp [cl0]
  stale := fun i h => by
    rw [cl0_v n st i h]
    cases st.getD i false <;> simp <;> omega
  low := fun i h hn => by
    rw [cl0_v n st i h] at hn ⊢
    cases hb : st.getD i false
    · rw [hb] at hn; simp at hn
    · exact ⟨i, by simp, Nat.le_refl _, by rw [cl0_v n st i h, hb]; rfl⟩
theorem uniteR_len (c : List Int) (a b : Int) : (uniteR c a b).length = c.length := by simp [uniteR]
theorem uniteR_v (c : List Int) (a b : Int) (i : Nat) (h : i < c.length) : clV (uniteR c a b) i = if clV c i = a ∨ clV c i = b then min a b else clV c i := by
  rw [clV_lt (by rw [uniteR_len]; exact h), clV_lt h]; simp [uniteR]
theorem clNeed_len (c : List Int) (i : Nat) (o : Option Nat) : (clNeed c i o).length = c.length := by
  cases o with
  | none => rfl
  | some a => simp only [clNeed]; split <;> simp [uniteR]
theorem uniteR_ok {n : Nat} {st : List Bool} {c : List Int} (h : ClOk n st c) {i a : Nat} (hi : i < n) (ha : a < n) (h1 : clV c i ≠ -1) (h2 : clV c a ≠ -1) : ClOk n st (uniteR c (clV c i) (clV c a)) := by
  obtain ⟨r, hr, hri, hrr⟩ := h.low i hi h1
  obtain ⟨s, hs, hsa, hss⟩ := h.low a ha h2
  have hrn : r < n := by omega
  have hsn : s < n := by omega
  rw [hr, hs]
  have hm : min (r : Int) (s : Int) = ((min r s : Nat) : Int) := by omega
  have V : ∀ j : Nat, j < n → clV (uniteR c r s) j = if clV c j = r ∨ clV c j = s then ((min r s : Nat) : Int) else clV c j := fun j hj => by
    rw [uniteR_v c r s j (by rw [h.len]; exact hj), hm]
  refine ⟨by rw [uniteR_len]; exact h.len, fun j hj => ?_, fun j hj hn => ?_⟩
  · rw [V j hj, ← h.stale j hj]
    split
    · rename_i hc; constructor
      · intro; omega
      · intro e; rcases hc with hc | hc <;> omega
    · exact Iff.rfl
  · rw [V j hj] at hn ⊢
    by_cases hc : clV c j = r ∨ clV c j = s
    · rw [if_pos hc]
      have hcj : clV c j ≠ -1 := by rcases hc with hc | hc <;> omega
      obtain ⟨t, ht, htj, _⟩ := h.low j hj hcj
      have hle : min r s ≤ t := by rcases hc with hc | hc <;> omega
      refine ⟨min r s, rfl, by omega, ?_⟩
      rw [V (min r s) (by omega)]
      rw [if_pos]
      rcases Nat.le_total r s with hx | hx
      · rw [Nat.min_eq_left hx]; exact Or.inl hrr
      · rw [Nat.min_eq_right hx]; exact Or.inr hss
    · rw [if_neg hc] at hn ⊢
      obtain ⟨t, ht, htj, htt⟩ := h.low j hj hn
      refine ⟨t, ht, htj, ?_⟩
      rw [V t (by omega), htt, if_neg (by rw [← ht]; exact hc)]
theorem clNeed_ok {n : Nat} {st : List Bool} {c : List Int} (h : ClOk n st c) {i : Nat} (hi : i < n) {o : Option Nat} (ho : ∀ a, o = some a → a < n) : ClOk n st (clNeed c i o) := by
  cases o with
  | none => exact h
  | some a =>
    simp only [clNeed]; split
    · rename_i hc; exact uniteR_ok h hi (ho a rfl) hc.2 hc.1
    · exact h
/-- Two that belong together stay so. -/
theorem clNeed_eq {c : List Int} {i : Nat} {o : Option Nat} {x y : Nat} (hx : x < c.length) (hy : y < c.length) (h : clV c x = clV c y) : clV (clNeed c i o) x = clV (clNeed c i o) y := by
  cases o with
  | none => exact h
  | some a =>
    simp only [clNeed]; split
    · rw [uniteR_v c _ _ x hx, uniteR_v c _ _ y hy, h]
    · exact h
theorem clNeed_joins {n : Nat} {st : List Bool} {c : List Int} (h : ClOk n st c) {i a : Nat} (hi : i < n) (ha : a < n) (hs : st.getD i false = true) (hsa : st.getD a false = true) : clV (clNeed c i (some a)) i = clV (clNeed c i (some a)) a := by
  have h1 : clV c i ≠ -1 := fun e => by have := (h.stale i hi).1 e; rw [hs] at this; cases this
  have h2 : clV c a ≠ -1 := fun e => by have := (h.stale a ha).1 e; rw [hsa] at this; cases this
  simp only [clNeed]; rw [if_pos ⟨h2, h1⟩, uniteR_v c _ _ i (by rw [h.len]; exact hi), uniteR_v c _ _ a (by rw [h.len]; exact ha), if_pos (Or.inl rfl), if_pos (Or.inr rfl)]
theorem clNeeds_ok {n : Nat} {st : List Bool} {i : Nat} (hi : i < n) : ∀ (os : List (Option Nat)) (c : List Int), ClOk n st c → (∀ o ∈ os, ∀ a, o = some a → a < n) → ClOk n st (clNeeds c i os)
  | [], _, h, _ => h
  | o :: os, c, h, ho => clNeeds_ok hi os (clNeed c i o) (clNeed_ok h hi (ho o (List.mem_cons_self ..))) fun o' m => ho o' (List.mem_cons_of_mem _ m)
theorem clNeeds_len {i : Nat} : ∀ (os : List (Option Nat)) (c : List Int), (clNeeds c i os).length = c.length
  | [], _ => rfl
  | o :: os, c => (clNeeds_len os (clNeed c i o)).trans (clNeed_len c i o)
theorem clNeeds_eq {i x y : Nat} : ∀ (os : List (Option Nat)) (c : List Int), x < c.length → y < c.length → clV c x = clV c y → clV (clNeeds c i os) x = clV (clNeeds c i os) y
  | [], _, _, _, h => h
  | o :: os, c, hx, hy, h => clNeeds_eq os (clNeed c i o) (by rw [clNeed_len]; exact hx) (by rw [clNeed_len]; exact hy) (clNeed_eq hx hy h)
theorem clNeeds_joins {n : Nat} {st : List Bool} {i a : Nat} (hi : i < n) (ha : a < n) (hs : st.getD i false = true) (hsa : st.getD a false = true) : ∀ (os : List (Option Nat)) (c : List Int), ClOk n st c → (∀ o ∈ os, ∀ a, o = some a → a < n) → some a ∈ os → clV (clNeeds c i os) i = clV (clNeeds c i os) a
  | [], _, _, _, hm => by cases hm
  | o :: os, c, h, ho, hm => by
    have h' : ClOk n st (clNeed c i o) := clNeed_ok h hi (ho o (List.mem_cons_self ..))
    rcases List.mem_cons.1 hm with e | hm'
    · subst e
      exact clNeeds_eq os _ (by rw [h'.len]; exact hi) (by rw [h'.len]; exact ha) (clNeed_joins h hi ha hs hsa)
    · exact clNeeds_joins hi ha hs hsa os _ h' (fun o' m => ho o' (List.mem_cons_of_mem _ m)) hm'
theorem clUpto_ok {n : Nat} {st : List Bool} {M : Nat → List (Option Nat)} (hM : ∀ i, i < n → ∀ o ∈ M i, ∀ a, o = some a → a < n) : ∀ (k : Nat), k ≤ n → ClOk n st (clUpto n st M k)
  | 0, _ => cl0_ok n st
  | k + 1, hk => clNeeds_ok (by omega) (M k) _ (clUpto_ok hM k (by omega)) (hM k (by omega))
theorem clUpto_joins {n : Nat} {st : List Bool} {M : Nat → List (Option Nat)} (hM : ∀ i, i < n → ∀ o ∈ M i, ∀ a, o = some a → a < n) {i a : Nat} (ha : a < n) (hs : st.getD i false = true) (hsa : st.getD a false = true) (hm : some a ∈ M i) : ∀ (k : Nat), k ≤ n → i < k → clV (clUpto n st M k) i = clV (clUpto n st M k) a
  | 0, _, h => absurd h (by omega)
  | k + 1, hk, h => by
    have hk' := clUpto_ok (st := st) hM k (by omega)
    rcases Nat.lt_or_ge i k with hl | hl
    · exact clNeeds_eq (M k) _ (by rw [hk'.len]; omega) (by rw [hk'.len]; exact ha) (clUpto_joins hM ha hs hsa hm k (by omega) hl)
    · have e : i = k := by omega
      subst e
      exact clNeeds_joins (by omega) ha hs hsa (M i) _ hk' (hM i (by omega)) hm
end Go.Proofs.YtlkpbpecgdphaaaGreatDoor
namespace Go.Proofs.YtlkpbpecgdphaaaGreatDoor
open Go.RowKit

/-- The first indexes among the first k. -/
def reps (c : List Int) (k : Nat) : List Nat := (List.range k).filter fun (i : Nat) => clV c i == (i : Int)
def mems (c : List Int) (k r : Nat) : List Nat := (List.range k).filter fun i => clV c i == (r : Int)
def unitsR (c : List Int) (k : Nat) : List (List Nat) := (reps c k).map fun r => mems c k r
def someB (ph : Nat → Bool) (u : List Nat) : Bool := u.any fun i => !ph i
def unitsF (c : List Int) (n : Nat) (ph : Nat → Bool) : List (List Nat) := (unitsR c n).filter (someB ph)
theorem reps_succ (c : List Int) (k : Nat) : reps c (k + 1) = reps c k ++ if clV c k = (k : Int) then [k] else [] := by
  simp only [reps, List.range_succ, List.filter_append, List.filter_cons, List.filter_nil]
  by_cases h : clV c k = (k : Int) <;> simp [h]
theorem mems_succ (c : List Int) (k r : Nat) : mems c (k + 1) r = mems c k r ++ if clV c k = (r : Int) then [k] else [] := by
  simp only [mems, List.range_succ, List.filter_append, List.filter_cons, List.filter_nil]
  by_cases h : clV c k = (r : Int) <;> simp [h]
theorem mem_reps {c : List Int} {k r : Nat} : r ∈ reps c k ↔ r < k ∧ clV c r = (r : Int) := by simp [reps]
theorem mem_mems {c : List Int} {k r i : Nat} : i ∈ mems c k r ↔ i < k ∧ clV c i = (r : Int) := by simp [mems]
theorem unitsR_len (c : List Int) (k : Nat) : (unitsR c k).length = (reps c k).length := by simp [unitsR]
theorem unitsR_skip {c : List Int} {k : Nat} (h : clV c k = -1) : unitsR c (k + 1) = unitsR c k := by
  have e : reps c (k + 1) = reps c k := by rw [reps_succ, if_neg (by rw [h]; omega), List.append_nil]
  simp only [unitsR, e]
  refine List.map_congr_left fun r _ => ?_
  rw [mems_succ, if_neg (by rw [h]; omega), List.append_nil]
theorem mems_none {c : List Int} {k r : Nat} (hl : ∀ i, i < k → clV c i ≠ -1 → clV c i ≤ (i : Int)) (hr : k ≤ r) : mems c k r = [] := by
  refine List.filter_eq_nil_iff.2 fun i hi => ?_
  have hi' : i < k := List.mem_range.1 hi
  intro e
  have e' : clV c i = (r : Int) := by simpa using e
  have := hl i hi' (by rw [e']; omega)
  omega
theorem unitsR_new {n : Nat} {st : List Bool} {c : List Int} (hc : ClOk n st c) {k : Nat} (hk : k < n) (h : clV c k = (k : Int)) : unitsR c (k + 1) = unitsR c k ++ [[k]] := by
  have e : reps c (k + 1) = reps c k ++ [k] := by rw [reps_succ, if_pos h]
  have hl : ∀ i, i < k → clV c i ≠ -1 → clV c i ≤ (i : Int) := fun i hi hn => by obtain ⟨r, hr, hri, _⟩ := hc.low i (by omega) hn; omega
  simp only [unitsR, e, List.map_append, List.map_cons, List.map_nil]
  congr 1
  · refine List.map_congr_left fun r hr => ?_
    have := (mem_reps.1 hr).1
    rw [mems_succ, if_neg (by rw [h]; omega), List.append_nil]
  · rw [mems_succ, if_pos h, mems_none hl (Nat.le_refl _)]; rfl
/-- The place of a first index among the first indexes. -/
theorem reps_at {c : List Int} : ∀ {k r : Nat}, r < k → clV c r = (r : Int) → (reps c k)[(reps c r).length]? = some r
  | 0, _, h, _ => absurd h (by omega)
  | k + 1, r, h, hr => by
    rw [reps_succ]
    rcases Nat.lt_or_ge r k with hl | hl
    · have hx := reps_at hl hr
      have hlt : (reps c r).length < (reps c k).length := by
        rcases Nat.lt_or_ge (reps c r).length (reps c k).length with g | g
        · exact g
        · rw [List.getElem?_eq_none g] at hx; cases hx
      rw [List.getElem?_append_left hlt]; exact hx
    · have e : r = k := by omega
      subst e
      rw [List.getElem?_append_right (Nat.le_refl _), if_pos hr]; simp
theorem inc_inj {l : List Nat} (h : l.Pairwise (· < ·)) {i j r : Nat} (hi : l[i]? = some r) (hj : l[j]? = some r) : i = j := by
  obtain ⟨h1, e1⟩ := List.getElem?_eq_some_iff.1 hi
  obtain ⟨h2, e2⟩ := List.getElem?_eq_some_iff.1 hj
  have hp := List.pairwise_iff_getElem.1 h
  rcases Nat.lt_trichotomy i j with g | g | g
  · have := hp i j h1 h2 g; omega
  · exact g
  · have := hp j i h2 h1 g; omega
theorem reps_inj {c : List Int} {k i j : Nat} {r : Nat} (hi : (reps c k)[i]? = some r) (hj : (reps c k)[j]? = some r) : i = j := by
  exact inc_inj (List.pairwise_lt_range.filter _) hi hj
theorem unitsR_more {n : Nat} {st : List Bool} {c : List Int} (hc : ClOk n st c) {k r : Nat} (hk : k < n) (h : clV c k = (r : Int)) (hne : r ≠ k) : r < k ∧ clV c r = (r : Int) ∧ ∃ u, (unitsR c k)[(reps c r).length]? = some u ∧ unitsR c (k + 1) = (unitsR c k).set (reps c r).length (u ++ [k]) := by
  obtain ⟨s, hs, hsk, hss⟩ := hc.low k hk (by rw [h]; omega)
  have e : s = r := by omega
  subst e
  have hlt : s < k := by omega
  have ha := reps_at hlt hss
  refine ⟨hlt, hss, mems c k s, by simp [unitsR, ha], ?_⟩
  have er : reps c (k + 1) = reps c k := by rw [reps_succ, if_neg (by rw [h]; omega), List.append_nil]
  refine List.ext_getElem? fun j => ?_
  simp only [unitsR, er, List.getElem?_map, List.getElem?_set, List.length_map]
  by_cases hj : (reps c s).length = j
  · subst hj
    have hl : (reps c s).length < (reps c k).length := (List.getElem?_eq_some_iff.1 ha).1
    rw [if_pos rfl, if_pos hl, ha]; simp [mems_succ, h]
  · rw [if_neg hj]
    cases hx : (reps c k)[j]? with
    | none => rfl
    | some t =>
      have ht : t ≠ s := fun e => hj (reps_inj ha (e ▸ hx))
      simp only [Option.map_some]
      rw [mems_succ, if_neg (by rw [h]; omega), List.append_nil]

/-- What a list of units keeps. -/
structure UnOk (n : Nat) (st : List Bool) (ph : Nat → Bool) (M : Nat → List (Option Nat)) (U : List (List Nat)) : Prop where
  full : ∀ (j : Nat) (u : List Nat), U[j]? = some u → u ≠ []
  inn : ∀ (j : Nat) (u : List Nat), U[j]? = some u → ∀ x ∈ u, x < n ∧ st.getD x false = true
  inc : ∀ (j : Nat) (u : List Nat), U[j]? = some u → u.Pairwise (· < ·)
  apart : ∀ (j k : Nat) (u v : List Nat) (x : Nat), U[j]? = some u → U[k]? = some v → x ∈ u → x ∈ v → j = k
  first : ∀ (j k : Nat) (u v : List Nat), j < k → U[j]? = some u → U[k]? = some v → u.headD 0 < v.headD 0
  all : ∀ (x : Nat), x < n → st.getD x false = true → ph x = false → ∃ (j : Nat) (u : List Nat), U[j]? = some u ∧ x ∈ u
  joint : ∀ (x a : Nat), x < n → a < n → st.getD x false = true → st.getD a false = true → some a ∈ M x → ∀ (j : Nat) (u : List Nat), U[j]? = some u → (x ∈ u ↔ a ∈ u)
/-- The first indexes whose classes are not all phony. -/
def repsF (c : List Int) (n : Nat) (ph : Nat → Bool) : List Nat := (reps c n).filter fun r => someB ph (mems c n r)
theorem unitsF_eq (c : List Int) (n : Nat) (ph : Nat → Bool) : unitsF c n ph = (repsF c n ph).map fun r => mems c n r := by
  simp only [unitsF, unitsR, repsF, List.filter_map]; rfl
theorem repsF_inc (c : List Int) (n : Nat) (ph : Nat → Bool) : (repsF c n ph).Pairwise (· < ·) := (List.pairwise_lt_range.filter _).filter _
theorem mems_head {n : Nat} {st : List Bool} {c : List Int} (hc : ClOk n st c) {r : Nat} (h : r ∈ reps c n) : (mems c n r).headD 0 = r ∧ r ∈ mems c n r := by
  obtain ⟨hr, hrr⟩ := mem_reps.1 h
  have hm : r ∈ mems c n r := mem_mems.2 ⟨hr, hrr⟩
  refine ⟨?_, hm⟩
  cases hx : mems c n r with
  | nil => rw [hx] at hm; cases hm
  | cons a t =>
    have hp : (mems c n r).Pairwise (· < ·) := List.pairwise_lt_range.filter _
    have ha : a ∈ mems c n r := by rw [hx]; exact List.mem_cons_self ..
    obtain ⟨han, hac⟩ := mem_mems.1 ha
    obtain ⟨s, hs, hsa, _⟩ := hc.low a han (by rw [hac]; omega)
    have hra : r ≤ a := by omega
    rw [hx] at hm hp
    rcases List.mem_cons.1 hm with e | m
    · exact e.symm
    · have := (List.pairwise_cons.1 hp).1 r m; omega
theorem units_ok {n : Nat} {st : List Bool} {ph : Nat → Bool} {M : Nat → List (Option Nat)} (hM : ∀ i, i < n → ∀ o ∈ M i, ∀ a, o = some a → a < n) : UnOk n st ph M (unitsF (clUpto n st M n) n ph) := by
  have hc := clUpto_ok (st := st) hM n (Nat.le_refl _)
  have hj := fun (i a : Nat) (hi : i < n) (ha : a < n) (hs : st.getD i false = true) (hsa : st.getD a false = true) (hm : some a ∈ M i) => clUpto_joins hM ha hs hsa hm n (Nat.le_refl _) hi
  generalize clUpto n st M n = c at hc hj
  rw [unitsF_eq]
  have hat : ∀ (j : Nat) (u : List Nat), ((repsF c n ph).map fun r => mems c n r)[j]? = some u → ∃ r, (repsF c n ph)[j]? = some r ∧ r ∈ reps c n ∧ u = mems c n r := fun j u h => by
    rw [List.getElem?_map] at h
    cases hx : (repsF c n ph)[j]? with
    | none => rw [hx] at h; cases h
    | some r =>
      rw [hx] at h
      exact ⟨r, rfl, (List.mem_filter.1 (List.mem_of_getElem? hx)).1, (Option.some.inj h).symm⟩
  have hinj : ∀ {j k : Nat} {r : Nat}, (repsF c n ph)[j]? = some r → (repsF c n ph)[k]? = some r → j = k := fun {j k r} h1 h2 => inc_inj (repsF_inc c n ph) h1 h2
  refine ⟨fun j u h => ?_, fun j u h x hx => ?_, fun j u h => ?_, fun j k u v x h1 h2 hx hy => ?_, fun j k u v hlt h1 h2 => ?_, fun x hx hs hp => ?_, fun x a hx ha hs hsa hm j u h => ?_⟩
  · obtain ⟨r, _, hr, e⟩ := hat j u h
    intro e0; have := (mems_head hc hr).2; rw [← e, e0] at this; cases this
  · obtain ⟨r, _, hr, e⟩ := hat j u h
    rw [e] at hx
    obtain ⟨h1, h2⟩ := mem_mems.1 hx
    refine ⟨h1, ?_⟩
    cases hb : st.getD x false
    · have := (hc.stale x h1).2 hb; omega
    · rfl
  · obtain ⟨r, _, hr, e⟩ := hat j u h
    rw [e]; exact List.pairwise_lt_range.filter _
  · obtain ⟨r, g1, _, e1⟩ := hat j u h1
    obtain ⟨s, g2, _, e2⟩ := hat k v h2
    rw [e1] at hx; rw [e2] at hy
    have a1 := (mem_mems.1 hx).2
    have a2 := (mem_mems.1 hy).2
    have e : r = s := by omega
    subst e
    exact hinj g1 g2
  · obtain ⟨r, g1, hr, e1⟩ := hat j u h1
    obtain ⟨s, g2, hs, e2⟩ := hat k v h2
    rw [e1, e2, (mems_head hc hr).1, (mems_head hc hs).1]
    obtain ⟨l1, f1⟩ := List.getElem?_eq_some_iff.1 g1
    obtain ⟨l2, f2⟩ := List.getElem?_eq_some_iff.1 g2
    rw [← f1, ← f2]
    exact (List.pairwise_iff_getElem.1 (repsF_inc c n ph)) j k l1 l2 hlt
  · have hn : clV c x ≠ -1 := fun e => by have := (hc.stale x hx).1 e; rw [hs] at this; cases this
    obtain ⟨r, hr, hrx, hrr⟩ := hc.low x hx hn
    have hmr : r ∈ reps c n := mem_reps.2 ⟨by omega, hrr⟩
    have hmx : x ∈ mems c n r := mem_mems.2 ⟨hx, hr⟩
    have hf : r ∈ repsF c n ph := List.mem_filter.2 ⟨hmr, List.any_eq_true.2 ⟨x, hmx, by rw [hp]; rfl⟩⟩
    obtain ⟨j, hj'⟩ := List.getElem?_of_mem hf
    exact ⟨j, mems c n r, by rw [List.getElem?_map, hj']; rfl, hmx⟩
  · obtain ⟨r, _, hr, e⟩ := hat j u h
    have := hj x a hx ha hs hsa hm
    rw [e, mem_mems, mem_mems, this]
    simp [hx, ha]
end Go.Proofs.YtlkpbpecgdphaaaGreatDoor
namespace Go.Proofs.YtlkpbpecgdphaaaGreatDoor
open Go.RowKit

abbrev tI : TypeId := 3
def icells (c : List Int) : Array Value := (c.map fun x => Value.int .i64 x).toArray
theorem icells_at (c : List Int) (i : Nat) (h : i < c.length) : (icells c)[i]? = some (.int .i64 (clV c i)) := by
  rw [clV_lt h]; simp [icells, h]
theorem icells_set (c : List Int) (i : Nat) (x : Int) : (icells c).setIfInBounds i (.int .i64 x) = icells (c.set i x) := by
  simp [icells, List.map_set]
/-- The first k of the classes are united. -/
def mixR (c : List Int) (a b : Int) (k : Nat) : List Int := uniteR (c.take k) a b ++ c.drop k
theorem mixR_zero (c : List Int) (a b : Int) : mixR c a b 0 = c := by simp [mixR, uniteR]
theorem mixR_end (c : List Int) (a b : Int) : mixR c a b c.length = uniteR c a b := by simp [mixR]
theorem mixR_len (c : List Int) (a b : Int) (k : Nat) : (mixR c a b k).length = c.length := by simp [mixR, uniteR]; omega
theorem mixR_at (c : List Int) (a b : Int) (k : Nat) (h : k < c.length) : clV (mixR c a b k) k = clV c k := by
  simp only [clV, mixR, List.getD_eq_getElem?_getD]
  rw [List.getElem?_append_right (by simp [uniteR]; omega)]
  simp [uniteR, Nat.min_eq_left (Nat.le_of_lt h)]
theorem mixR_succ (c : List Int) (a b : Int) (k : Nat) (h : k < c.length) : mixR c a b (k + 1) = if clV c k = a ∨ clV c k = b then (mixR c a b k).set k (min a b) else mixR c a b k := by
  have e1 : c.take (k + 1) = c.take k ++ [c[k]] := by rw [List.take_add_one]; simp [h]
  have e2 : c.drop k = c[k] :: c.drop (k + 1) := List.drop_eq_getElem_cons h
  have e3 : (uniteR (c.take k) a b).length = k := by simp [uniteR]; omega
  have e4 : uniteR (c.take k ++ [c[k]]) a b = uniteR (c.take k) a b ++ [if c[k] = a ∨ c[k] = b then min a b else c[k]] := by simp only [uniteR, List.map_append, List.map_cons, List.map_nil]
  rw [clV_lt h]
  simp only [mixR]
  rw [e1, e2, e4]
  split
  · rw [List.set_append_right _ _ (by omega), e3, Nat.sub_self, List.append_assoc]; rfl
  · simp
def UwRel (w : World) (g : Nat) (c : List Int) (a b : Int) (v : Value) (wr : World) : Prop :=
  ∃ k : Nat, k ≤ c.length ∧ v = .int .i64 k ∧ Upd w wr (One g) ∧ Blk wr g tI (icells (mixR c a b k))
set_option maxHeartbeats 2000000 in
set_option maxRecDepth 100000 in
theorem unite_any (w : World) (g cap : Nat) (c : List Int) (a b : Int) (n : Nat) (hl : c.length = n) (hn : n ≤ 100000) (hB : Blk w g tI (icells c)) :
    Calls Tryz.prog 88 #[.slice (some ⟨g, 0, none⟩) n cap, .int .i64 a, .int .i64 b] w fun e w' => e = .returned (.tuple #[]) ∧ Upd w w' (One g) ∧ Blk w' g tI (icells (uniteR c a b)) := by
  have HB := Lib.hid hB
  have HL := Lib.hid hl
  clear hB hl
  go_enter Tryz.func88, Tryz.ntmps88
  go_wp2
  go_loopw [9] (fun i wr => UwRel w g c a b i wr) (fun i _ => n - (intOf i).toNat)
  case atStart => exact ⟨0, Nat.zero_le _, by go_num, Upd.refl _ _, by rw [mixR_zero]; exact HB.out⟩
  case round =>
    obtain ⟨k, hk, rfl, hu, hb⟩ := hrel
    have HU := Lib.hid hu
    have HC := Lib.hid hb
    have HK := Lib.hid hk
    clear hu hb hk
    by_cases hlt : k < n
    · have hkc : k < c.length := by rw [HL.out]; exact hlt
      have ck : wr.cell? ⟨g, k, none⟩ = some (.int .i64 (clV c k)) := by
        rw [HC.out.cell, icells_at _ _ (by rw [mixR_len]; exact hkc), mixR_at c a b k hkc]
      have zk : wr.frozen? ⟨g, k, none⟩ = false := HC.out.free k
      have HS := Lib.hid (mixR_succ c a b k hkc)
      generalize clV c k = x at ck HS
      clear hkc
      by_cases hx : x = a ∨ x = b
      · rw [if_pos hx] at HS
        have hx' : x = a ∨ ¬ x = a ∧ x = b := by by_cases e : x = a; exact .inl e; exact .inr ⟨e, hx.resolve_left e⟩
        clear hx
        rcases hx' with rfl | ⟨hne, rfl⟩
        · go_wp2
          go_roundw
          case rel => exact ⟨k + 1, by have := HL.out; omega, by go_num, HU.out.setOne _ _, by rw [HS.out, ← icells_set]; exact HC.out.set _ _⟩
          case measure => simp [intOf]; omega
        · have hb : (x == a) = false := by simpa using hne
          go_wp2
          go_roundw
          case rel => exact ⟨k + 1, by have := HL.out; omega, by go_num, HU.out.setOne _ _, by rw [HS.out, ← icells_set]; exact HC.out.set _ _⟩
          case measure => simp [intOf]; omega
      · rw [if_neg hx] at HS
        have h1 : ¬ x = a := fun e => hx (.inl e)
        have h2 : ¬ x = b := fun e => hx (.inr e)
        have b1 : (x == a) = false := by simpa using h1
        have b2 : (x == b) = false := by simpa using h2
        clear hx h1 h2
        go_wp2
        go_roundw
        case rel => exact ⟨k + 1, by have := HL.out; omega, by go_num, HU.out, by rw [HS.out]; exact HC.out⟩
        case measure => simp [intOf]; omega
    · obtain rfl : k = n := by have := HK.out; have := HL.out; omega
      go_wp2
      go_end0
      exact ⟨rfl, HU.out, by have := HC.out; rw [← HL.out, mixR_end] at this; exact this⟩
end Go.Proofs.YtlkpbpecgdphaaaGreatDoor
