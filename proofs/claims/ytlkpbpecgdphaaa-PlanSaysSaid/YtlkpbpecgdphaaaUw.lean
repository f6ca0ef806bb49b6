/-
  THE PROGRAM's unite: two classes become one.
-/
import Derived.Test.YtlkpbpecgdphaaaUn
import Derived.Test.YtlkpbpecgdphaaaGf
namespace Go.Proofs.Ytlkpbpecgdphaaa
open Go.RowKit

/-- The first indexes among the first k. -/
def reps (c : List Int) (k : Nat) : List Nat := (List.range k).filter fun (i : Nat) => clV c i == (i : Int)
def mems (c : List Int) (k r : Nat) : List Nat := (List.range k).filter fun i => clV c i == (r : Int)
def unitsR (c : List Int) (k : Nat) : List (List Nat) := (reps c k).map fun r => mems c k r
def someB (ph : Nat → Bool) (u : List Nat) : Bool := u.any fun i => !ph i
def unitsF (c : List Int) (n : Nat) (ph : Nat → Bool) : List (List Nat) := (unitsR c n).filter (someB ph)
theorem reps_succ (c : List Int) (k : Nat) : reps c (k + 1) = reps c k ++ if clV c k = (k : Int) then [k] else [] := by
  simp only [reps, List.range_succ, List.filter_append, List.filter_cons, List.filter_nil]
  by_cases h : clV c k = (k : Int) <;> simp [h]
theorem mems_succ (c : List Int) (k r : Nat) : mems c (k + 1) r = mems c k r ++ if clV c k = (r : Int) then [k] else [] := by
  simp only [mems, List.range_succ, List.filter_append, List.filter_cons, List.filter_nil]
  by_cases h : clV c k = (r : Int) <;> simp [h]
theorem mem_reps {c : List Int} {k r : Nat} : r ∈ reps c k ↔ r < k ∧ clV c r = (r : Int) := by simp [reps]
theorem mem_mems {c : List Int} {k r i : Nat} : i ∈ mems c k r ↔ i < k ∧ clV c i = (r : Int) := by simp [mems]
theorem unitsR_len (c : List Int) (k : Nat) : (unitsR c k).length = (reps c k).length := by simp [unitsR]
theorem unitsR_skip {c : List Int} {k : Nat} (h : clV c k = -1) : unitsR c (k + 1) = unitsR c k := by
  have e : reps c (k + 1) = reps c k := by rw [reps_succ, if_neg (by rw [h]; omega), List.append_nil]
  simp only [unitsR, e]
  refine List.map_congr_left fun r _ => ?_
  rw [mems_succ, if_neg (by rw [h]; omega), List.append_nil]
theorem mems_none {c : List Int} {k r : Nat} (hl : ∀ i, i < k → clV c i ≠ -1 → clV c i ≤ (i : Int)) (hr : k ≤ r) : mems c k r = [] := by
  refine List.filter_eq_nil_iff.2 fun i hi => ?_
  have hi' : i < k := List.mem_range.1 hi
  intro e
  have e' : clV c i = (r : Int) := by simpa using e
  have := hl i hi' (by rw [e']; omega)
  omega
theorem unitsR_new {n : Nat} {st : List Bool} {c : List Int} (hc : ClOk n st c) {k : Nat} (hk : k < n) (h : clV c k = (k : Int)) : unitsR c (k + 1) = unitsR c k ++ [[k]] := by
  have e : reps c (k + 1) = reps c k ++ [k] := by rw [reps_succ, if_pos h]
  have hl : ∀ i, i < k → clV c i ≠ -1 → clV c i ≤ (i : Int) := fun i hi hn => by obtain ⟨r, hr, hri, _⟩ := hc.low i (by omega) hn; omega
  simp only [unitsR, e, List.map_append, List.map_cons, List.map_nil]
  congr 1
  · refine List.map_congr_left fun r hr => ?_
    have := (mem_reps.1 hr).1
    rw [mems_succ, if_neg (by rw [h]; omega), List.append_nil]
  · rw [mems_succ, if_pos h, mems_none hl (Nat.le_refl _)]; rfl
/-- The place of a first index among the first indexes. -/
theorem reps_at {c : List Int} : ∀ {k r : Nat}, r < k → clV c r = (r : Int) → (reps c k)[(reps c r).length]? = some r
  | 0, _, h, _ => absurd h (by omega)
  | k + 1, r, h, hr => by
    rw [reps_succ]
    rcases Nat.lt_or_ge r k with hl | hl
    · have hx := reps_at hl hr
      have hlt : (reps c r).length < (reps c k).length := by
        rcases Nat.lt_or_ge (reps c r).length (reps c k).length with g | g
        · exact g
        · rw [List.getElem?_eq_none g] at hx; cases hx
      rw [List.getElem?_append_left hlt]; exact hx
    · have e : r = k := by omega
      subst e
      rw [List.getElem?_append_right (Nat.le_refl _), if_pos hr]; simp
theorem inc_inj {l : List Nat} (h : l.Pairwise (· < ·)) {i j r : Nat} (hi : l[i]? = some r) (hj : l[j]? = some r) : i = j := by
  obtain ⟨h1, e1⟩ := List.getElem?_eq_some_iff.1 hi
  obtain ⟨h2, e2⟩ := List.getElem?_eq_some_iff.1 hj
  have hp := List.pairwise_iff_getElem.1 h
  rcases Nat.lt_trichotomy i j with g | g | g
  · have := hp i j h1 h2 g; omega
  · exact g
  · have := hp j i h2 h1 g; omega
theorem reps_inj {c : List Int} {k i j : Nat} {r : Nat} (hi : (reps c k)[i]? = some r) (hj : (reps c k)[j]? = some r) : i = j := by
  exact inc_inj (List.pairwise_lt_range.filter _) hi hj
theorem unitsR_more {n : Nat} {st : List Bool} {c : List Int} (hc : ClOk n st c) {k r : Nat} (hk : k < n) (h : clV c k = (r : Int)) (hne : r ≠ k) : r < k ∧ clV c r = (r : Int) ∧ ∃ u, (unitsR c k)[(reps c r).length]? = some u ∧ unitsR c (k + 1) = (unitsR c k).set (reps c r).length (u ++ [k]) := by
  obtain ⟨s, hs, hsk, hss⟩ := hc.low k hk (by rw [h]; omega)
  have e : s = r := by omega
  subst e
  have hlt : s < k := by omega
  have ha := reps_at hlt hss
  refine ⟨hlt, hss, mems c k s, by simp [unitsR, ha], ?_⟩
  have er : reps c (k + 1) = reps c k := by rw [reps_succ, if_neg (by rw [h]; omega), List.append_nil]
  refine List.ext_getElem? fun j => ?_
  simp only [unitsR, er, List.getElem?_map, List.getElem?_set, List.length_map]
  by_cases hj : (reps c s).length = j
  · subst hj
    have hl : (reps c s).length < (reps c k).length := (List.getElem?_eq_some_iff.1 ha).1
    rw [if_pos rfl, if_pos hl, ha]; simp [mems_succ, h]
  · rw [if_neg hj]
    cases hx : (reps c k)[j]? with
    | none => rfl
    | some t =>
      have ht : t ≠ s := fun e => hj (reps_inj ha (e ▸ hx))
      simp only [Option.map_some]
      rw [mems_succ, if_neg (by rw [h]; omega), List.append_nil]

/-- What a list of units keeps. -/
structure UnOk (n : Nat) (st : List Bool) (ph : Nat → Bool) (M : Nat → List (Option Nat)) (U : List (List Nat)) : Prop where
  full : ∀ (j : Nat) (u : List Nat), U[j]? = some u → u ≠ []
  inn : ∀ (j : Nat) (u : List Nat), U[j]? = some u → ∀ x ∈ u, x < n ∧ st.getD x false = true
  inc : ∀ (j : Nat) (u : List Nat), U[j]? = some u → u.Pairwise (· < ·)
  apart : ∀ (j k : Nat) (u v : List Nat) (x : Nat), U[j]? = some u → U[k]? = some v → x ∈ u → x ∈ v → j = k
  first : ∀ (j k : Nat) (u v : List Nat), j < k → U[j]? = some u → U[k]? = some v → u.headD 0 < v.headD 0
  all : ∀ (x : Nat), x < n → st.getD x false = true → ph x = false → ∃ (j : Nat) (u : List Nat), U[j]? = some u ∧ x ∈ u
  joint : ∀ (x a : Nat), x < n → a < n → st.getD x false = true → st.getD a false = true → some a ∈ M x → ∀ (j : Nat) (u : List Nat), U[j]? = some u → (x ∈ u ↔ a ∈ u)
/-- The first indexes whose classes are not all phony. -/
def repsF (c : List Int) (n : Nat) (ph : Nat → Bool) : List Nat := (reps c n).filter fun r => someB ph (mems c n r)
theorem unitsF_eq (c : List Int) (n : Nat) (ph : Nat → Bool) : unitsF c n ph = (repsF c n ph).map fun r => mems c n r := by
  simp only [unitsF, unitsR, repsF, List.filter_map]; rfl
theorem repsF_inc (c : List Int) (n : Nat) (ph : Nat → Bool) : (repsF c n ph).Pairwise (· < ·) := (List.pairwise_lt_range.filter _).filter _
theorem mems_head {n : Nat} {st : List Bool} {c : List Int} (hc : ClOk n st c) {r : Nat} (h : r ∈ reps c n) : (mems c n r).headD 0 = r ∧ r ∈ mems c n r := by
  obtain ⟨hr, hrr⟩ := mem_reps.1 h
  have hm : r ∈ mems c n r := mem_mems.2 ⟨hr, hrr⟩
  refine ⟨?_, hm⟩
  cases hx : mems c n r with
  | nil => rw [hx] at hm; cases hm
  | cons a t =>
    have hp : (mems c n r).Pairwise (· < ·) := List.pairwise_lt_range.filter _
    have ha : a ∈ mems c n r := by rw [hx]; exact List.mem_cons_self ..
    obtain ⟨han, hac⟩ := mem_mems.1 ha
    obtain ⟨s, hs, hsa, _⟩ := hc.low a han (by rw [hac]; omega)
    have hra : r ≤ a := by omega
    rw [hx] at hm hp
    rcases List.mem_cons.1 hm with e | m
    · exact e.symm
    · have := (List.pairwise_cons.1 hp).1 r m; omega
theorem units_ok {n : Nat} {st : List Bool} {ph : Nat → Bool} {M : Nat → List (Option Nat)} (hM : ∀ i, i < n → ∀ o ∈ M i, ∀ a, o = some a → a < n) : UnOk n st ph M (unitsF (clUpto n st M n) n ph) := by
  have hc := clUpto_ok (st := st) hM n (Nat.le_refl _)
  have hj := fun (i a : Nat) (hi : i < n) (ha : a < n) (hs : st.getD i false = true) (hsa : st.getD a false = true) (hm : some a ∈ M i) => clUpto_joins hM ha hs hsa hm n (Nat.le_refl _) hi
  generalize clUpto n st M n = c at hc hj
  rw [unitsF_eq]
  have hat : ∀ (j : Nat) (u : List Nat), ((repsF c n ph).map fun r => mems c n r)[j]? = some u → ∃ r, (repsF c n ph)[j]? = some r ∧ r ∈ reps c n ∧ u = mems c n r := fun j u h => by
    rw [List.getElem?_map] at h
    cases hx : (repsF c n ph)[j]? with
    | none => rw [hx] at h; cases h
    | some r =>
      rw [hx] at h
      exact ⟨r, rfl, (List.mem_filter.1 (List.mem_of_getElem? hx)).1, (Option.some.inj h).symm⟩
  have hinj : ∀ {j k : Nat} {r : Nat}, (repsF c n ph)[j]? = some r → (repsF c n ph)[k]? = some r → j = k := fun {j k r} h1 h2 => inc_inj (repsF_inc c n ph) h1 h2
  refine ⟨fun j u h => ?_, fun j u h x hx => ?_, fun j u h => ?_, fun j k u v x h1 h2 hx hy => ?_, fun j k u v hlt h1 h2 => ?_, fun x hx hs hp => ?_, fun x a hx ha hs hsa hm j u h => ?_⟩
  · obtain ⟨r, _, hr, e⟩ := hat j u h
    intro e0; have := (mems_head hc hr).2; rw [← e, e0] at this; cases this
  · obtain ⟨r, _, hr, e⟩ := hat j u h
    rw [e] at hx
    obtain ⟨h1, h2⟩ := mem_mems.1 hx
    refine ⟨h1, ?_⟩
    cases hb : st.getD x false
    · have := (hc.stale x h1).2 hb; omega
    · rfl
  · obtain ⟨r, _, hr, e⟩ := hat j u h
    rw [e]; exact List.pairwise_lt_range.filter _
  · obtain ⟨r, g1, _, e1⟩ := hat j u h1
    obtain ⟨s, g2, _, e2⟩ := hat k v h2
    rw [e1] at hx; rw [e2] at hy
    have a1 := (mem_mems.1 hx).2
    have a2 := (mem_mems.1 hy).2
    have e : r = s := by omega
    subst e
    exact hinj g1 g2
  · obtain ⟨r, g1, hr, e1⟩ := hat j u h1
    obtain ⟨s, g2, hs, e2⟩ := hat k v h2
    rw [e1, e2, (mems_head hc hr).1, (mems_head hc hs).1]
    obtain ⟨l1, f1⟩ := List.getElem?_eq_some_iff.1 g1
    obtain ⟨l2, f2⟩ := List.getElem?_eq_some_iff.1 g2
    rw [← f1, ← f2]
    exact (List.pairwise_iff_getElem.1 (repsF_inc c n ph)) j k l1 l2 hlt
  · have hn : clV c x ≠ -1 := fun e => by have := (hc.stale x hx).1 e; rw [hs] at this; cases this
    obtain ⟨r, hr, hrx, hrr⟩ := hc.low x hx hn
    have hmr : r ∈ reps c n := mem_reps.2 ⟨by omega, hrr⟩
    have hmx : x ∈ mems c n r := mem_mems.2 ⟨hx, hr⟩
    have hf : r ∈ repsF c n ph := List.mem_filter.2 ⟨hmr, List.any_eq_true.2 ⟨x, hmx, by rw [hp]; rfl⟩⟩
    obtain ⟨j, hj'⟩ := List.getElem?_of_mem hf
    exact ⟨j, mems c n r, by rw [List.getElem?_map, hj']; rfl, hmx⟩
  · obtain ⟨r, _, hr, e⟩ := hat j u h
    have := hj x a hx ha hs hsa hm
    rw [e, mem_mems, mem_mems, this]
    simp [hx, ha]
end Go.Proofs.Ytlkpbpecgdphaaa
namespace Go.Proofs.Ytlkpbpecgdphaaa
open Go.RowKit

abbrev tI : TypeId := 3
def icells (c : List Int) : Array Value := (c.map fun x => Value.int .i64 x).toArray
theorem icells_at (c : List Int) (i : Nat) (h : i < c.length) : (icells c)[i]? = some (.int .i64 (clV c i)) := by
  rw [clV_lt h]; simp [icells, h]
theorem icells_set (c : List Int) (i : Nat) (x : Int) : (icells c).setIfInBounds i (.int .i64 x) = icells (c.set i x) := by
  simp [icells, List.map_set]
/-- The first k of the classes are united. -/
def mixR (c : List Int) (a b : Int) (k : Nat) : List Int := uniteR (c.take k) a b ++ c.drop k
theorem mixR_zero (c : List Int) (a b : Int) : mixR c a b 0 = c := by simp [mixR, uniteR]
theorem mixR_end (c : List Int) (a b : Int) : mixR c a b c.length = uniteR c a b := by simp [mixR]
theorem mixR_len (c : List Int) (a b : Int) (k : Nat) : (mixR c a b k).length = c.length := by simp [mixR, uniteR]; omega
theorem mixR_at (c : List Int) (a b : Int) (k : Nat) (h : k < c.length) : clV (mixR c a b k) k = clV c k := by
  simp only [clV, mixR, List.getD_eq_getElem?_getD]
  rw [List.getElem?_append_right (by simp [uniteR]; omega)]
  simp [uniteR, Nat.min_eq_left (Nat.le_of_lt h)]
theorem mixR_succ (c : List Int) (a b : Int) (k : Nat) (h : k < c.length) : mixR c a b (k + 1) = if clV c k = a ∨ clV c k = b then (mixR c a b k).set k (min a b) else mixR c a b k := by
  have e1 : c.take (k + 1) = c.take k ++ [c[k]] := by rw [List.take_add_one]; simp [h]
  have e2 : c.drop k = c[k] :: c.drop (k + 1) := List.drop_eq_getElem_cons h
  have e3 : (uniteR (c.take k) a b).length = k := by simp [uniteR]; omega
  have e4 : uniteR (c.take k ++ [c[k]]) a b = uniteR (c.take k) a b ++ [if c[k] = a ∨ c[k] = b then min a b else c[k]] := by simp only [uniteR, List.map_append, List.map_cons, List.map_nil]
  rw [clV_lt h]
  simp only [mixR]
  rw [e1, e2, e4]
  split
  · rw [List.set_append_right _ _ (by omega), e3, Nat.sub_self, List.append_assoc]; rfl
  · simp
theorem min_if (x y : Int) : min x y = if y < x then y else x := by
  split <;> omega
def UwRel (w : World) (g : Nat) (c : List Int) (a b : Int) (v : Value) (wr : World) : Prop :=
  ∃ k : Nat, k ≤ c.length ∧ v = .int .i64 k ∧ Upd w wr (One g) ∧ Blk wr g tI (icells (mixR c a b k))
set_option maxHeartbeats 2000000 in
set_option maxRecDepth 100000 in
theorem unite_any (w : World) (g cap : Nat) (c : List Int) (a b : Int) (n : Nat) (hl : c.length = n) (hn : n ≤ 100000) (hB : Blk w g tI (icells c)) :
    Calls Try.prog 52 #[.slice (some ⟨g, 0, none⟩) n cap, .int .i64 a, .int .i64 b] w fun e w' => e = .returned (.tuple #[]) ∧ Upd w w' (One g) ∧ Blk w' g tI (icells (uniteR c a b)) := by
  have HB := Lib.hid hB
  have HL := Lib.hid hl
  clear hB hl
  go_enter Try.func52, Try.ntmps52
  go_wp2
  go_loopw [9] (fun i wr => UwRel w g c a b i wr) (fun i _ => n - (intOf i).toNat)
  case atStart => exact ⟨0, Nat.zero_le _, by go_num, Upd.refl _ _, by rw [mixR_zero]; exact HB.out⟩
  case round =>
    obtain ⟨k, hk, rfl, hu, hb⟩ := hrel
    have HU := Lib.hid hu
    have HC := Lib.hid hb
    have HK := Lib.hid hk
    clear hu hb hk
    by_cases hlt : k < n
    · have hkc : k < c.length := by rw [HL.out]; exact hlt
      have ck : wr.cell? ⟨g, k, none⟩ = some (.int .i64 (clV c k)) := by
        rw [HC.out.cell, icells_at _ _ (by rw [mixR_len]; exact hkc), mixR_at c a b k hkc]
      have zk : wr.frozen? ⟨g, k, none⟩ = false := HC.out.free k
      have HS := Lib.hid (mixR_succ c a b k hkc)
      generalize clV c k = x at ck HS
      clear hkc
      by_cases hx : x = a ∨ x = b
      · rw [if_pos hx] at HS
        have hx' : x = a ∨ ¬ x = a ∧ x = b := by by_cases e : x = a; exact .inl e; exact .inr ⟨e, hx.resolve_left e⟩
        clear hx
        rcases hx' with rfl | ⟨hne, rfl⟩
        · go_wp2
          go_roundw
          case rel => exact ⟨k + 1, by have := HL.out; omega, by go_num, HU.out.setOne _ _, by rw [HS.out, ← icells_set]; first | exact HC.out.set _ _ | (rw [min_if]; exact HC.out.set _ _)⟩
          case measure => simp [intOf]; omega
        · have hb : (x == a) = false := by simpa using hne
          go_wp2
          go_roundw
          case rel => exact ⟨k + 1, by have := HL.out; omega, by go_num, HU.out.setOne _ _, by rw [HS.out, ← icells_set]; first | exact HC.out.set _ _ | (rw [min_if]; exact HC.out.set _ _)⟩
          case measure => simp [intOf]; omega
      · rw [if_neg hx] at HS
        have h1 : ¬ x = a := fun e => hx (.inl e)
        have h2 : ¬ x = b := fun e => hx (.inr e)
        have b1 : (x == a) = false := by simpa using h1
        have b2 : (x == b) = false := by simpa using h2
        clear hx h1 h2
        go_wp2
        go_roundw
        case rel => exact ⟨k + 1, by have := HL.out; omega, by go_num, HU.out, by rw [HS.out]; exact HC.out⟩
        case measure => simp [intOf]; omega
    · obtain rfl : k = n := by have := HK.out; have := HL.out; omega
      go_wp2
      go_end0
      exact ⟨rfl, HU.out, by have := HC.out; rw [← HL.out, mixR_end] at this; exact this⟩
end Go.Proofs.Ytlkpbpecgdphaaa
