/-
  WORDS: the units read; which unit each group is in.
-/
import Derived.Test.YtlkpbpecgdphaaaGreatDoorUb
import Derived.Test.YtlkpbpecgdphaaaGreatDoorExpText
import Derived.Maps.OwnSet
namespace Go.Proofs.YtlkpbpecgdphaaaGreatDoor
open Go.RowKit

abbrev tII : TypeId := 49
theorem intKeyed : Maps.Keyed Tryz.prog tI := Maps.int_keyed Tryz.underlying3
theorem wfN {n : Nat} (h : n ≤ 1000000) : (Lit.int .i64 (n : Int)).wf = true := by
  simp [Lit.wf, IntKind.min, IntKind.max, IntKind.signed, IntKind.bits]
  omega
theorem keyN {n : Nat} (h : n ≤ 1000000) : keyOf Tryz.prog tI (.int .i64 (n : Int)) = some (.int .i64 (n : Int)) := Maps.keyOf_int_mk Tryz.underlying3 (wfN h)
theorem zeroN (w : World) : (zeroValue tI).run Tryz.prog w = .ok (.int .i64 0) w := by kernel_rfl
/-- The map at block bm has of each first index below k its place. -/
def WhOk (w : World) (bm n : Nat) (c : List Int) (k : Nat) : Prop := ∃ D : DataW Unit, w.ownsMap Tryz.prog tI (plainElem Tryz.prog tI) bm n D ∧ ∀ r : Nat, r < k → clV c r = (r : Int) → D.atKey (.int .i64 (r : Int)) (.lit (.int .i64 0)) = .lit (.int .i64 (((reps c r).length : Nat) : Int))
section
variable {w w' : World} {bm n k : Nat} {c : List Int}
theorem WhOk.made (w : World) (c : List Int) : WhOk (w.alloc (.map #[] 0)) w.heap.size 0 c 0 := ⟨.map [], World.ownsMap_made _ _ _ _, fun r h => absurd h (by omega)⟩
theorem WhOk.kept {row : Option Nat} (h : WhOk w bm n c k) (hg : w.grownBy w' row) (hne : some bm ≠ row) : WhOk w' bm n c k := by
  obtain ⟨D, ho, hh⟩ := h
  exact ⟨D, ho.kept hg hne, hh⟩
theorem WhOk.below (h : WhOk w bm n c k) (hb : Below w.heap.size w w') : WhOk w' bm n c k := h.kept (grown_of_below hb) (by simp)
theorem WhOk.lt (h : WhOk w bm n c k) : bm < w.heap.size := by obtain ⟨D, ho, _⟩ := h; exact ho.lt
theorem WhOk.block (h : WhOk w bm n c k) : ∃ es c, w.heap[bm]? = some (.map es c) := by
  obtain ⟨D, ⟨es, c, hb, _⟩, _⟩ := h
  exact ⟨es, c, hb⟩
theorem WhOk.skip (h : WhOk w bm n c k) (hk : clV c k ≠ (k : Int)) : WhOk w bm n c (k + 1) := by
  obtain ⟨D, ho, hh⟩ := h
  refine ⟨D, ho, fun r hr hc => hh r ?_ hc⟩
  rcases Nat.lt_or_ge r k with g | g
  · exact g
  · obtain rfl : r = k := by omega
    exact absurd hc hk
theorem WhOk.look (h : WhOk w bm n c k) (r : Nat) (hr : r < k) (hc : clV c r = (r : Int)) (h6 : r ≤ 1000000) : (Instr.lookup 102 (.map (some bm)) (.int .i64 (r : Int)) false).run Tryz.prog w = .ok (.int .i64 (((reps c r).length : Nat) : Int)) w := by
  obtain ⟨D, ho, hh⟩ := h
  obtain ⟨v, ps, hrun, hv⟩ := ho.lookup intKeyed Tryz.underlying102 (zeroN w) (plainElem_int Tryz.underlying3 (by decide)) (keyN h6)
  obtain ⟨x, rfl, e, _⟩ := plainElem_int_inv Tryz.underlying3 hv
  rw [hh r hr hc] at e
  simp only [Prod.mk.injEq, DataW.lit.injEq, Lit.int.injEq, true_and] at e
  rw [hrun, e.1]
set_option maxRecDepth 100000 in
theorem WhOk.store (h : WhOk w bm n c k) (h6 : k ≤ 1000000) (hn : n ≤ 1000000) :
    ∃ w', (Instr.mapUpdate 102 (.map (some bm)) (.int .i64 (k : Int)) (.int .i64 (((reps c k).length : Nat) : Int))).run Tryz.prog w = .ok () w' ∧ WhOk w' bm (n + 1) c (k + 1) ∧ w.grownBy w' (some bm) := by
  have hl : (reps c k).length ≤ 1000000 := Nat.le_trans (List.length_filter_le _ _) (by simpa using h6)
  obtain ⟨D, ho, hh⟩ := h
  obtain ⟨w', hrun, ho', hg⟩ := ho.store intKeyed Tryz.underlying102 (by unfold maxLen; omega) (keyN h6) (plainElem_int Tryz.underlying3 (wfN hl))
  refine ⟨w', hrun, ⟨_, ho', fun r hr hc => ?_⟩, hg.grown⟩
  by_cases e : r = k
  · subst e
    rw [Maps.atKey_put_same ho.isMap (intKeyed.key (keyN h6))]
  · have hne : Lit.int .i64 (r : Int) ≠ Lit.int .i64 (k : Int) := fun h => e (by injection h with _ h; omega)
    rw [Maps.atKey_put_other hne, hh r (by omega) hc]
end

/-- A list of units in memory: a row of slices, each a row of the call's own (made since base B), no two in one block. -/
structure UnOwn (w : World) (B : Nat) (v : Value) (U : List (List Nat)) (V : List Value) : Prop where
  row : w.ownsRow B tII 1 v U.length V
  len : V.length = U.length
  each : ∀ (i : Nat) (x : Value) (u : List Nat), V[i]? = some x → U[i]? = some u → w.ownsRow B tI 1 x u.length (ints u)
  apart : ∀ (i j g : Nat) (x y : Value), V[i]? = some x → V[j]? = some y → x.ownBlock = some g → y.ownBlock = some g → i = j
theorem ints_snoc (u : List Nat) (i : Nat) : ints (u ++ [i]) = ints u ++ [.int .i64 (i : Int)] := by simp [ints]
theorem rdx_int (w : World) (i : Nat) : RdX (w.alloc (.cells #[.int .i64 (i : Int)] tI)) 1 (some ⟨w.heap.size, 0, none⟩) 1 [.int .i64 (i : Int)] := RdX.new w 1 #[.int .i64 (i : Int)] tI rfl (by intro u hu; simp at hu; subst hu; rfl)
section
variable {w w' w2 : World} {B : Nat} {v v' : Value} {U : List (List Nat)} {V : List Value}
theorem UnOwn.empty (w : World) (B : Nat) : UnOwn w B (.slice none 0 0) [] [] := ⟨World.ownsRow_nil _ _ _ _, rfl, fun i x u h => by simp at h, fun i j g x y h => by simp at h⟩
theorem UnOwn.kept (h : UnOwn w B v U V) (hk : ∀ k, B ≤ k → k < w.heap.size → (∃ cs t, w.heap[k]? = some (.cells cs t (0, 0))) → w'.heap[k]? = w.heap[k]?) : UnOwn w' B v U V := by
  have one : ∀ {t : TypeId} {x : Value} {n : Nat} {xs : List Value}, w.ownsRow B t 1 x n xs → w'.ownsRow B t 1 x n xs := fun {t x n xs} ho => ownsRow_kept ho (fun g hg => by
    refine hk g (ho.lt g hg).1 (ho.lt g hg).2 ?_
    rcases ho.2 with ⟨rfl, _⟩ | ⟨g', cap, cur, rfl, _, hh, _⟩
    · cases hg
    · obtain rfl : g' = g := by injection hg
      exact ⟨_, _, hh⟩)
  exact ⟨one h.row, h.len, fun i x u hx hu => one (h.each i x u hx hu), h.apart⟩
theorem UnOwn.below (h : UnOwn w B v U V) (hb : Below w.heap.size w w') : UnOwn w' B v U V := h.kept (fun k _ hk _ => hb.block k hk)
theorem UnOwn.mapped {bm : Nat} (h : UnOwn w B v U V) (hm : ∃ es c, w.heap[bm]? = some (.map es c)) (hg : w.grownBy w' (some bm)) : UnOwn w' B v U V := h.kept (fun k _ hk hc => hg.block k hk (fun e => by
  injection e with e
  subst e
  obtain ⟨es, c, hm⟩ := hm
  obtain ⟨cs, t, hc⟩ := hc
  rw [hm] at hc; cases hc))
/-- A unit with nothing in it, behind the others. -/
theorem UnOwn.new (h : UnOwn w B v U V) (ho : w'.ownsRow B tII 1 v' (U.length + 1) (V ++ [.slice none 0 0])) (hg : w.grownBy w' v.ownBlock) : UnOwn w' B v' (U ++ [[]]) (V ++ [.slice none 0 0]) := by
  refine ⟨by simpa using ho, by simp [h.len], fun i x u hx hu => ?_, fun i j g x y hx hy gx gy => ?_⟩
  · rcases Nat.lt_or_ge i V.length with g | g
    · rw [List.getElem?_append_left g] at hx
      rw [List.getElem?_append_left (by rw [← h.len]; exact g)] at hu
      have hr := h.each i x u hx hu
      exact hr.kept hg (by
        rcases hx' : x.ownBlock with _ | k
        · exact .inl rfl
        · refine .inr fun e => rows_apart hr h.row (by decide) k hx' ?_
          rw [← e])
    · rw [List.getElem?_append_right g] at hx
      rw [List.getElem?_append_right (by rw [← h.len]; exact g)] at hu
      rw [h.len] at hx
      match hi : i - U.length with
      | 0 =>
        rw [hi] at hx hu
        simp at hx hu
        subst hx hu
        exact World.ownsRow_nil _ _ _ _
      | n + 1 => rw [hi] at hx; simp at hx
  · have lt : ∀ {i : Nat} {x : Value}, (V ++ [.slice none 0 0])[i]? = some x → x.ownBlock = some g → V[i]? = some x := fun {i x} hx gx => by
      rcases Nat.lt_or_ge i V.length with q | q
      · rwa [List.getElem?_append_left q] at hx
      · rw [List.getElem?_append_right q] at hx
        match hi : i - V.length with
        | 0 => rw [hi] at hx; simp at hx; subst hx; cases gx
        | n + 1 => rw [hi] at hx; simp at hx
    exact h.apart i j g x y (lt hx gx) (lt hy gy) gx gy
set_option maxHeartbeats 1000000 in
/-- A unit has one more. -/
theorem UnOwn.more {a i : Nat} {x x' : Value} {u : List Nat} (h : UnOwn w B v U V) (hx : V[a]? = some x) (hu : U[a]? = some u) (_hs : w.heap.size < w'.heap.size → True) (ho : w'.ownsRow B tI 1 x' (u.length + 1) (ints u ++ [.int .i64 (i : Int)])) (hg : w.grownBy w' x.ownBlock)
    (hn : x'.ownBlock = x.ownBlock ∨ ∃ k, w.heap.size ≤ k ∧ x'.ownBlock = some k) {gv cv : Nat} (hv : v = .slice (some ⟨gv, 0, none⟩) U.length cv) : UnOwn (w'.setCell ⟨gv, a, none⟩ x') B v (U.set a (u ++ [i])) (V.set a x') := by
  have hrow : w'.ownsRow B tII 1 v U.length V := h.row.kept hg (by
    rcases hv' : v.ownBlock with _ | k
    · exact .inl rfl
    · refine .inr fun e => rows_apart h.row (h.each a x u hx hu) (by decide) k hv' ?_
      rw [← e])
  have hgv : v.ownBlock = some gv := by rw [hv]; rfl
  have keep : ∀ {n : Nat} {y : Value} {xs : List Value}, w'.ownsRow B tI 1 y n xs → (w'.setCell ⟨gv, a, none⟩ x').ownsRow B tI 1 y n xs := fun {n y xs} hy => own_set hy (fun e => rows_apart hy hrow (by decide) gv e hgv)
  refine ⟨?_, by simp [h.len], fun j y t hy ht => ?_, fun j k g y z hy hz gy gz => ?_⟩
  · rw [hv] at hrow ⊢
    simpa using (hrow.stored a x').1
  · by_cases e : a = j
    · subst e
      rw [List.getElem?_set_self (List.getElem?_eq_some_iff.1 hx).1] at hy
      rw [List.getElem?_set_self (List.getElem?_eq_some_iff.1 hu).1] at ht
      injection hy with hy; injection ht with ht
      subst hy ht
      refine keep ?_
      rw [ints_snoc]; simpa using ho
    · rw [List.getElem?_set_ne e] at hy ht
      have hr := h.each j y t hy ht
      exact keep (hr.kept hg (by
        rcases hy' : y.ownBlock with _ | k
        · exact .inl rfl
        · exact .inr fun e' => e (h.apart a j k x y hx hy e'.symm hy')))
  · have new : ∀ {j k g : Nat} {z : Value}, a ≠ k → x'.ownBlock = some g → V[k]? = some z → z.ownBlock = some g → False := fun {j k g z} hne gx hz gz => by
      rcases hn with hn | ⟨q, hq, hn⟩
      · exact hne (h.apart a k g x z hx hz (hn ▸ gx) gz)
      · rw [hn] at gx; injection gx with gx; subst gx
        obtain ⟨t, ht⟩ : ∃ t, U[k]? = some t := ⟨_, List.getElem?_eq_getElem (by rw [← h.len]; exact (List.getElem?_eq_some_iff.1 hz).1)⟩
        have := ((h.each k z t hz ht).lt q gz).2
        omega
    by_cases e1 : a = j <;> by_cases e2 : a = k
    · omega
    · subst e1
      rw [List.getElem?_set_self (List.getElem?_eq_some_iff.1 hx).1] at hy
      rw [List.getElem?_set_ne e2] at hz
      injection hy with hy; subst hy
      exact (new (j := a) e2 gy hz gz).elim
    · subst e2
      rw [List.getElem?_set_self (List.getElem?_eq_some_iff.1 hx).1] at hz
      rw [List.getElem?_set_ne e1] at hy
      injection hz with hz; subst hz
      exact (new (j := a) e1 gz hy gy).elim
    · rw [List.getElem?_set_ne e1] at hy
      rw [List.getElem?_set_ne e2] at hz
      exact h.apart j k g y z hy hz gy gz
end
end Go.Proofs.YtlkpbpecgdphaaaGreatDoor
namespace Go.Proofs.YtlkpbpecgdphaaaGreatDoor
open Go.RowKit

theorem UnOwn.at_ {w : World} {B n c : Nat} {A : Option Addr} {U : List (List Nat)} {V : List Value} (h : UnOwn w B (.slice A n c) U V) {i : Nat} {u : List Nat} (hu : U[i]? = some u) : ∃ gv x, A = some ⟨gv, 0, none⟩ ∧ B ≤ gv ∧ gv < w.heap.size ∧ V[i]? = some x ∧ w.cell? ⟨gv, i, none⟩ = some x ∧ w.ownsRow B tI 1 x u.length (ints u) := by
  have hi : i < U.length := (List.getElem?_eq_some_iff.1 hu).1
  obtain ⟨gv, cv, e, hb, hlt⟩ := h.row.form (by omega)
  injection e with e1 e2 e3
  subst e1 e2 e3
  obtain ⟨x, hx⟩ : ∃ x, V[i]? = some x := ⟨_, List.getElem?_eq_getElem (by rw [h.len]; exact hi)⟩
  exact ⟨gv, x, rfl, hb, hlt, hx, by rw [h.row.cellAt i (by omega)]; exact hx, h.each i x u hx hu⟩
theorem ints_own {w : World} {B : Nat} {x : Value} {u : List Nat} (h : w.ownsRow B tI 1 x u.length (ints u)) {k i : Nat} (hk : u[k]? = some i) : ∃ g c, x = .slice (some ⟨g, 0, none⟩) u.length c ∧ B ≤ g ∧ g < w.heap.size ∧ w.cell? ⟨g, k, none⟩ = some (.int .i64 (i : Int)) := by
  have hl : k < u.length := (List.getElem?_eq_some_iff.1 hk).1
  obtain ⟨g, c, rfl, hb, hlt⟩ := h.form (by omega)
  exact ⟨g, c, rfl, hb, hlt, by rw [h.cellAt k (by omega)]; simp [ints, hk]⟩
theorem UnOwn.cell_ {w : World} {B n c gv gi ci : Nat} {U : List (List Nat)} {V : List Value} (h : UnOwn w B (.slice (some ⟨gv, 0, none⟩) n c) U V) {i : Nat} {u : List Nat} (hu : U[i]? = some u) (hV : V[i]? = some (.slice (some ⟨gi, 0, none⟩) u.length ci)) : w.cell? ⟨gv, i, none⟩ = some (.slice (some ⟨gi, 0, none⟩) u.length ci) ∧ ∀ (k x : Nat), u[k]? = some x → w.cell? ⟨gi, k, none⟩ = some (.int .i64 (x : Int)) := by
  obtain ⟨gv', x, e, _, _, hx, hc, ho⟩ := h.at_ hu
  injection e with e
  injection e with e _
  subst e
  rw [hV] at hx
  injection hx with hx
  subst hx
  refine ⟨hc, fun k y hk => ?_⟩
  obtain ⟨g, c2, e, _, _, h2⟩ := ints_own ho hk
  injection e with e
  injection e with e
  injection e with e
  subst e
  exact h2
/-- The unit (from 1) that a group is in, or 0. -/
def inV (L : List (List Nat)) (x : Nat) : Int := match L.findIdx? (fun u => u.contains x) with
  | some j => (j : Int) + 1
  | none => 0
def inL (L : List (List Nat)) (n : Nat) : List Int := (List.range n).map (inV L)
theorem inL_len (L : List (List Nat)) (n : Nat) : (inL L n).length = n := by simp [inL]
theorem inL_v {L : List (List Nat)} {n x : Nat} (h : x < n) : clV (inL L n) x = inV L x := by rw [clV_lt (by rw [inL_len]; exact h)]; simp [inL]
theorem inV_none {L : List (List Nat)} {x : Nat} (h : ∀ u ∈ L, x ∉ u) : inV L x = 0 := by
  have : L.findIdx? (fun u => u.contains x) = none := List.findIdx?_eq_none_iff.2 fun u hu => by simpa using h u hu
  unfold inV; rw [this]
theorem inV_pos {L : List (List Nat)} {x : Nat} (h : ∃ u ∈ L, x ∈ u) : 0 < inV L x := by
  unfold inV
  cases hf : L.findIdx? (fun u => u.contains x) with
  | none =>
    obtain ⟨u, hu, hx⟩ := h
    have := List.findIdx?_eq_none_iff.1 hf u hu
    simp [hx] at this
  | some j => show (0 : Int) < (j : Int) + 1; omega
theorem inV_congr {L : List (List Nat)} {x y : Nat} (h : ∀ u ∈ L, (x ∈ u ↔ y ∈ u)) : inV L x = inV L y := by
  have hc : ∀ (L : List (List Nat)), (∀ u ∈ L, (x ∈ u ↔ y ∈ u)) → L.findIdx? (fun u => u.contains x) = L.findIdx? (fun u => u.contains y) := fun L => by
    induction L with
    | nil => intro _; rfl
    | cons u t ih =>
      intro h
      have e : u.contains x = u.contains y := by rw [Bool.eq_iff_iff]; simpa using h u (List.mem_cons_self ..)
      rw [List.findIdx?_cons, List.findIdx?_cons, e, ih fun u hu => h u (List.mem_cons_of_mem _ hu)]
  unfold inV
  rw [hc L h]
/-- One more of a unit is in it. -/
theorem inL_more {L : List (List Nat)} {u : List Nat} {n x : Nat} (hx : x < n) (h1 : ∀ v ∈ L, x ∉ v) : inL (L ++ [u ++ [x]]) n = (inL (L ++ [u]) n).set x ((L.length : Int) + 1) ∨ x ∈ u := by
  by_cases hu : x ∈ u
  · exact .inr hu
  refine .inl (List.ext_getElem? fun j => ?_)
  rcases Nat.lt_or_ge j n with hj | hj
  · have e1 : (inL (L ++ [u ++ [x]]) n)[j]? = some (inV (L ++ [u ++ [x]]) j) := by simp [inL, hj]
    rw [e1]
    by_cases e : x = j
    · subst e
      rw [List.getElem?_set_self (by rw [inL_len]; exact hx)]
      have hf : (L ++ [u ++ [x]]).findIdx? (fun v => v.contains x) = some L.length := by
        rw [List.findIdx?_append, List.findIdx?_eq_none_iff.2 fun v hv => by simpa using h1 v hv]
        simp [List.findIdx?_cons]
      unfold inV; rw [hf]
    · rw [List.getElem?_set_ne e]
      have e2 : (inL (L ++ [u]) n)[j]? = some (inV (L ++ [u]) j) := by simp [inL, hj]
      rw [e2]
      have hc : (L ++ [u ++ [x]]).findIdx? (fun v => v.contains j) = (L ++ [u]).findIdx? (fun v => v.contains j) := by
        rw [List.findIdx?_append, List.findIdx?_append, List.findIdx?_cons, List.findIdx?_cons]
        have : (u ++ [x]).contains j = u.contains j := by rw [Bool.eq_iff_iff]; simp; intro e'; exact absurd e'.symm e
        rw [this]
      unfold inV; rw [hc]
  · rw [List.getElem?_eq_none (by rw [inL_len]; exact hj), List.getElem?_eq_none (by rw [List.length_set, inL_len]; exact hj)]
theorem inL_full {U : List (List Nat)} {i : Nat} {u : List Nat} (h : U[i]? = some u) : U.take i ++ [u] = U.take (i + 1) := by rw [List.take_add_one, h]; rfl
theorem inL_nil (L : List (List Nat)) (n : Nat) : inL (L ++ [[]]) n = inL L n := by
  refine List.map_congr_left fun x _ => ?_
  have : (L ++ [([] : List Nat)]).findIdx? (fun v => v.contains x) = L.findIdx? (fun v => v.contains x) := by
    rw [List.findIdx?_append, List.findIdx?_cons]
    cases L.findIdx? (fun v => v.contains x) <;> rfl
  unfold inV; rw [this]
theorem inL_zero (n : Nat) : inL [] n = List.replicate n 0 := by
  refine List.ext_getElem? fun j => ?_
  simp only [inL, List.getElem?_map, List.getElem?_replicate]
  split
  · rename_i h; simp [h, inV]
  · rename_i h; simp [List.getElem?_eq_none (show (List.range n).length ≤ j by simp; omega)]
end Go.Proofs.YtlkpbpecgdphaaaGreatDoor
