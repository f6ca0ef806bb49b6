/-
  WALKS: slices.IndexFunc and DeleteFunc over the units, by a function of which a contract is given.
-/
import Derived.Test.YtlkpbpecgdphaaaUa
import Derived.Test.YtlkpbpecgdphaaaExpText
import Derived.Maps.OwnSet
import Derived.Lib.SliceRun
namespace Go.Proofs.Ytlkpbpecgdphaaa
open Go.RowKit

abbrev unF (X : Nat) : Value := .func (.func 34) #[] #[ptr X]
set_option maxRecDepth 100000 in
set_option maxHeartbeats 1000000 in
theorem units1_any (X : Nat) (A Au : Option Addr) (n c m cu : Nat) (out : List Gp) (R : List Row4) (u : List Nat) (w : World) (h : GpRd w A n c out R) (hn : n ≤ 1000000) (hu : RdX w 1 Au m (ints u)) (hm : m ≤ 1000000) (hin : ∀ i ∈ u, i < n) (hx : w.cell? ⟨X, 0, none⟩ = some (.slice A n c)) :
    Calls Try.prog 34 #[.slice Au m cu, ptr X] w fun e w' => e = .returned (.bool (!someB (phV out) u)) ∧ Below w.heap.size w w' := by
  have HC := Lib.hid (allPhony_any A Au n c m cu out R u w h hn hu hm hin)
  generalize someB (phV out) u = bb at *
  clear h hu hin
  go_enter Try.func34, Try.ntmps34
  go_wp2_with fail
  refine HC.out.mono ?_
  rintro e w1 ⟨rfl, hb1⟩
  have HB1 := Lib.hid hb1
  clear hb1
  go_wp2
  go_ret
  exact ⟨rfl, HB1.out⟩
end Go.Proofs.Ytlkpbpecgdphaaa
namespace Go.Proofs.Ytlkpbpecgdphaaa
open Go.RowKit

abbrev tII : TypeId := 55
theorem intKeyed : Maps.Keyed Try.prog tI := Maps.int_keyed Try.underlying3
theorem wfN {n : Nat} (h : n ≤ 1000000) : (Lit.int .i64 (n : Int)).wf = true := by
  simp [Lit.wf, IntKind.min, IntKind.max, IntKind.signed, IntKind.bits]
  omega
theorem keyN {n : Nat} (h : n ≤ 1000000) : keyOf Try.prog tI (.int .i64 (n : Int)) = some (.int .i64 (n : Int)) := Maps.keyOf_int_mk Try.underlying3 (wfN h)
theorem zeroN (w : World) : (zeroValue tI).run Try.prog w = .ok (.int .i64 0) w := by kernel_rfl
/-- The map at block bm has of each first index below k its place. -/
def WhOk (w : World) (bm n : Nat) (c : List Int) (k : Nat) : Prop := ∃ D : DataW Unit, w.ownsMap Try.prog tI (plainElem Try.prog tI) bm n D ∧ ∀ r : Nat, r < k → clV c r = (r : Int) → D.atKey (.int .i64 (r : Int)) (.lit (.int .i64 0)) = .lit (.int .i64 (((reps c r).length : Nat) : Int))
section
variable {w w' : World} {bm n k : Nat} {c : List Int}
theorem WhOk.made (w : World) (c : List Int) : WhOk (w.alloc (.map #[] 0)) w.heap.size 0 c 0 := ⟨.map [], World.ownsMap_made _ _ _ _, fun r h => absurd h (by omega)⟩
theorem WhOk.kept {row : Option Nat} (h : WhOk w bm n c k) (hg : w.grownBy w' row) (hne : some bm ≠ row) : WhOk w' bm n c k := by
  obtain ⟨D, ho, hh⟩ := h
  exact ⟨D, ho.kept hg hne, hh⟩
theorem WhOk.below (h : WhOk w bm n c k) (hb : Below w.heap.size w w') : WhOk w' bm n c k := h.kept (grown_of_below hb) (by simp)
theorem WhOk.lt (h : WhOk w bm n c k) : bm < w.heap.size := by obtain ⟨D, ho, _⟩ := h; exact ho.lt
theorem WhOk.block (h : WhOk w bm n c k) : ∃ es c, w.heap[bm]? = some (.map es c) := by
  obtain ⟨D, ⟨es, c, hb, _⟩, _⟩ := h
  exact ⟨es, c, hb⟩
theorem WhOk.skip (h : WhOk w bm n c k) (hk : clV c k ≠ (k : Int)) : WhOk w bm n c (k + 1) := by
  obtain ⟨D, ho, hh⟩ := h
  refine ⟨D, ho, fun r hr hc => hh r ?_ hc⟩
  rcases Nat.lt_or_ge r k with g | g
  · exact g
  · obtain rfl : r = k := by omega
    exact absurd hc hk
theorem WhOk.look (h : WhOk w bm n c k) (r : Nat) (hr : r < k) (hc : clV c r = (r : Int)) (h6 : r ≤ 1000000) : (Instr.lookup 73 (.map (some bm)) (.int .i64 (r : Int)) false).run Try.prog w = .ok (.int .i64 (((reps c r).length : Nat) : Int)) w := by
  obtain ⟨D, ho, hh⟩ := h
  obtain ⟨v, ps, hrun, hv⟩ := ho.lookup intKeyed Try.underlying73 (zeroN w) (plainElem_int Try.underlying3 (by decide)) (keyN h6)
  obtain ⟨x, rfl, e, _⟩ := plainElem_int_inv Try.underlying3 hv
  rw [hh r hr hc] at e
  simp only [Prod.mk.injEq, DataW.lit.injEq, Lit.int.injEq, true_and] at e
  rw [hrun, e.1]
set_option maxRecDepth 100000 in
theorem WhOk.store (h : WhOk w bm n c k) (h6 : k ≤ 1000000) (hn : n ≤ 1000000) :
    ∃ w', (Instr.mapUpdate 73 (.map (some bm)) (.int .i64 (k : Int)) (.int .i64 (((reps c k).length : Nat) : Int))).run Try.prog w = .ok () w' ∧ WhOk w' bm (n + 1) c (k + 1) ∧ w.grownBy w' (some bm) := by
  have hl : (reps c k).length ≤ 1000000 := Nat.le_trans (List.length_filter_le _ _) (by simpa using h6)
  obtain ⟨D, ho, hh⟩ := h
  obtain ⟨w', hrun, ho', hg⟩ := ho.store intKeyed Try.underlying73 (by unfold maxLen; omega) (keyN h6) (plainElem_int Try.underlying3 (wfN hl))
  refine ⟨w', hrun, ⟨_, ho', fun r hr hc => ?_⟩, hg.grown⟩
  by_cases e : r = k
  · subst e
    rw [Maps.atKey_put_same ho.isMap (intKeyed.key (keyN h6))]
  · have hne : Lit.int .i64 (r : Int) ≠ Lit.int .i64 (k : Int) := fun h => e (by injection h with _ h; omega)
    rw [Maps.atKey_put_other hne, hh r (by omega) hc]
end

/-- A list of units in memory: a row of slices, each a row of the call's own (made since base B), no two in one block. -/
structure UnOwn (w : World) (B : Nat) (v : Value) (U : List (List Nat)) (V : List Value) : Prop where
  row : w.ownsRow B tII 1 v U.length V
  len : V.length = U.length
  each : ∀ (i : Nat) (x : Value) (u : List Nat), V[i]? = some x → U[i]? = some u → w.ownsRow B tI 1 x u.length (ints u)
  apart : ∀ (i j g : Nat) (x y : Value), V[i]? = some x → V[j]? = some y → x.ownBlock = some g → y.ownBlock = some g → i = j
theorem ints_snoc (u : List Nat) (i : Nat) : ints (u ++ [i]) = ints u ++ [.int .i64 (i : Int)] := by simp [ints]
theorem rdx_int (w : World) (i : Nat) : RdX (w.alloc (.cells #[.int .i64 (i : Int)] tI)) 1 (some ⟨w.heap.size, 0, none⟩) 1 [.int .i64 (i : Int)] := RdX.new w 1 #[.int .i64 (i : Int)] tI rfl (by intro u hu; simp at hu; subst hu; rfl)
section
variable {w w' w2 : World} {B : Nat} {v v' : Value} {U : List (List Nat)} {V : List Value}
theorem UnOwn.empty (w : World) (B : Nat) : UnOwn w B (.slice none 0 0) [] [] := ⟨World.ownsRow_nil _ _ _ _, rfl, fun i x u h => by simp at h, fun i j g x y h => by simp at h⟩
theorem UnOwn.kept (h : UnOwn w B v U V) (hk : ∀ k, B ≤ k → k < w.heap.size → (∃ cs t, w.heap[k]? = some (.cells cs t (0, 0))) → w'.heap[k]? = w.heap[k]?) : UnOwn w' B v U V := by
  have one : ∀ {t : TypeId} {x : Value} {n : Nat} {xs : List Value}, w.ownsRow B t 1 x n xs → w'.ownsRow B t 1 x n xs := fun {t x n xs} ho => ownsRow_kept ho (fun g hg => by
    refine hk g (ho.lt g hg).1 (ho.lt g hg).2 ?_
    rcases ho.2 with ⟨rfl, _⟩ | ⟨g', cap, cur, rfl, _, hh, _⟩
    · cases hg
    · obtain rfl : g' = g := by injection hg
      exact ⟨_, _, hh⟩)
  exact ⟨one h.row, h.len, fun i x u hx hu => one (h.each i x u hx hu), h.apart⟩
theorem UnOwn.below (h : UnOwn w B v U V) (hb : Below w.heap.size w w') : UnOwn w' B v U V := h.kept (fun k _ hk _ => hb.block k hk)
theorem UnOwn.mapped {bm : Nat} (h : UnOwn w B v U V) (hm : ∃ es c, w.heap[bm]? = some (.map es c)) (hg : w.grownBy w' (some bm)) : UnOwn w' B v U V := h.kept (fun k _ hk hc => hg.block k hk (fun e => by
  injection e with e
  subst e
  obtain ⟨es, c, hm⟩ := hm
  obtain ⟨cs, t, hc⟩ := hc
  rw [hm] at hc; cases hc))
/-- A unit with nothing in it, behind the others. -/
theorem UnOwn.new (h : UnOwn w B v U V) (ho : w'.ownsRow B tII 1 v' (U.length + 1) (V ++ [.slice none 0 0])) (hg : w.grownBy w' v.ownBlock) : UnOwn w' B v' (U ++ [[]]) (V ++ [.slice none 0 0]) := by
  refine ⟨by simpa using ho, by simp [h.len], fun i x u hx hu => ?_, fun i j g x y hx hy gx gy => ?_⟩
  · rcases Nat.lt_or_ge i V.length with g | g
    · rw [List.getElem?_append_left g] at hx
      rw [List.getElem?_append_left (by rw [← h.len]; exact g)] at hu
      have hr := h.each i x u hx hu
      exact hr.kept hg (by
        rcases hx' : x.ownBlock with _ | k
        · exact .inl rfl
        · refine .inr fun e => rows_apart hr h.row (by decide) k hx' ?_
          rw [← e])
    · rw [List.getElem?_append_right g] at hx
      rw [List.getElem?_append_right (by rw [← h.len]; exact g)] at hu
      rw [h.len] at hx
      match hi : i - U.length with
      | 0 =>
        rw [hi] at hx hu
        simp at hx hu
        subst hx hu
        exact World.ownsRow_nil _ _ _ _
      | n + 1 => rw [hi] at hx; simp at hx
  · have lt : ∀ {i : Nat} {x : Value}, (V ++ [.slice none 0 0])[i]? = some x → x.ownBlock = some g → V[i]? = some x := fun {i x} hx gx => by
      rcases Nat.lt_or_ge i V.length with q | q
      · rwa [List.getElem?_append_left q] at hx
      · rw [List.getElem?_append_right q] at hx
        match hi : i - V.length with
        | 0 => rw [hi] at hx; simp at hx; subst hx; cases gx
        | n + 1 => rw [hi] at hx; simp at hx
    exact h.apart i j g x y (lt hx gx) (lt hy gy) gx gy
set_option maxHeartbeats 1000000 in
/-- A unit has one more. -/
theorem UnOwn.more {a i : Nat} {x x' : Value} {u : List Nat} (h : UnOwn w B v U V) (hx : V[a]? = some x) (hu : U[a]? = some u) (hs : w.heap.size < w'.heap.size → True) (ho : w'.ownsRow B tI 1 x' (u.length + 1) (ints u ++ [.int .i64 (i : Int)])) (hg : w.grownBy w' x.ownBlock)
    (hn : x'.ownBlock = x.ownBlock ∨ ∃ k, w.heap.size ≤ k ∧ x'.ownBlock = some k) {gv cv : Nat} (hv : v = .slice (some ⟨gv, 0, none⟩) U.length cv) : UnOwn (w'.setCell ⟨gv, a, none⟩ x') B v (U.set a (u ++ [i])) (V.set a x') := by
  have hrow : w'.ownsRow B tII 1 v U.length V := h.row.kept hg (by
    rcases hv' : v.ownBlock with _ | k
    · exact .inl rfl
    · refine .inr fun e => rows_apart h.row (h.each a x u hx hu) (by decide) k hv' ?_
      rw [← e])
  have hgv : v.ownBlock = some gv := by rw [hv]; rfl
  have keep : ∀ {n : Nat} {y : Value} {xs : List Value}, w'.ownsRow B tI 1 y n xs → (w'.setCell ⟨gv, a, none⟩ x').ownsRow B tI 1 y n xs := fun {n y xs} hy => own_set hy (fun e => rows_apart hy hrow (by decide) gv e hgv)
  refine ⟨?_, by simp [h.len], fun j y t hy ht => ?_, fun j k g y z hy hz gy gz => ?_⟩
  · rw [hv] at hrow ⊢
    simpa using (hrow.stored a x').1
  · by_cases e : a = j
    · subst e
      rw [List.getElem?_set_self (List.getElem?_eq_some_iff.1 hx).1] at hy
      rw [List.getElem?_set_self (List.getElem?_eq_some_iff.1 hu).1] at ht
      injection hy with hy; injection ht with ht
      subst hy ht
      refine keep ?_
      rw [ints_snoc]; simpa using ho
    · rw [List.getElem?_set_ne e] at hy ht
      have hr := h.each j y t hy ht
      exact keep (hr.kept hg (by
        rcases hy' : y.ownBlock with _ | k
        · exact .inl rfl
        · exact .inr fun e' => e (h.apart a j k x y hx hy e'.symm hy')))
  · have new : ∀ {j k g : Nat} {z : Value}, a ≠ k → x'.ownBlock = some g → V[k]? = some z → z.ownBlock = some g → False := fun {j k g z} hne gx hz gz => by
      rcases hn with hn | ⟨q, hq, hn⟩
      · exact hne (h.apart a k g x z hx hz (hn ▸ gx) gz)
      · rw [hn] at gx; injection gx with gx; subst gx
        obtain ⟨t, ht⟩ : ∃ t, U[k]? = some t := ⟨_, List.getElem?_eq_getElem (by rw [← h.len]; exact (List.getElem?_eq_some_iff.1 hz).1)⟩
        have := ((h.each k z t hz ht).lt q gz).2
        omega
    by_cases e1 : a = j <;> by_cases e2 : a = k
    · omega
    · subst e1
      rw [List.getElem?_set_self (List.getElem?_eq_some_iff.1 hx).1] at hy
      rw [List.getElem?_set_ne e2] at hz
      injection hy with hy; subst hy
      exact (new (j := a) e2 gy hz gz).elim
    · subst e2
      rw [List.getElem?_set_self (List.getElem?_eq_some_iff.1 hx).1] at hz
      rw [List.getElem?_set_ne e1] at hy
      injection hz with hz; subst hz
      exact (new (j := a) e1 gz hy gy).elim
    · rw [List.getElem?_set_ne e1] at hy
      rw [List.getElem?_set_ne e2] at hz
      exact h.apart j k g y z hy hz gy gz
end
end Go.Proofs.Ytlkpbpecgdphaaa
namespace Go.Proofs.Ytlkpbpecgdphaaa
open Go.RowKit

/-- The units' values, each with what it reads as. -/
abbrev ZU := List (Value × List Nat)
def keepZ (p : List Nat → Bool) (Z : ZU) : ZU := Z.filter fun x => p x.2
theorem keepZ_all {p : List Nat → Bool} {Z : ZU} (h : Z.findIdx? (fun x => !p x.2) = none) : keepZ p Z = Z := by
  rw [List.findIdx?_eq_none_iff] at h
  exact List.filter_eq_self.2 fun x hx => by simpa using h x hx
theorem keepZ_yes {p : List Nat → Bool} {Z : ZU} {k : Nat} {x : Value × List Nat} (h : Z[k]? = some x) (hp : p x.2 = true) : keepZ p (Z.take (k + 1)) = keepZ p (Z.take k) ++ [x] := by
  rw [List.take_add_one, h]; simp [keepZ, hp]
theorem keepZ_no {p : List Nat → Bool} {Z : ZU} {k : Nat} {x : Value × List Nat} (h : Z[k]? = some x) (hp : p x.2 = false) : keepZ p (Z.take (k + 1)) = keepZ p (Z.take k) := by
  rw [List.take_add_one, h]; simp [keepZ, hp]
theorem keepZ_len (p : List Nat → Bool) (Z : ZU) (k : Nat) : (keepZ p (Z.take k)).length ≤ k := Nat.le_trans (List.length_filter_le _ _) (List.length_take_le _ _)
set_option maxRecDepth 100000 in
set_option maxHeartbeats 2000000 in
theorem indexU_any (X g m c : Nat) (Z : ZU) (p : List Nat → Bool) (w : World) (hr : ∀ k x, Z[k]? = some x → w.cell? ⟨g, k, none⟩ = some x.1) (hg : g < w.heap.size) (hl : Z.length = m) (hm : m ≤ 1000000)
    (hs : ∀ x ∈ Z, ∃ A n c, x.1 = .slice A n c) (hD : ∀ W, Upd w W (One g) → ∀ x ∈ Z, Calls Try.prog 34 #[x.1, ptr X] W fun e w' => e = .returned (.bool (!p x.2)) ∧ Below W.heap.size W w') :
    Calls Try.prog 53 #[.slice (some ⟨g, 0, none⟩) m c, unF X] w fun e w' => e = .returned (.int .i64 (idxV (Z.findIdx? fun x => !p x.2))) ∧ Below w.heap.size w w' := by
  obtain ⟨r, hr0⟩ : ∃ r, r = idxV (Z.findIdx? fun x => !p x.2) := ⟨_, rfl⟩
  rw [← hr0]
  have HR := Lib.hid hr
  have HD := Lib.hid hD
  have HV := Lib.hid hr0
  have HS := Lib.hid hs
  have HL := Lib.hid hl
  clear hr hD hr0 hs hl
  go_enter Try.func53, Try.ntmps53
  go_wp2
  go_loopw [8] (fun i wr => IxRel w Z (fun x => !p x.2) m i wr) (fun i _ => m - (intOf i).toNat)
  case atStart => exact ⟨0, Nat.zero_le _, rfl, by simp, Below.refl _ _⟩
  case round =>
    obtain ⟨k, hk, rfl, hno, hb⟩ := hrel
    have HN := Lib.hid hno
    have HB := Lib.hid hb
    have hsz := hb.size
    clear hno hb
    by_cases hlt : k < m
    · obtain ⟨x, hx⟩ : ∃ x, Z[k]? = some x := ⟨_, List.getElem?_eq_getElem (by rw [HL.out]; exact hlt)⟩
      have ck : wr.cell? ⟨g, k, none⟩ = some x.1 := (HB.out.cell (p := ⟨g, k, none⟩) hg).trans (HR.out k x hx)
      have hkz : (k : Int) < (m : Int) := by omega
      obtain ⟨q1, q2⟩ := findIdx_next HN.out hx
      have Q1 := Lib.hid q1
      have Q2 := Lib.hid q2
      have hc := HD.out wr (Upd.of_below HB.out _) x (List.mem_of_getElem? hx)
      obtain ⟨As, ns, cs, hxs⟩ := HS.out x (List.mem_of_getElem? hx)
      rw [hxs] at ck hc
      clear q1 q2 hx hxs
      cases hb : p x.2 with
      | false =>
        rw [hb] at hc
        have HC := Lib.hid hc
        clear hc
        have hf := Q1.out (by rw [hb]; rfl)
        have hv := HV.out
        rw [hf] at hv
        have hv' : r = (k : Int) := hv
        subst hv'
        clear hb hf hv HV Q1 Q2 HN
        go_wp2_with (go_at_call 34; refine HC.out.mono ?_; rintro e w2 ⟨rfl, hb2⟩; have HB2 := Lib.hid (HB.out.trans (hb2.mono hsz)); clear hb2)
        go_ret
        exact ⟨rfl, HB2.out⟩
      | true =>
        have HF := Lib.hid (Q2.out (by rw [hb]; rfl))
        rw [hb] at hc
        have HC := Lib.hid hc
        clear hb Q1 Q2 hc
        go_wp2_with (go_at_call 34; refine HC.out.mono ?_; rintro e w2 ⟨rfl, hb2⟩; have HB2 := Lib.hid (HB.out.trans (hb2.mono hsz)); clear hb2)
        go_roundw
        case rel => exact ⟨k + 1, by omega, by go_num, HF.out, HB2.out⟩
        case measure => simp [intOf]; omega
    · obtain rfl : k = m := by omega
      have hf := findIdx_end HN.out (by rw [HL.out]; exact Nat.le_refl _)
      have hv := HV.out
      rw [hf] at hv
      have hv' : r = -1 := hv
      subst hv'
      clear hf hv HV HN
      go_wp2
      go_ret
      exact ⟨rfl, HB.out⟩

/-- The row while some are struck: k are through. -/
structure DlU (w wr : World) (g c : Nat) (p : List Nat → Bool) (Z : ZU) (k : Nat) : Prop where
  blk : ∃ cs, Blk wr g tII cs ∧ cs.size = c
  done : ∀ j x, (keepZ p (Z.take k))[j]? = some x → wr.cell? ⟨g, j, none⟩ = some x.1
  rest : ∀ q x, k ≤ q → Z[q]? = some x → wr.cell? ⟨g, q, none⟩ = some x.1
  upd : Upd w wr (One g)
section
variable {w wr w' : World} {g c k : Nat} {p : List Nat → Bool} {Z : ZU} {x : Value × List Nat}
theorem DlU.below (h : DlU w wr g c p Z k) (hb : Below wr.heap.size wr w') : DlU w w' g c p Z k := by
  obtain ⟨cs, h1, h2⟩ := h.blk
  have hc : ∀ j, w'.cell? ⟨g, j, none⟩ = wr.cell? ⟨g, j, none⟩ := fun j => hb.cell (p := ⟨g, j, none⟩) h1.lt
  exact ⟨⟨cs, (hb.block g h1.lt).trans h1, h2⟩, fun j x hx => (hc j).trans (h.done j x hx), fun q x hq hx => (hc q).trans (h.rest q x hq hx), h.upd.trans (Upd.of_below hb _) (fun _ _ h => h)⟩
theorem DlU.hit (h : DlU w wr g c p Z k) (hx : Z[k]? = some x) (hp : p x.2 = false) : DlU w wr g c p Z (k + 1) :=
  ⟨h.blk, by rw [keepZ_no hx hp]; exact h.done, fun q y hq hy => h.rest q y (by omega) hy, h.upd⟩
theorem DlU.miss (h : DlU w wr g c p Z k) (hx : Z[k]? = some x) (hp : p x.2 = true) (hq : (keepZ p (Z.take k)).length < k) (hk : k < c) : DlU w (wr.setCell ⟨g, (keepZ p (Z.take k)).length, none⟩ x.1) g c p Z (k + 1) := by
  obtain ⟨L, hL⟩ : ∃ L, (keepZ p (Z.take k)).length = L := ⟨_, rfl⟩
  rw [hL] at hq ⊢
  obtain ⟨cs, h1, h2⟩ := h.blk
  have h3 := h1.set L x.1
  have hc : ∀ j, j ≠ L → (wr.setCell ⟨g, L, none⟩ x.1).cell? ⟨g, j, none⟩ = wr.cell? ⟨g, j, none⟩ := fun j hj => by
    rw [h3.cell, h1.cell, Array.getElem?_setIfInBounds, if_neg (fun e => hj e.symm)]
  have hs : (wr.setCell ⟨g, L, none⟩ x.1).cell? ⟨g, L, none⟩ = some x.1 := by
    rw [h3.cell, Array.getElem?_setIfInBounds, if_pos rfl, if_pos (by omega)]
  refine ⟨⟨_, h3, by simpa using h2⟩, fun j y hy => ?_, fun q y hq2 hy => ?_, h.upd.setOne _ _⟩
  · rw [keepZ_yes hx hp] at hy
    rcases Nat.lt_or_ge j L with hj | hj
    · rw [List.getElem?_append_left (by omega)] at hy
      rw [hc j (by omega)]; exact h.done j y hy
    · rw [List.getElem?_append_right (by omega), hL] at hy
      match hjl : j - L with
      | 0 =>
        rw [hjl] at hy
        obtain rfl : j = L := by omega
        simp at hy; subst hy
        exact hs
      | n + 1 => rw [hjl] at hy; simp at hy
  · rw [hc q (by omega)]; exact h.rest q y (by omega) hy
end
def DuRel (w : World) (g c m : Nat) (p : List Nat → Bool) (Z : ZU) (i j : Value) (wr : World) : Prop :=
  ∃ k : Nat, k ≤ m ∧ (keepZ p (Z.take k)).length < k ∧ j = .int .i64 k ∧ i = .int .i64 (keepZ p (Z.take k)).length ∧ DlU w wr g c p Z k
/-- What is left of the row. -/
structure DuOk (w w' : World) (g c : Nat) (Z : ZU) : Prop where
  blk : ∃ cs, Blk w' g tII cs ∧ cs.size = c ∧ ∀ (j : Nat) (x : Value × List Nat), Z[j]? = some x → cs[j]? = some x.1
  upd : Upd w w' (One g)
theorem setCells_block {b o : Nat} : ∀ (vs : List Value) (o : Nat) (w : World) (cs : Array Value), Blk w b tII cs → ∃ cs', Blk (w.setCells b o vs) b tII cs' ∧ cs'.size = cs.size ∧ ∀ j, j < o → cs'[j]? = cs[j]?
  | [], _, _, cs, h => ⟨cs, h, rfl, fun _ _ => rfl⟩
  | v :: r, o, w, cs, h => by
    obtain ⟨cs', h1, h2, h3⟩ := setCells_block (b := b) (o := o) r (o + 1) (w.setCell ⟨b, o, none⟩ v) _ (h.set o v)
    refine ⟨cs', h1, by rw [h2]; simp, fun j hj => ?_⟩
    rw [h3 j (by omega), Array.getElem?_setIfInBounds, if_neg (by omega)]
theorem upd_setCellsU {a : World} {S : Nat → Prop} {b : Nat} (hb : a.heap.size ≤ b ∨ S b) : ∀ (vs : List Value) (o : Nat) (w : World), Upd a w S → Upd a (w.setCells b o vs) S
  | [], _, _, h => h
  | v :: r, o, _, h => upd_setCellsU hb r (o + 1) _ (h.set hb v)
set_option maxRecDepth 100000 in
set_option maxHeartbeats 2000000 in
theorem deleteU_any (X g m c : Nat) (Z : ZU) (p : List Nat → Bool) (w : World) (cur : Array Value) (hb : Blk w g tII cur) (hcs : cur.size = c) (hmc : m ≤ c) (hc6 : c ≤ maxLen) (hr : ∀ (k : Nat) (x : Value × List Nat), Z[k]? = some x → cur[k]? = some x.1) (hl : Z.length = m) (hm : m ≤ 1000000)
    (hs : ∀ x ∈ Z, ∃ A n c, x.1 = .slice A n c) (hD : ∀ W, Upd w W (One g) → ∀ x ∈ Z, Calls Try.prog 34 #[x.1, ptr X] W fun e w' => e = .returned (.bool (!p x.2)) ∧ Below W.heap.size W w') :
    Calls Try.prog 33 #[.slice (some ⟨g, 0, none⟩) m c, unF X] w fun e w' => e = .returned (.slice (some ⟨g, 0, none⟩) (keepZ p Z).length c) ∧ DuOk w w' g c (keepZ p Z) := by
  have hr' : ∀ k x, Z[k]? = some x → w.cell? ⟨g, k, none⟩ = some x.1 := fun k x hx => by rw [hb.cell]; exact hr k x hx
  have HC := Lib.hid (indexU_any X g m c Z p w hr' hb.lt hl hm hs hD)
  have HBLK := Lib.hid hb
  have HCS := Lib.hid hcs
  have HR := Lib.hid hr
  have HR' := Lib.hid hr'
  have HL := Lib.hid hl
  have HS := Lib.hid hs
  have HD := Lib.hid hD
  have hcm' := hc6
  unfold maxLen at hcm'
  clear hb hcs hr hr' hl hs hD
  cases hfi : Z.findIdx? fun x => !p x.2 with
  | none =>
    rw [hfi] at HC
    have HK := Lib.hid (keepZ_all hfi)
    clear hfi
    rw [show idxV none = -1 from rfl] at HC
    go_enter Try.func33, Try.ntmps33
    go_wp2_with fail
    refine HC.out.mono ?_
    rintro e w1 ⟨rfl, hb1⟩
    have HB1 := Lib.hid hb1
    clear hb1
    go_wp2
    go_ret
    rw [HK.out, HL.out]
    exact ⟨rfl, ⟨_, (HB1.out.block g HBLK.out.lt).trans HBLK.out, HCS.out, HR.out⟩, Upd.of_below HB1.out _⟩
  | some i0 =>
    rw [hfi] at HC
    obtain ⟨hi0, hp0, hno⟩ := List.findIdx?_eq_some_iff_getElem.1 hfi
    rw [HL.out] at hi0
    have hx0 : Z[i0]? = some Z[i0] := List.getElem?_eq_getElem _
    have hst0 : keepZ p (Z.take i0) = Z.take i0 := List.filter_eq_self.2 fun x hx => by
      obtain ⟨j, hj, e⟩ := List.mem_iff_getElem.1 hx
      rw [List.length_take] at hj
      rw [List.getElem_take] at e
      have := hno j (by omega)
      rw [e] at this
      simpa using this
    have hst1 : keepZ p (Z.take (i0 + 1)) = Z.take i0 := by rw [keepZ_no hx0 (by simpa using hp0), hst0]
    have hl0 : (Z.take i0).length = i0 := by rw [List.length_take, HL.out]; omega
    rw [show idxV (some i0) = (i0 : Int) from rfl] at HC
    have hne1 : ((i0 : Int) == -1) = false := by rw [beq_eq_false_iff_ne]; omega
    clear hfi hp0 hno hx0
    have HST1 := Lib.hid hst1
    have HL0 := Lib.hid hl0
    clear hst0 hst1 hl0
    go_enter Try.func33, Try.ntmps33
    go_wp2_with fail
    refine HC.out.mono ?_
    rintro e w1 ⟨rfl, hb1⟩
    have HD0 := Lib.hid (show DlU w w1 g c p Z (i0 + 1) from by
      have hc : ∀ j, w1.cell? ⟨g, j, none⟩ = w.cell? ⟨g, j, none⟩ := fun j => hb1.cell (p := ⟨g, j, none⟩) HBLK.out.lt
      refine ⟨⟨_, (hb1.block g HBLK.out.lt).trans HBLK.out, HCS.out⟩, fun j x hx => ?_, fun q x _ hx => (hc q).trans (HR'.out q x hx), Upd.of_below hb1 _⟩
      rw [HST1.out, List.getElem?_take] at hx
      split at hx
      · exact (hc j).trans (HR'.out j x hx)
      · cases hx)
    have HL1 := Lib.hid (show (keepZ p (Z.take (i0 + 1))).length = i0 by rw [HST1.out, HL0.out])
    clear hb1 HC
    go_wp2_with fail
    go_loopw [5, 6] (fun i j wr => DuRel w g c m p Z i j wr) (fun _ j _ => m - (intOf j).toNat)
    case atStart => exact ⟨i0 + 1, by omega, by rw [HL1.out]; omega, by go_num, by rw [HL1.out], HD0.out⟩
    case round =>
      obtain ⟨k, hk, hlen, rfl, rfl, hd⟩ := hrel
      obtain ⟨q, hq⟩ : ∃ q, (keepZ p (Z.take k)).length = q := ⟨_, rfl⟩
      rw [hq] at hlen ⊢
      have HQ := Lib.hid hq
      have HDL := Lib.hid hd
      clear hd hq HD0 HL1 hne1
      by_cases hlt : k < m
      · obtain ⟨x, hx⟩ : ∃ x, Z[k]? = some x := ⟨_, List.getElem?_eq_getElem (by rw [HL.out]; exact hlt)⟩
        have hkm : (k : Int) < (m : Int) := by omega
        have ck : wr.cell? ⟨g, k, none⟩ = some x.1 := HDL.out.rest k x (Nat.le_refl _) hx
        have hc := HD.out wr HDL.out.upd x (List.mem_of_getElem? hx)
        obtain ⟨As, ns, cs, hxs⟩ := HS.out x (List.mem_of_getElem? hx)
        have HXX := Lib.hid hx
        have HXS := Lib.hid hxs
        rw [hxs] at ck hc
        clear hx hxs
        cases hb : p x.2 with
        | false =>
          rw [hb] at hc
          have HC := Lib.hid hc
          have HH := Lib.hid hb
          have HN := Lib.hid (keepZ_no HXX.out hb)
          clear hc hb
          go_wp2_with (go_at_call 34; refine HC.out.mono ?_; rintro e w3 ⟨rfl, hb3⟩; have HD3 := Lib.hid ((HDL.out.below hb3).hit HXX.out HH.out); clear hb3)
          go_roundw
          case rel => exact ⟨k + 1, by omega, by rw [HN.out, HQ.out]; omega, by go_num, by rw [HN.out, HQ.out], HD3.out⟩
          case measure => simp [intOf]; omega
        | true =>
          rw [hb] at hc
          have HC := Lib.hid hc
          have HH := Lib.hid hb
          have HN := Lib.hid (show (keepZ p (Z.take (k + 1))).length = q + 1 by rw [keepZ_yes HXX.out hb, List.length_append, HQ.out]; rfl)
          clear hc hb
          have hqi : (q : Int) < (m : Int) := by omega
          go_wp2_with fail
          refine HC.out.mono ?_
          rintro e w3 ⟨rfl, hb3⟩
          have hd3 := HDL.out.below hb3
          have HD4 := Lib.hid (show DlU w (w3.setCell ⟨g, q, none⟩ (.slice As ns cs)) g c p Z (k + 1) from by
            have := hd3.miss HXX.out HH.out (by rw [HQ.out]; exact hlen) (by omega)
            rwa [HQ.out, HXS.out] at this)
          have zq : w3.frozen? ⟨g, q, none⟩ = false := by obtain ⟨cs, h1, _⟩ := hd3.blk; exact h1.free q
          have cq : ∃ u, w3.cell? ⟨g, q, none⟩ = some u := by
            obtain ⟨cs, h1, h2⟩ := hd3.blk
            exact ⟨_, by rw [h1.cell, Array.getElem?_eq_getElem (by omega)]⟩
          obtain ⟨u, cq⟩ := cq
          clear hd3 hb3
          go_wp2
          go_roundw
          case rel => exact ⟨k + 1, by omega, by rw [HN.out]; omega, by go_num, by rw [HN.out]; go_num, HD4.out⟩
          case measure => simp [intOf]; omega
      · obtain rfl : k = m := by omega
        have hkz : decide ((k : Int) < (k : Int)) = false := decide_eq_false (by omega)
        obtain ⟨cs1, hb1, hs1⟩ := HDL.out.blk
        have hcl := fun ty => Lib.run_clear_slice (P := Try.prog) wr 52 tII ty (.slice none 0 0) Try.underlying52 (fun w => by kernel_rfl) (by rfl) (by rfl) g q (k - q) (c - q) (by omega) (fun j hj => by
          rw [hb1.cell, Array.getElem?_eq_getElem (by omega)]; rfl) (fun j hj => hb1.free _)
        obtain ⟨cs2, hb2, hs2, hk2⟩ := setCells_block (b := g) (o := q) (List.replicate (k - q) (.slice none 0 0)) q wr cs1 hb1
        have HB2 := Lib.hid hb2
        have HS2 := Lib.hid (hs2.trans hs1)
        have HUP := Lib.hid (upd_setCellsU (S := One g) (b := g) (.inr rfl) (List.replicate (k - q) (.slice none 0 0)) q wr HDL.out.upd)
        have HTK := Lib.hid (show Z.take k = Z from List.take_of_length_le (by rw [HL.out]; exact Nat.le_refl _))
        rw [HTK.out] at HQ
        have HDN := Lib.hid (show ∀ (j : Nat) (x : Value × List Nat), (keepZ p Z)[j]? = some x → cs2[j]? = some x.1 from fun j x hx => by
          have hj : j < q := by rw [← HQ.out]; exact (List.getElem?_eq_some_iff.1 hx).1
          rw [hk2 j hj, ← hb1.cell]
          exact HDL.out.done j x (by rw [HTK.out]; exact hx))
        clear hb1 hs1 hb2 hs2 hk2
        have hqk : (q : Int) < (k : Int) := by omega
        have hqc : q < c := by omega
        go_wp2
        go_ret
        exact ⟨by rw [HQ.out]; rfl, ⟨_, HB2.out, HS2.out, HDN.out⟩, HUP.out⟩
end Go.Proofs.Ytlkpbpecgdphaaa
