/-
  PLAIN WORDS (no program): how few a description holds; what the check comes to, rule by rule.
-/
import Derived.Test.YtlkpbpecgdphaaaGvd
import Derived.Test.YtlkpbpecgdphaaaRc
import Derived.Test.YtlkpbpecgdphaaaSpn
import Derived.Test.YtlkpbpecgdphaaaGl
import Derived.BigQuiet
import Derived.Test.YtlkpbpecgdphaaaExpText
namespace Go.Proofs.Ytlkpbpecgdphaaa
open Go.RowKit

def GoPost (m : Mk) (l : List F) (goal : ByteArray) (w : World) (e : Ending) (w' : World) : Prop :=
  ∃ A c R4, e = .returned (.tuple #[.slice A (graphR m l goal).2.length c, .int .i64 (graphR m l goal).1]) ∧ GpRd w' A (graphR m l goal).2.length c (graphR m l goal).2 R4 ∧ Below w.heap.size w w'
theorem nameB_pat {x : ByteArray} (h : nameB x = true) : patB x = false := by
  unfold patB
  rw [decide_eq_false_iff_not]
  intro hm
  obtain ⟨k, hk, e⟩ := List.mem_iff_getElem.1 hm
  have hk' : k < x.size := by simpa using hk
  have e' : x[k] = 37 := by
    have : x[k] = x.data.toList[k] := rfl
    rw [this, e]
  have hb : chB k (x[k].toNat : Int) = false := by
    rw [e']
    unfold chB letB digB
    have : ((37 : UInt8).toNat : Int) = 37 := rfl
    rw [this]
    simp
  rw [nameB_bad hk' hb] at h
  cases h
set_option maxRecDepth 100000 in
set_option maxHeartbeats 4000000 in
theorem groupsOf_any (m : Mk) (l : List F) (goal : ByteArray) (vv vr vp : Value) (R : List Row3) (Af : Option Addr) (cf : Nat) (w : World) (h : MkRd w m vv vr vp R) (hf : RdF w w.heap.size Af l.length cf l) (hL : Lim m) (hA : Asks m l (univ m l goal)) (hl : l.length ≤ 10000) (hg : goal.size ≤ 1000) :
    Calls Try.prog 8 #[.agg #[vv, vr, vp], .slice Af l.length cf, .string goal] w (GoPost m l goal w) := by
  have hb0 : Below w.heap.size w (w.alloc (.cells #[vv, vr, vp] tMa)) := (Below.refl _ _).alloc (Nat.le_refl _) _
  have p0 := Blk.new w tMa #[vv, vr, vp]
  have hM := h.belowS hb0
  obtain ⟨Av, cv, hvv, -⟩ := hM.vars
  obtain ⟨Ar, cr, hvr, -⟩ := hM.rules
  obtain ⟨Ap, cp, hvp, -⟩ := hM.phony
  subst hvv hvr hvp
  have HB0 := Lib.hid hb0
  have HM := Lib.hid hM
  have HF := Lib.hid (RdF.belowS hf hb0)
  have HL := Lib.hid hL
  have HA := Lib.hid hA
  have q0 := p0.cell 0
  have q1 := p0.cell 1
  have q2 := p0.cell 2
  obtain ⟨gr, hgr⟩ : ∃ gr, gr = graphR m l goal := ⟨_, rfl⟩
  have HGR := Lib.hid hgr
  have HPOST := Lib.hid (show ∀ e w', (∃ A c R4, e = .returned (.tuple #[.slice A gr.2.length c, .int .i64 gr.1]) ∧ GpRd w' A gr.2.length c gr.2 R4 ∧ Below w.heap.size w w') → GoPost m l goal w e w' from fun e w' h => by rw [hgr] at h; exact h)
  have HC := Lib.hid (nameMay_any goal (w.alloc (.cells #[.slice Av m.vars.length cv, .slice Ar R.length cr, .slice Ap m.phony.length cp] tMa)) (by omega))
  clear h hf hL hA hb0 p0 hM hgr
  cases hnb : nameB goal with
  | false =>
    have hgr := HGR.out
    unfold graphR at hgr
    rw [if_neg (by rw [hnb]; simp)] at hgr
    subst hgr
    rw [hnb] at HC
    go_enter Try.func8, Try.ntmps8
    go_wp2_with fail
    refine HC.out.mono ?_
    rintro e w1 ⟨rfl, rfl⟩
    go_wp2
    go_ret2
    exact HPOST.out _ _ ⟨none, 0, [], rfl, GpRd.nil _, HB0.out⟩
  | true =>
    have hgr := HGR.out
    unfold graphR at hgr
    rw [if_pos hnb] at hgr
    rw [hnb] at HC
    have HGR2 := Lib.hid hgr
    have hul := univ_len (m := m) (l := l) (goal := goal) HL.out hl
    have HVI := Lib.hid (refVisit_any m l goal HL.out (by omega) HA.out ((univ m l goal).length + 1) goal [] [] _ _ _ R Af none none cf 0 0 0 [] _ (by unfold univ; simp) (nameB_pat hnb) (Nat.lt_succ_of_le (List.length_filter_le _ _)) (by omega) ⟨by simp, by simp⟩ HM.out HF.out (RdS.nil _ _) (GpRd.nil _))
    clear hgr hnb
    go_enter Try.func8, Try.ntmps8
    go_wp2_with fail
    generalize w.alloc (.cells #[.slice Av m.vars.length cv, .slice Ar R.length cr, .slice Ap m.phony.length cp] tMa) = w1 at *
    refine HC.out.mono ?_
    rintro e w1' ⟨rfl, hw1⟩
    subst hw1
    go_wp2_with fail
    refine HVI.out.mono ?_
    rintro e w3 ⟨A, n3, c, rfl, hok, hbl⟩
    revert HGR2 hok
    generalize visitR m l ((univ m l goal).length + 1) goal [] [] = q
    intro HGR2 hok
    by_cases h0 : q.1 = 0
    · obtain ⟨hn3, R4, hrd⟩ := hok h0
      subst hn3
      have hgr := HGR2.out
      rw [if_pos h0] at hgr
      subst hgr
      have j1 : decide ((0 : Int) < (gr.1 : Int)) = false := decide_eq_false (by omega)
      have HX := Lib.hid (HPOST.out (.returned (.tuple #[.slice A gr.2.length c, .int .i64 0])) w3 ⟨A, c, R4, by rw [h0]; rfl, hrd, HB0.out.trans (hbl.mono HB0.out.size)⟩)
      clear hok hbl hrd HGR
      go_wp2
      go_ret2
      exact HX.out
    · have hgr := HGR2.out
      rw [if_neg h0] at hgr
      have j1 : (0 : Int) < (q.1 : Int) := by omega
      have HX := Lib.hid (HPOST.out (.returned (.tuple #[.slice none 0 0, .int .i64 q.1])) w3 (by rw [hgr]; exact ⟨none, 0, [], rfl, GpRd.nil _, HB0.out.trans (hbl.mono HB0.out.size)⟩))
      clear hok hbl hgr HGR h0
      go_wp2
      go_ret2
      exact HX.out
end Go.Proofs.Ytlkpbpecgdphaaa
namespace Go.Proofs.Ytlkpbpecgdphaaa
open Go.RowKit

def SgRel (w : World) (n : Nat) (i : Value) (wr : World) : Prop := ∃ k : Nat, k ≤ n ∧ i = .int .i64 k ∧ Below w.heap.size w wr
end Go.Proofs.Ytlkpbpecgdphaaa
namespace Go.Proofs.Ytlkpbpecgdphaaa
open Go

theorem cut_none_mem {s : Bs} (h : (Lib.cut s [37]).2.2 = false) : (37 : UInt8) ∉ s := by
  obtain ⟨h1, _⟩ := cut_miss h
  rcases Lib.index_spec s [37] with ⟨_, hn⟩ | ⟨i, hi, _⟩
  · intro hm
    obtain ⟨j, hj, e⟩ := List.mem_iff_getElem.1 hm
    have := hn j (by omega)
    unfold Lib.occAt at this
    rw [List.drop_eq_getElem_cons hj, e] at this
    simp at this
  · omega
theorem cut_some_mem {s : Bs} (h : (Lib.cut s [37]).2.2 = true) : (37 : UInt8) ∈ s := by
  rcases Lib.index_spec s [37] with ⟨h1, _⟩ | ⟨i, hi, _, ho, _⟩
  · rw [cut_none h1] at h; cases h
  · unfold Lib.occAt at ho
    rw [List.isPrefixOf_iff_prefix] at ho
    obtain ⟨t, ht⟩ := ho
    exact List.mem_of_mem_drop (i := i) (by rw [← ht]; simp)
theorem pat_iff {x : ByteArray} : patB x = true ↔ (37 : UInt8) ∈ x.data.toList := by unfold patB; simp
theorem pat_not {x : ByteArray} : patB x = false ↔ (37 : UInt8) ∉ x.data.toList := by unfold patB; simp
theorem cut_parts {x : ByteArray} (h : (Lib.cut x.data.toList [37]).2.2 = true) (hn : nameB (onceR x) = true) : (37 : UInt8) ∉ (Lib.cut x.data.toList [37]).1 ∧ (37 : UInt8) ∉ (Lib.cut x.data.toList [37]).2.1 := by
  have h1 := pat_not.1 (nameB_pat hn)
  unfold onceR at h1
  rw [if_pos h, ba_data] at h1
  exact ⟨fun hm => h1 (List.mem_append_left _ hm), fun hm => h1 (List.mem_append_right _ (List.mem_cons_of_mem _ hm))⟩
theorem once_plain {x y : ByteArray} (h : patB x = false) : onceB x y = x := by
  unfold onceB
  rw [if_neg]
  intro hc
  exact pat_not.1 h (cut_some_mem hc)
theorem once_pat {x y : ByteArray} (hx : nameB (onceR x) = true) (hy : patB y = false) : patB (onceB x y) = false := by
  rw [pat_not]
  unfold onceB
  split
  · rename_i h
    obtain ⟨h1, h2⟩ := cut_parts h hx
    rw [ba_data]
    intro hm
    rcases List.mem_append.1 hm with hm | hm
    · exact h1 hm
    · rcases List.mem_append.1 hm with hm | hm
      · exact pat_not.1 hy hm
      · exact h2 hm
  · rename_i h
    exact cut_none_mem (by simpa using h)
theorem stem_pat {p n : ByteArray} (hn : patB n = false) : patB (stemR p n).1 = false := by
  rw [pat_not]
  unfold stemR
  split
  · intro hm
    rw [Lib.extract_data] at hm
    exact pat_not.1 hn (List.mem_of_mem_drop (List.mem_of_mem_take hm))
  · exact fun hm => by simp at hm
theorem shaped_plain {T N : List ByteArray} (h : shapedR T N = true) {x : ByteArray} (hx : x ∈ T) (hp : patB x = false) : ∀ y ∈ N, patB y = false := by
  intro y hy
  unfold shapedR at h
  rw [Bool.and_eq_true] at h
  have hany : T.any patB = false := by
    cases ha : T.any patB with
    | false => rfl
    | true =>
      have h1 := h.1
      rw [ha] at h1
      simp at h1
      obtain ⟨z, hz, hpz⟩ := List.any_eq_true.1 ha
      match T, hx, hz, h1 with
      | [a], hx, hz, _ =>
        rw [List.mem_singleton.1 hx] at hp
        rw [List.mem_singleton.1 hz, hp] at hpz
        cases hpz
      | a :: b :: T, _, _, h1 => simp at h1
  obtain ⟨i, hi, e⟩ := List.mem_iff_getElem.1 (List.mem_append_right T hy)
  have := List.all_eq_true.1 h.2 i (List.mem_range.2 hi)
  rw [List.getElem?_eq_getElem hi, e] at this
  unfold wordOk at this
  rw [Bool.and_eq_true, hany] at this
  simpa using this.2
theorem fill_plain {nd : List ByteArray} (h : ∀ y ∈ nd, patB y = false) (st : ByteArray) : fillR nd st = nd := by
  unfold fillR
  rw [show nd.map (onceB · st) = nd.map id from List.map_congr_left (fun y hy => once_plain (h y hy)), List.map_id]
theorem parse_asks (s : ByteArray) (l : List F) (goal : ByteArray) (hg : goal.size ≤ 1000) (hf : ∀ f ∈ l, f.1.size ≤ 1000) : Asks (parseR s).2 l (univ (parseR s).2 l goal) := by
  have hS := parse_shp s
  have hL := parse_lim s
  generalize (parseR s).2 = m at *
  refine ⟨univ_size hL hg hf, fun x _ hp r hr hx => fill_plain (shaped_plain (hS.shp r hr) hx hp) _, fun r hr x hfit => ?_, fun x g hp hg y hy => ?_⟩
  · unfold fitsB at hfit
    rw [Bool.and_eq_true] at hfit
    have h1 := hfit.1
    unfold stemR at h1
    split at h1
    · rename_i hc
      have hm := pat_iff.2 (cut_some_mem (s := (headT r.1).data.toList) hc.1)
      cases hi : inT m.phony (headT r.1) with
      | false => rfl
      | true =>
        rw [nameB_pat (hS.pho _ (inT_mem.1 hi))] at hm
        cases hm
    · cases h1
  · rcases grp_cases hg with ⟨r, hr, rfl, hx⟩ | ⟨_, r, hr, rfl, hfit⟩
    · exact shaped_plain (hS.shp r hr) hx hp y hy
    · have hy' : y ∈ fillR r.2.1 (stemR (headT r.1) x).1 := hy
      unfold fillR at hy'
      obtain ⟨z, hz, rfl⟩ := List.mem_map.1 hy'
      exact once_pat (shaped_word (hS.shp r hr) z (List.mem_append_right _ hz)) (stem_pat hp)
end Go.Proofs.Ytlkpbpecgdphaaa
namespace Go.Proofs.Ytlkpbpecgdphaaa
open Go.RowKit

/-- It reads as m, whatever becomes of the blocks in X. -/
def MkFar (w : World) (X : Nat → Prop) (m : Mk) (vv vr vp : Value) (R : List Row3) : Prop := ∀ W : World, w.heap.size ≤ W.heap.size → (∀ b, b < w.heap.size → ¬ X b → W.heap[b]? = w.heap[b]?) → MkRd W m vv vr vp R
section
variable {w w' W : World} {X : Nat → Prop} {m : Mk} {vv vr vp : Value} {R : List Row3}
theorem MkFar.rd (h : MkFar w X m vv vr vp R) : MkRd w m vv vr vp R := h w (Nat.le_refl _) (fun _ _ _ => rfl)
theorem MkFar.below (h : MkFar w X m vv vr vp R) (hb : Below w.heap.size w w') : MkFar w' X m vv vr vp R := fun W hs hk =>
  h W (Nat.le_trans hb.size hs) (fun b hlt hx => (hk b (Nat.lt_of_lt_of_le hlt hb.size) hx).trans (hb.block b hlt))
theorem RdF.heap {A : Option Addr} {n c : Nat} {l : List F} (h : RdF w w.heap.size A n c l) (hs : w.heap.size ≤ W.heap.size) (hk : ∀ b, b < w.heap.size → W.heap[b]? = w.heap[b]?) : RdF W W.heap.size A n c l :=
  (h.keep (fun _p hp => World.cell?_of_block (hk _ hp))).more hs
theorem RdS.heap {A : Option Addr} {n c : Nat} {l : List ByteArray} (h : RdS w w.heap.size A n c l) (hs : w.heap.size ≤ W.heap.size) (hk : ∀ b, b < w.heap.size → W.heap[b]? = w.heap[b]?) : RdS W W.heap.size A n c l :=
  (h.keep (fun _p hp => World.cell?_of_block (hk _ hp))).more hs
theorem RdR.heap {A : Option Addr} {n c : Nat} {R : List Row3} (h : RdR w w.heap.size A n c R) (hs : w.heap.size ≤ W.heap.size) (hk : ∀ b, b < w.heap.size → W.heap[b]? = w.heap[b]?) : RdR W W.heap.size A n c R :=
  ⟨h.1, h.2.1, h.2.2.1, fun hn => by
    obtain ⟨b, off, e, hbb, hc⟩ := h.2.2.2 hn
    exact ⟨b, off, e, Nat.lt_of_lt_of_le hbb hs, fun j u hu => (World.cell?_of_block (hk b hbb)).trans (hc j u hu)⟩⟩
theorem Sl.heap {v : Value} {l : List ByteArray} (h : Sl w v l) (hs : w.heap.size ≤ W.heap.size) (hk : ∀ b, b < w.heap.size → W.heap[b]? = w.heap[b]?) : Sl W v l := by
  obtain ⟨A, c, e, hr⟩ := h
  exact ⟨A, c, e, hr.heap hs hk⟩
theorem MkRd.far (h : MkRd w m vv vr vp R) : MkFar w (fun _ => False) m vv vr vp R := fun W hs hk => by
  have hk' : ∀ b, b < w.heap.size → W.heap[b]? = w.heap[b]? := fun b hb => hk b hb (fun h => h)
  obtain ⟨A, c, e, hr⟩ := h.vars
  obtain ⟨A2, c2, e2, hr2⟩ := h.rules
  exact ⟨⟨A, c, e, hr.heap hs hk'⟩, ⟨A2, c2, e2, hr2.heap hs hk'⟩, h.len, fun i x u hx hu => by obtain ⟨a, b, c⟩ := h.each i x u hx hu; exact ⟨a.heap hs hk', b.heap hs hk', c.heap hs hk'⟩, h.phony.heap hs hk'⟩
theorem own_far {B sz n : Nat} {e : TypeId} {v : Value} {xs : List Value} (h : w.ownsRow B e sz v n xs) (hk : ∀ b, B ≤ b → b < w.heap.size → W.heap[b]? = w.heap[b]?) : W.ownsRow B e sz v n xs := by
  rcases h with ⟨hl, h | ⟨g, cap, cur, e1, hb, hh, rest⟩⟩
  · exact ⟨hl, .inl h⟩
  · exact ⟨hl, .inr ⟨g, cap, cur, e1, hb, (hk g hb (Array.getElem?_eq_some_iff.1 hh).1).trans hh, rest⟩⟩
end
/-- A call has made one description out of another. -/
def LnPost (r : Nat × Mk) (m : Mk) (vv vr vp : Value) (R : List Row3) (w : World) (e : Ending) (w' : World) : Prop :=
  ∃ vv' vr' vp' R', e = .returned (.tuple #[.agg #[vv', vr', vp'], .int .i64 r.1]) ∧ Below w.heap.size w w' ∧ ∀ X : Nat → Prop, (∀ b, X b → b < w.heap.size) → MkFar w X m vv vr vp R → MkFar w' X r.2 vv' vr' vp' R'
theorem LnPost.same {r : Nat × Mk} {m : Mk} {vv vr vp : Value} {R : List Row3} {w w' : World} {k : Nat} (hr : r = (k, m)) (hb : Below w.heap.size w w') : LnPost r m vv vr vp R w (.returned (.tuple #[.agg #[vv, vr, vp], .int .i64 k])) w' :=
  ⟨vv, vr, vp, R, by rw [hr], hb, fun X _ h => by rw [hr]; exact h.below hb⟩
theorem MkRd.rule {W : World} {m : Mk} {vv vr vp v' v3 v4 : Value} {R : List Row3} {T N : List ByteArray} {B B3 B4 : Nat} (h : MkRd W m vv vr vp R) (ho : W.ownsRow B 81 3 v' (R.length + 1) (rcells R ++ [v3, v4, .slice none 0 0])) (h3 : Own1 W B3 v3 T) (h4 : Own1 W B4 v4 N) :
    MkRd W { m with rules := m.rules ++ [(T, N, [])] } vv v' vp (R ++ [(v3, v4, .slice none 0 0)]) := by
  have e : rcells (R ++ [(v3, v4, .slice none 0 0)]) = rcells R ++ [v3, v4, .slice none 0 0] := by rw [rcells_append]; rfl
  refine ⟨h.vars, RdR.of_own (by rw [e, List.length_append]; exact ho), by simp [h.len], fun i x u hx hu => ?_, h.phony⟩
  rcases Nat.lt_or_ge i R.length with hi | hi
  · rw [List.getElem?_append_left hi] at hx
    rw [List.getElem?_append_left (by rw [← h.len]; exact hi)] at hu
    exact h.each i x u hx hu
  · rw [List.getElem?_append_right hi] at hx
    rw [List.getElem?_append_right (by rw [← h.len]; exact hi)] at hu
    rw [← h.len] at hu
    cases hk : i - R.length with
    | zero =>
      rw [hk] at hx hu
      simp at hx hu
      subst hx
      subst hu
      exact ⟨Sl.own h3, Sl.own h4, ⟨none, 0, rfl, RdS.nil _ _⟩⟩
    | succ k => rw [hk] at hx; simp at hx
/-- One rule more, out of rows that the call has laid itself. -/
theorem LnPost.rule {m : Mk} {vv vr vp v' v3 v4 : Value} {R : List Row3} {T N : List ByteArray} {w w' : World} {B : Nat} {r : Nat × Mk} (hr : r = (0, { m with rules := m.rules ++ [(T, N, [])] })) (hB : w.heap.size ≤ B) (hb : Below w.heap.size w w')
    (ho : w'.ownsRow B 81 3 v' (R.length + 1) (rcells R ++ [v3, v4, .slice none 0 0])) (h3 : Own1 w' B v3 T) (h4 : Own1 w' B v4 N) : LnPost r m vv vr vp R w (.returned (.tuple #[.agg #[vv, v', vp], .int .i64 0])) w' :=
  ⟨vv, v', vp, _, by rw [hr]; rfl, hb, fun X hX h W hs hk => by
    have hk' : ∀ b, B ≤ b → b < w'.heap.size → W.heap[b]? = w'.heap[b]? := fun b h1 h2 => hk b h2 (fun hx => by have := hX b hx; omega)
    rw [hr]
    exact (h.below hb W hs hk).rule (own_far ho hk') (own_far h3 hk') (own_far h4 hk')⟩
end Go.Proofs.Ytlkpbpecgdphaaa
namespace Go.Proofs.Ytlkpbpecgdphaaa
open Go

structure Few (m : Mk) : Prop where
  vars : m.vars.length ≤ 6
  rules : m.rules.length ≤ 10
  one : ∀ r ∈ m.rules, 1 ≤ r.1.length
  apart : ∀ r ∈ m.rules, ∀ i x, r.1[i]? = some x → inT (r.1.take i) x = false
theorem few0 : Few mk0 := ⟨by simp [mk0], by simp [mk0], by simp [mk0], by simp [mk0]⟩
theorem moreCmd_T (l : List Ru) (c : ByteArray) : ∀ r ∈ moreCmd l c, ∃ q ∈ l, r.1 = q.1 := by
  fun_induction moreCmd l c with
  | case1 => simp
  | case2 r c => intro x hx; simp at hx; subst hx; exact ⟨r, by simp, rfl⟩
  | case3 r s l c ih =>
    intro x hx
    rcases List.mem_cons.1 hx with rfl | hx
    · exact ⟨x, by simp, rfl⟩
    · obtain ⟨q, hq, e⟩ := ih x hx
      exact ⟨q, List.mem_cons_of_mem _ hq, e⟩
theorem shaped_apart {T N : List ByteArray} (h : shapedR T N = true) (i : Nat) (x : ByteArray) (hx : T[i]? = some x) : inT (T.take i) x = false := by
  unfold shapedR at h
  rw [Bool.and_eq_true, List.all_eq_true] at h
  have hi : i < T.length := (List.getElem?_eq_some_iff.1 hx).1
  have h2 := h.2 i (by simp; omega)
  rw [List.getElem?_append_left hi, hx] at h2
  unfold wordOk at h2
  rw [List.take_append_of_le_length (by omega)] at h2
  simp at h2
  exact h2.1.2
theorem Few.line {m : Mk} (h : Few m) (s : ByteArray) : Few (lineR m s).2 := by
  unfold lineR
  split
  · exact h
  · split
    · unfold cmdR
      split
      · exact h
      · split
        · exact h
        · split
          · exact h
          · refine ⟨h.vars, by simp only [moreCmd_len]; exact h.rules, fun r hr => ?_, fun r hr => ?_⟩
            · obtain ⟨q, hq, e⟩ := moreCmd_T _ _ r hr
              rw [e]; exact h.one q hq
            · obtain ⟨q, hq, e⟩ := moreCmd_T _ _ r hr
              rw [e]; exact h.apart q hq
    · split
      · unfold phonyR
        split
        · exact h
        · exact ⟨h.vars, h.rules, h.one, h.apart⟩
      · split
        · unfold varR
          split
          · exact h
          · split
            · exact h
            · exact ⟨by simp; omega, h.rules, h.one, h.apart⟩
        · unfold ruleR
          split
          · exact h
          · unfold headR
            split
            · exact h
            · split
              · exact h
              · split
                · exact h
                · rename_i h1 h2 h3
                  refine ⟨h.vars, by simp; omega, fun r hr => ?_, fun r hr => ?_⟩
                  · rcases List.mem_append.1 hr with hr | hr
                    · exact h.one r hr
                    · simp at hr
                      subst hr
                      show 1 ≤ (wordsR _).length
                      omega
                  · rcases List.mem_append.1 hr with hr | hr
                    · exact h.apart r hr
                    · simp at hr
                      subst hr
                      exact shaped_apart (by simpa using h3)
/-- What is left of the check behind some rules. -/
def chk (phony made : List ByteArray) (l : List Ru) : Bool := (checkGo phony made l).1 && phony.all fun n => inT (checkGo phony made l).2 n
theorem chk_all (m : Mk) : checkR m = chk m.phony [] m.rules := rfl
theorem chk_yes {phony made : List ByteArray} {r : Ru} {l : List Ru} (h : agreesR phony made r = true) : chk phony made (r :: l) = chk phony (made ++ r.1) l := by unfold chk; rw [checkGo, if_pos h]
theorem chk_no {phony made : List ByteArray} {r : Ru} {l : List Ru} (h : agreesR phony made r = false) : chk phony made (r :: l) = false := by unfold chk; rw [checkGo, if_neg (by rw [h]; simp)]; rfl
theorem chk_end (phony made : List ByteArray) : chk phony made [] = phony.all fun n => inT made n := by unfold chk; rw [checkGo]; simp
end Go.Proofs.Ytlkpbpecgdphaaa
