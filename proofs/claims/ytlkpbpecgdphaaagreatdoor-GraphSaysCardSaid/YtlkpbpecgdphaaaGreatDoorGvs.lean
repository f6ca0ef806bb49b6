/-
  WALK: hammerpondref.SameGroups of two slices that read as the same groups.
-/
import Derived.Test.YtlkpbpecgdphaaaGreatDoorGt
import Derived.Test.YtlkpbpecgdphaaaGreatDoorName
import Derived.Test.YtlkpbpecgdphaaaGreatDoorGvd
import Derived.Test.YtlkpbpecgdphaaaGreatDoorAppAny
import Derived.BigQuiet
namespace Go.Proofs.YtlkpbpecgdphaaaGreatDoor
open Go.RowKit

/-- What graph.Of gives: an error's number, and groups if it is 0. -/
def graphR (m : Mk) (l : List F) (goal : ByteArray) : Nat × List Gp :=
  if nameB goal = true then (if (visitR m l ((univ m l goal).length + 1) goal [] []).1 = 0 then visitR m l ((univ m l goal).length + 1) goal [] [] else ((visitR m l ((univ m l goal).length + 1) goal [] []).1, [])) else (3, [])
/-- Groups in a slice of one's own. -/
structure GpS (w : World) (A : Option Addr) (n c : Nat) (out : List Gp) : Prop where
  ex : ∃ R4, GpRd w A n c out R4
theorem GpRd.nil (w : World) : GpRd w none 0 0 [] [] := ⟨⟨rfl, Nat.le_refl _, Nat.zero_le _, fun h => by omega⟩, rfl, fun i x g h => by simp at h⟩
def OfPost (m : Mk) (l : List F) (goal : ByteArray) (w : World) (e : Ending) (w' : World) : Prop :=
  ∃ A c R4, e = .returned (.tuple #[.slice A (graphR m l goal).2.length c, errV (graphR m l goal).1]) ∧ GpRd w' A (graphR m l goal).2.length c (graphR m l goal).2 R4 ∧ Below w.heap.size w w'
theorem univ_len {m : Mk} {l : List F} {goal : ByteArray} (hL : Lim m) (hl : l.length ≤ 10000) : (univ m l goal).length ≤ 30001 := by
  unfold univ
  have key : ∀ rs : List Ru, (∀ r ∈ rs, r.1.length ≤ 10 ∧ r.2.1.length ≤ 10) → (rs.flatMap (fun r => r.1 ++ r.2.1)).length ≤ rs.length * 20 := by
    intro rs
    induction rs with
    | nil => simp
    | cons r rs ih =>
      intro h
      have h1 := h r (by simp)
      have h2 := ih (fun r hr => h r (by simp [hr]))
      rw [List.flatMap_cons, List.length_append, List.length_append, List.length_cons]
      omega
  have h1 := key m.rules (fun r hr => ⟨hL.tgs r hr, hL.nds r hr⟩)
  have h2 := hL.rules
  rw [List.length_cons, List.length_append, List.length_map]
  omega
theorem univ_size {m : Mk} {l : List F} {goal : ByteArray} (hL : Lim m) (hg : goal.size ≤ 1000) (hf : ∀ f ∈ l, f.1.size ≤ 1000) : ∀ x ∈ univ m l goal, x.size ≤ 1000 := by
  intro x hx
  unfold univ at hx
  rcases List.mem_cons.1 hx with rfl | hx
  · exact hg
  rcases List.mem_append.1 hx with hx | hx
  · obtain ⟨f, hfm, rfl⟩ := List.mem_map.1 hx
    exact hf f hfm
  · obtain ⟨r, hr, hx⟩ := List.mem_flatMap.1 hx
    rcases List.mem_append.1 hx with hx | hx
    · exact hL.tsz r hr x hx
    · exact hL.nsz r hr x hx
set_option maxRecDepth 100000 in
set_option maxHeartbeats 4000000 in
theorem of_any (m : Mk) (l : List F) (goal : ByteArray) (vv vr vp : Value) (R : List Row3) (Af : Option Addr) (cf : Nat) (w : World) (h : MkRd w m vv vr vp R) (hf : RdF w w.heap.size Af l.length cf l) (hL : Lim m) (hu : UniqT m) (hs : Rises l) (hl : l.length ≤ 10000) (hg : goal.size ≤ 1000) (hfs : ∀ f ∈ l, f.1.size ≤ 1000) (hm : MaxOk w) :
    Calls Tryz.prog 11 #[.agg #[vv, vr, vp], .slice Af l.length cf, .string goal] w (OfPost m l goal w) := by
  have hmm := @run_makeMap Tryz.prog
  have hb0 : Below w.heap.size w (w.alloc (.cells #[vv, vr, vp] 29)) := (Below.refl _ _).alloc (Nat.le_refl _) _
  have p0 := Blk.new w 29 #[vv, vr, vp]
  have hM := h.belowS hb0
  have HMR := Lib.hid (show MRd (w.alloc (.cells #[vv, vr, vp] 29)) m l vr vp (.slice Af l.length cf) R from ⟨hM.rules, hM.len, hM.each, hM.phony, ⟨_, _, rfl, hf.belowS hb0⟩, hm.below hb0⟩)
  obtain ⟨Ar, cr, hvr, -⟩ := hM.rules
  obtain ⟨Ap, cp, hvp, -⟩ := hM.phony
  subst hvr hvp
  have HB0 := Lib.hid hb0
  have P0 := Lib.hid p0
  have HL := Lib.hid hL
  have HU := Lib.hid hu
  have HS := Lib.hid hs
  have HFS := Lib.hid hfs
  have q1 : (w.alloc (.cells #[vv, .slice Ar R.length cr, .slice Ap m.phony.length cp] 29)).cell? ⟨w.heap.size, 1, none⟩ = some (.slice Ar R.length cr) := p0.cell 1
  have q2 : (w.alloc (.cells #[vv, .slice Ar R.length cr, .slice Ap m.phony.length cp] 29)).cell? ⟨w.heap.size, 2, none⟩ = some (.slice Ap m.phony.length cp) := p0.cell 2
  obtain ⟨gr, hgr⟩ : ∃ gr, gr = graphR m l goal := ⟨_, rfl⟩
  have HGR := Lib.hid hgr
  have HPOST := Lib.hid (show ∀ e w', (∃ A c R4, e = .returned (.tuple #[.slice A gr.2.length c, errV gr.1]) ∧ GpRd w' A gr.2.length c gr.2 R4 ∧ Below w.heap.size w w') → OfPost m l goal w e w' from fun e w' h => by rw [hgr] at h; exact h)
  clear h hf hL hu hs hfs hm hb0 p0 hM hgr
  cases hnb : nameB goal with
  | false =>
    have hgr := HGR.out
    unfold graphR at hgr
    rw [if_neg (by rw [hnb]; simp)] at hgr
    subst hgr
    have HC := Lib.hid (name_any goal (w.alloc (.cells #[vv, .slice Ar R.length cr, .slice Ap m.phony.length cp] 29)) (by omega))
    rw [hnb] at HC
    go_enter Tryz.func11, Tryz.ntmps11
    go_wp2_with fail
    refine HC.out.mono ?_
    rintro e w1 ⟨rfl, rfl⟩
    go_wp2
    go_ret2
    exact HPOST.out _ _ ⟨none, 0, [], rfl, GpRd.nil _, HB0.out⟩
  | true =>
    have hgr := HGR.out
    unfold graphR at hgr
    rw [if_pos hnb] at hgr
    have HC := Lib.hid (name_any goal (w.alloc (.cells #[vv, .slice Ar R.length cr, .slice Ap m.phony.length cp] 29)) (by omega))
    rw [hnb] at HC
    have HGR2 := Lib.hid hgr
    clear hgr hnb
    go_enter Tryz.func11, Tryz.ntmps11
    go_wp2_with fail
    generalize w.alloc (.cells #[vv, .slice Ar R.length cr, .slice Ap m.phony.length cp] 29) = w1 at *
    refine HC.out.mono ?_
    rintro e w1' ⟨rfl, rfl⟩
    have e1 : (w1.alloc (.map #[] 0)).heap.size = w1.heap.size + 1 := by simp
    have bA : Below w1.heap.size w1 ((w1.alloc (.map #[] 0)).alloc (.cells #[.slice Ar R.length cr, .slice Ap m.phony.length cp, .slice Af l.length cf, .map (some w1.heap.size), .slice none 0 0] tWk)) := ((Below.refl _ w1).alloc (Nat.le_refl _) _).alloc (by simp) _
    have pk : Blk ((w1.alloc (.map #[] 0)).alloc (.cells #[.slice Ar R.length cr, .slice Ap m.phony.length cp, .slice Af l.length cf, .map (some w1.heap.size), .slice none 0 0] tWk)) (w1.heap.size + 1) tWk #[.slice Ar R.length cr, .slice Ap m.phony.length cp, .slice Af l.length cf, .map (some w1.heap.size), .slice none 0 0] := by
      have := Blk.new (w1.alloc (.map #[] 0)) tWk #[.slice Ar R.length cr, .slice Ap m.phony.length cp, .slice Af l.length cf, .map (some w1.heap.size), .slice none 0 0]
      rwa [e1] at this
    have hset : SetOk ((w1.alloc (.map #[] 0)).alloc (.cells #[.slice Ar R.length cr, .slice Ap m.phony.length cp, .slice Af l.length cf, .map (some w1.heap.size), .slice none 0 0] tWk)) w1.heap.size 0 [] := (SetOk.made w1).below ((Below.refl _ _).alloc (Nat.le_refl _) _)
    have hwk : Wk w1 ((w1.alloc (.map #[] 0)).alloc (.cells #[.slice Ar R.length cr, .slice Ap m.phony.length cp, .slice Af l.length cf, .map (some w1.heap.size), .slice none 0 0] tWk)) (w1.heap.size + 1) w1.heap.size (.slice Ar R.length cr) (.slice Ap m.phony.length cp) (.slice Af l.length cf) (.slice none 0 0) (10 * ([] : List Gp).length + 0) [] [] [] :=
      ⟨bA, pk, by omega, Nat.le_refl _, ⟨0, Nat.le_refl _, hset⟩, World.ownsRow_nil _ _ _ _, rfl, fun i x g hx => by simp at hx⟩
    have hul := univ_len (m := m) (l := l) (goal := goal) HL.out hl
    have hvis := visit_any w1 (w1.heap.size + 1) w1.heap.size m l goal _ _ _ R HMR.out HL.out HU.out HS.out (by omega) (univ_size HL.out hg HFS.out) ((univ m l goal).length + 1) goal [] [] 0 _ [] _ (by unfold univ; simp) (Nat.lt_succ_of_le (List.length_filter_le _ _)) way_nil (by omega) ⟨by simp, by simp⟩ hwk
    have HVI := Lib.hid hvis
    have HWK := Lib.hid hwk
    clear bA pk hset hwk hvis
    go_wp2_with fail
    generalize (w1.alloc (.map #[] 0)).alloc (.cells #[.slice Ar R.length cr, .slice Ap m.phony.length cp, .slice Af l.length cf, .map (some w1.heap.size), .slice none 0 0] tWk) = w2 at *
    refine HVI.out.mono ?_
    rintro e w3 ⟨rfl, hbl, hok⟩
    revert HGR2 hok
    generalize visitR m l ((univ m l goal).length + 1) goal [] [] = q
    intro HGR2 hok
    by_cases h0 : q.1 = 0
    · obtain ⟨vg, R4, hwk3, hfv, hnv⟩ := hok h0
      have hgr := HGR2.out
      rw [if_pos h0] at hgr
      subst hgr
      have he : errV (gr.1 : Int) = .nilIface := by rw [h0]; rfl
      rw [he]
      obtain ⟨A, c, hv, hrd⟩ := hwk3.rd4
      subst hv
      have d4 : w3.cell? ⟨w1.heap.size + 1, 4, none⟩ = some (.slice A gr.2.length c) := hwk3.blk.cell 4
      have HX := Lib.hid (HPOST.out (.returned (.tuple #[.slice A gr.2.length c, errV gr.1])) w3 ⟨A, c, R4, rfl, hrd, HB0.out.trans (hbl.mono HB0.out.size)⟩)
      rw [he] at HX
      clear hok hwk3 hfv hnv hbl hrd HGR
      go_wp2
      go_ret2
      exact HX.out
    · have hgr := HGR2.out
      rw [if_neg h0] at hgr
      have he : errV (q.1 : Int) = .iface 80 (.int .i64 (q.1 : Int)) := by unfold errV; rw [if_neg (by omega)]
      have hx := HPOST.out (.returned (.tuple #[.slice none 0 0, errV q.1])) w3 (by rw [hgr]; exact ⟨none, 0, [], rfl, GpRd.nil _, HB0.out.trans (hbl.mono HB0.out.size)⟩)
      rw [he] at hx ⊢
      have HX := Lib.hid hx
      clear hok hbl hgr hx HGR
      go_wp2
      go_ret2
      exact HX.out
end Go.Proofs.YtlkpbpecgdphaaaGreatDoor
namespace Go.Proofs.YtlkpbpecgdphaaaGreatDoor
open Go.RowKit

def GoPost (m : Mk) (l : List F) (goal : ByteArray) (w : World) (e : Ending) (w' : World) : Prop :=
  ∃ A c R4, e = .returned (.tuple #[.slice A (graphR m l goal).2.length c, .int .i64 (graphR m l goal).1]) ∧ GpRd w' A (graphR m l goal).2.length c (graphR m l goal).2 R4 ∧ Below w.heap.size w w'
theorem nameB_pat {x : ByteArray} (h : nameB x = true) : patB x = false := by
  unfold patB
  rw [decide_eq_false_iff_not]
  intro hm
  obtain ⟨k, hk, e⟩ := List.mem_iff_getElem.1 hm
  have hk' : k < x.size := by simpa using hk
  have e' : x[k] = 37 := by
    have : x[k] = x.data.toList[k] := rfl
    rw [this, e]
  have hb : chB k (x[k].toNat : Int) = false := by
    rw [e']
    unfold chB letB digB
    have : ((37 : UInt8).toNat : Int) = 37 := rfl
    rw [this]
    simp
  rw [nameB_bad hk' hb] at h
  cases h
set_option maxRecDepth 100000 in
set_option maxHeartbeats 4000000 in
theorem groupsOf_any (m : Mk) (l : List F) (goal : ByteArray) (vv vr vp : Value) (R : List Row3) (Af : Option Addr) (cf : Nat) (w : World) (h : MkRd w m vv vr vp R) (hf : RdF w w.heap.size Af l.length cf l) (hL : Lim m) (hA : Asks m l (univ m l goal)) (hl : l.length ≤ 10000) (hg : goal.size ≤ 1000) :
    Calls Tryz.prog 12 #[.agg #[vv, vr, vp], .slice Af l.length cf, .string goal] w (GoPost m l goal w) := by
  have hb0 : Below w.heap.size w (w.alloc (.cells #[vv, vr, vp] tMa)) := (Below.refl _ _).alloc (Nat.le_refl _) _
  have p0 := Blk.new w tMa #[vv, vr, vp]
  have hM := h.belowS hb0
  obtain ⟨Av, cv, hvv, -⟩ := hM.vars
  obtain ⟨Ar, cr, hvr, -⟩ := hM.rules
  obtain ⟨Ap, cp, hvp, -⟩ := hM.phony
  subst hvv hvr hvp
  have HB0 := Lib.hid hb0
  have HM := Lib.hid hM
  have HF := Lib.hid (RdF.belowS hf hb0)
  have HL := Lib.hid hL
  have HA := Lib.hid hA
  have q0 := p0.cell 0
  have q1 := p0.cell 1
  have q2 := p0.cell 2
  obtain ⟨gr, hgr⟩ : ∃ gr, gr = graphR m l goal := ⟨_, rfl⟩
  have HGR := Lib.hid hgr
  have HPOST := Lib.hid (show ∀ e w', (∃ A c R4, e = .returned (.tuple #[.slice A gr.2.length c, .int .i64 gr.1]) ∧ GpRd w' A gr.2.length c gr.2 R4 ∧ Below w.heap.size w w') → GoPost m l goal w e w' from fun e w' h => by rw [hgr] at h; exact h)
  have HC := Lib.hid (nameMay_any goal (w.alloc (.cells #[.slice Av m.vars.length cv, .slice Ar R.length cr, .slice Ap m.phony.length cp] tMa)) (by omega))
  clear h hf hL hA hb0 p0 hM hgr
  cases hnb : nameB goal with
  | false =>
    have hgr := HGR.out
    unfold graphR at hgr
    rw [if_neg (by rw [hnb]; simp)] at hgr
    subst hgr
    rw [hnb] at HC
    go_enter Tryz.func12, Tryz.ntmps12
    go_wp2_with fail
    refine HC.out.mono ?_
    rintro e w1 ⟨rfl, rfl⟩
    go_wp2
    go_ret2
    exact HPOST.out _ _ ⟨none, 0, [], rfl, GpRd.nil _, HB0.out⟩
  | true =>
    have hgr := HGR.out
    unfold graphR at hgr
    rw [if_pos hnb] at hgr
    rw [hnb] at HC
    have HGR2 := Lib.hid hgr
    have hul := univ_len (m := m) (l := l) (goal := goal) HL.out hl
    have HVI := Lib.hid (refVisit_any m l goal HL.out (by omega) HA.out ((univ m l goal).length + 1) goal [] [] _ _ _ R Af none none cf 0 0 0 [] _ (by unfold univ; simp) (nameB_pat hnb) (Nat.lt_succ_of_le (List.length_filter_le _ _)) (by omega) ⟨by simp, by simp⟩ HM.out HF.out (RdS.nil _ _) (GpRd.nil _))
    clear hgr hnb
    go_enter Tryz.func12, Tryz.ntmps12
    go_wp2_with fail
    generalize w.alloc (.cells #[.slice Av m.vars.length cv, .slice Ar R.length cr, .slice Ap m.phony.length cp] tMa) = w1 at *
    refine HC.out.mono ?_
    rintro e w1' ⟨rfl, hw1⟩
    subst hw1
    go_wp2_with fail
    refine HVI.out.mono ?_
    rintro e w3 ⟨A, n3, c, rfl, hok, hbl⟩
    revert HGR2 hok
    generalize visitR m l ((univ m l goal).length + 1) goal [] [] = q
    intro HGR2 hok
    by_cases h0 : q.1 = 0
    · obtain ⟨hn3, R4, hrd⟩ := hok h0
      subst hn3
      have hgr := HGR2.out
      rw [if_pos h0] at hgr
      subst hgr
      have j1 : decide ((0 : Int) < (gr.1 : Int)) = false := decide_eq_false (by omega)
      have HX := Lib.hid (HPOST.out (.returned (.tuple #[.slice A gr.2.length c, .int .i64 0])) w3 ⟨A, c, R4, by rw [h0]; rfl, hrd, HB0.out.trans (hbl.mono HB0.out.size)⟩)
      clear hok hbl hrd HGR
      go_wp2
      go_ret2
      exact HX.out
    · have hgr := HGR2.out
      rw [if_neg h0] at hgr
      have j1 : (0 : Int) < (q.1 : Int) := by omega
      have HX := Lib.hid (HPOST.out (.returned (.tuple #[.slice none 0 0, .int .i64 q.1])) w3 (by rw [hgr]; exact ⟨none, 0, [], rfl, GpRd.nil _, HB0.out.trans (hbl.mono HB0.out.size)⟩))
      clear hok hbl hgr HGR h0
      go_wp2
      go_ret2
      exact HX.out
end Go.Proofs.YtlkpbpecgdphaaaGreatDoor
namespace Go.Proofs.YtlkpbpecgdphaaaGreatDoor
open Go.RowKit

def SgRel (w : World) (n : Nat) (i : Value) (wr : World) : Prop := ∃ k : Nat, k ≤ n ∧ i = .int .i64 k ∧ Below w.heap.size w wr
set_option maxRecDepth 100000 in
set_option maxHeartbeats 8000000 in
theorem sameGroups_any (A A' : Option Addr) (n c c' : Nat) (out : List Gp) (R R' : List Row4) (w : World) (h : GpRd w A n c out R) (h' : GpRd w A' n c' out R') (hn : n ≤ 1000) (hs : ∀ g ∈ out, g.tg.length ≤ 1000 ∧ g.nd.length ≤ 1000 ∧ g.cm.length ≤ 1000) :
    Calls Tryz.prog 14 #[.slice A n c, .slice A' n c'] w fun e w' => e = .returned (.bool true) ∧ Below w.heap.size w w' := by
  have HH := Lib.hid h
  have HH' := Lib.hid h'
  have HSZ := Lib.hid hs
  clear h h' hs
  go_enter Tryz.func14, Tryz.ntmps14
  go_wp2
  go_loopw [5] (fun i wr => SgRel w n i wr) (fun i _ => n - (intOf i).toNat)
  case atStart => exact ⟨0, Nat.zero_le _, rfl, Below.refl _ _⟩
  case round =>
    obtain ⟨k, hk, rfl, hb⟩ := hrel
    have HB := Lib.hid hb
    by_cases hlt : k < n
    · have hkz : (k : Int) < (n : Int) := by omega
      have hk0 : (0 : Int) ≤ (k : Int) := by omega
      have h1 := HH.out.belowS hb
      have h2 := HH'.out.belowS hb
      obtain ⟨x, hx⟩ : ∃ x, R[k]? = some x := ⟨_, List.getElem?_eq_getElem (by rw [h1.rows.1]; exact hlt)⟩
      obtain ⟨y, hy⟩ : ∃ y, R'[k]? = some y := ⟨_, List.getElem?_eq_getElem (by rw [h2.rows.1]; exact hlt)⟩
      obtain ⟨g, hg⟩ : ∃ g, out[k]? = some g := ⟨_, List.getElem?_eq_getElem (by rw [h1.len]; exact hlt)⟩
      obtain ⟨b1, o1, rfl, hb1, c0, c1, c2, c3⟩ := h1.rows.at_ hx
      obtain ⟨b2, o2, rfl, hb2, d0, d1, d2, d3⟩ := h2.rows.at_ hy
      obtain ⟨⟨A0, k0, e0, r0⟩, ⟨A1, k1, e1, r1⟩, ⟨A2, k2, e2, r2⟩, e3⟩ := h1.each k x g hx hg
      obtain ⟨⟨B0, j0, f0, s0⟩, ⟨B1, j1, f1, s1⟩, ⟨B2, j2, f2, s2⟩, f3⟩ := h2.each k y g hy hg
      rw [e0] at c0
      rw [e1] at c1
      rw [e2] at c2
      rw [e3] at c3
      rw [f0] at d0
      rw [f1] at d1
      rw [f2] at d2
      rw [f3] at d3
      have hgs := HSZ.out g (List.mem_of_getElem? hg)
      have T0 := Lib.hid (fun (W : World) (hb : Below wr.heap.size wr W) (q : Nat) => (sameTexts_any A0 B0 g.tg.length k0 j0 g.tg (W.drewN q) ((r0.belowS hb).belowS (below_drews W q)) ((s0.belowS hb).belowS (below_drews W q))).mono (fun e w' h => (⟨h.1, h.2⟩ : e = .returned (.bool true) ∧ ∃ m, w' = (W.drewN q).drewN m)))
      have T1 := Lib.hid (fun (W : World) (hb : Below wr.heap.size wr W) (q : Nat) => (sameTexts_any A1 B1 g.nd.length k1 j1 g.nd (W.drewN q) ((r1.belowS hb).belowS (below_drews W q)) ((s1.belowS hb).belowS (below_drews W q))).mono (fun e w' h => (⟨h.1, h.2⟩ : e = .returned (.bool true) ∧ ∃ m, w' = (W.drewN q).drewN m)))
      have T2 := Lib.hid (fun (W : World) (hb : Below wr.heap.size wr W) (q : Nat) => (sameTexts_any A2 B2 g.cm.length k2 j2 g.cm (W.drewN q) ((r2.belowS hb).belowS (below_drews W q)) ((s2.belowS hb).belowS (below_drews W q))).mono (fun e w' h => (⟨h.1, h.2⟩ : e = .returned (.bool true) ∧ ∃ m, w' = (W.drewN q).drewN m)))
      have HC := Lib.hid (fun (W : World) (hb : Below wr.heap.size wr W) => show W.cell? ⟨b1, o1 + k * 4, none⟩ = some (.slice A0 g.tg.length k0) ∧ W.cell? ⟨b1, o1 + k * 4 + 1, none⟩ = some (.slice A1 g.nd.length k1) ∧ W.cell? ⟨b1, o1 + k * 4 + 2, none⟩ = some (.slice A2 g.cm.length k2) ∧ W.cell? ⟨b1, o1 + k * 4 + 3, none⟩ = some (.bool g.ph) ∧ W.cell? ⟨b2, o2 + k * 4, none⟩ = some (.slice B0 g.tg.length j0) ∧ W.cell? ⟨b2, o2 + k * 4 + 1, none⟩ = some (.slice B1 g.nd.length j1) ∧ W.cell? ⟨b2, o2 + k * 4 + 2, none⟩ = some (.slice B2 g.cm.length j2) ∧ W.cell? ⟨b2, o2 + k * 4 + 3, none⟩ = some (.bool g.ph) from by
        exact ⟨(hb.cell (p := ⟨b1, _, none⟩) hb1).trans c0, (hb.cell (p := ⟨b1, _, none⟩) hb1).trans c1, (hb.cell (p := ⟨b1, _, none⟩) hb1).trans c2, (hb.cell (p := ⟨b1, _, none⟩) hb1).trans c3, (hb.cell (p := ⟨b2, _, none⟩) hb2).trans d0, (hb.cell (p := ⟨b2, _, none⟩) hb2).trans d1, (hb.cell (p := ⟨b2, _, none⟩) hb2).trans d2, (hb.cell (p := ⟨b2, _, none⟩) hb2).trans d3⟩)
      clear h1 h2 hx hy hg e0 e1 e2 e3 f0 f1 f2 f3 r0 r1 r2 s0 s1 s2 hb
      go_wp2_with fail
      go_quiet (first | (go_at_call 22; exact Calls.quiet_of (T0.out _ (Below.refl _ _) _)))
      have hb5 : Below wr.heap.size wr (wr.drewN nq) := below_drews wr nq
      obtain ⟨c0, c1, c2, c3, d0, d1, d2, d3⟩ := HC.out _ hb5
      generalize wr.drewN nq = w5 at *
      have K5 := Lib.hid hb5
      clear hb5
      clear T0
      go_wp2_with fail
      go_quiet (first | (go_at_call 22; exact Calls.quiet_of (T1.out _ K5.out _)))
      have hb6 : Below wr.heap.size wr (w5.drewN nq) := K5.out.trans ((below_drews _ nq).mono K5.out.size)
      obtain ⟨c0, c1, c2, c3, d0, d1, d2, d3⟩ := HC.out _ hb6
      generalize w5.drewN nq = w6 at *
      have K6 := Lib.hid hb6
      clear hb6
      go_wp2_with fail
      go_quiet (first | (go_at_call 22; exact Calls.quiet_of (T2.out _ K6.out _)))
      have hb7 : Below wr.heap.size wr (w6.drewN nq) := K6.out.trans ((below_drews _ nq).mono K6.out.size)
      obtain ⟨c0, c1, c2, c3, d0, d1, d2, d3⟩ := HC.out _ hb7
      generalize w6.drewN nq = w7 at *
      have K7 := Lib.hid hb7
      clear hb7
      go_wp2_with fail
      have hbb : (g.ph != g.ph) = false := by simp
      go_quiet (fail)
      go_wp2
      go_roundw
      case rel => exact ⟨k + 1, by omega, by go_num, HB.out.trans ((K7.out.trans ((below_drews _ _).mono K7.out.size)).mono HB.out.size)⟩
      case measure => simp [intOf]; omega
    · obtain rfl : k = n := by omega
      clear hb
      go_wp2
      go_ret
      exact ⟨rfl, HB.out⟩
end Go.Proofs.YtlkpbpecgdphaaaGreatDoor
