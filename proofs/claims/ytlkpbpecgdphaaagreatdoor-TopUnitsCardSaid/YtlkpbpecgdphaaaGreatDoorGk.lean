/-
  WALK: (*graph.walk).group: the group of a name, if it has one.
-/
import Derived.Test.YtlkpbpecgdphaaaGreatDoorGj
import Derived.Test.YtlkpbpecgdphaaaGreatDoorGg
import Derived.Test.YtlkpbpecgdphaaaGreatDoorGb
namespace Go.Proofs.YtlkpbpecgdphaaaGreatDoor
open Go.RowKit

abbrev zeroG : Array Value := #[.slice none 0 0, .slice none 0 0, .slice none 0 0, .bool false]
def GrPost (m : Mk) (l : List F) (name : ByteArray) (w : World) (e : Ending) (w' : World) : Prop :=
  ∃ a b c ph, e = .returned (.tuple #[.agg #[a, b, c, .bool ph], .bool (grpR m l name).isSome]) ∧ (∀ g, grpR m l name = some g → GpOwn w' w.heap.size (.agg #[a, b, c, .bool ph]) g) ∧ Below w.heap.size w w' ∧ (∃ A n k, a = .slice A n k) ∧ (∃ A n k, b = .slice A n k) ∧ ∃ A n k, c = .slice A n k
theorem gr_boxes (w : World) (pw : Nat) (name : ByteArray) : ∃ W, W = ((w.alloc (.cells #[ptr pw] tPw)).alloc (.cells #[.string name] tStr)).alloc (.cells zeroG tGr) ∧ Below w.heap.size w W ∧ Blk W w.heap.size tPw #[ptr pw] ∧ Blk W (w.heap.size + 1) tStr #[.string name] ∧ Blk W (w.heap.size + 2) tGr zeroG ∧ W.heap.size = w.heap.size + 3 := by
  have e1 : (w.alloc (.cells #[ptr pw] tPw)).heap.size = w.heap.size + 1 := by simp
  have e2 : ((w.alloc (.cells #[ptr pw] tPw)).alloc (.cells #[.string name] tStr)).heap.size = w.heap.size + 2 := by simp
  refine ⟨_, rfl, (((Below.refl _ w).alloc (Nat.le_refl _) _).alloc (by simp) _).alloc (by simp; omega) _, ((Blk.new w tPw _).alloc _).alloc _, ?_, ?_, by simp⟩
  · have := (Blk.new (w.alloc (.cells #[ptr pw] tPw)) tStr #[.string name]).alloc (.cells zeroG tGr)
    rwa [e1] at this
  · have := Blk.new ((w.alloc (.cells #[ptr pw] tPw)).alloc (.cells #[.string name] tStr)) tGr zeroG
    rwa [e2] at this
set_option maxRecDepth 100000 in
set_option maxHeartbeats 8000000 in
theorem group_exp (pw : Nat) (m : Mk) (l : List F) (vr vp vf vm vg : Value) (R : List Row3) (name : ByteArray) (w : World) (h : WkRd w pw m l vr vp vf vm vg R) (hL : Lim m) (k : Nat) (he : explO m.rules name = some k) :
    Calls Tryz.prog 67 #[ptr pw, .string name] w (GrPost m l name w) := by
  obtain ⟨g, hg⟩ : ∃ g, m.rules[k]? = some g := by
    unfold explO at he
    obtain ⟨hi, _, _⟩ := List.findIdx?_eq_some_iff_getElem.1 he
    exact ⟨_, List.getElem?_eq_getElem hi⟩
  have hgr : grpR m l name = some (expG m g) := by unfold grpR; rw [he]; dsimp only; rw [hg]; rfl
  have hgm := List.mem_of_getElem? hg
  obtain ⟨W, hW, hbw, hpX, hpY, hpZ, hWs⟩ := gr_boxes w pw name
  have HRF := Lib.hid (ruleFor_any pw m l vr vp vf vm vg R name W (h.belowS hbw) hL.rules (fun r hr => Nat.le_trans (hL.tgs r hr) (by omega)))
  have HH := Lib.hid (h.belowS hbw)
  have HBW := Lib.hid hbw
  have PX := Lib.hid hpX
  have PY := Lib.hid hpY
  have PZ := Lib.hid hpZ
  have WS := Lib.hid hWs
  have HW := Lib.hid hW
  have HG := Lib.hid hg
  have HL := Lib.hid hL
  have HGR := Lib.hid hgr
  have x0 : W.cell? ⟨w.heap.size, 0, none⟩ = some (ptr pw) := hpX.cell 0
  have y0 : W.cell? ⟨w.heap.size + 1, 0, none⟩ = some (.string name) := hpY.cell 0
  clear h hL hg hgr hbw hpX hpY hpZ hWs hW
  go_enter Tryz.func67, Tryz.ntmps67
  go_wp2_with fail
  rw [← HW.out]
  refine HRF.out.mono ?_
  rintro e w1 ⟨rfl, hb1⟩
  have HH1 := Lib.hid (HH.out.belowS hb1)
  have HB1 := Lib.hid (HBW.out.trans (hb1.mono HBW.out.size))
  have PX1 := Lib.hid (show Blk w1 w.heap.size tPw #[ptr pw] from (hb1.block _ PX.out.lt).trans PX.out)
  have PZ1 := Lib.hid (show Blk w1 (w.heap.size + 2) tGr zeroG from (hb1.block _ PZ.out.lt).trans PZ.out)
  have x1 : w1.cell? ⟨w.heap.size, 0, none⟩ = some (ptr pw) := PX1.out.cell 0
  have hi0 : (0 : Int) ≤ idxV (some k) := by show (0 : Int) ≤ (k : Int); omega
  rw [he, show idxV (some k) = (k : Int) from rfl]
  obtain ⟨Ar, cr, rfl, hrr⟩ := HH1.out.rules
  have hkR : k < R.length := by rw [HH1.out.len]; exact (List.getElem?_eq_some_iff.1 HG.out).1
  obtain ⟨x, hx⟩ : ∃ x, R[k]? = some x := ⟨_, List.getElem?_eq_getElem hkR⟩
  obtain ⟨b', off, rfl, _, c1, c2, c3⟩ := hrr.at_ hx
  obtain ⟨s1, s2, s3⟩ := HH1.out.each k x g hx HG.out
  obtain ⟨v1, v2, v3⟩ := x
  dsimp only at c1 c2 c3 s1 s2 s3
  have hk0 : (0 : Int) ≤ (k : Int) := by omega
  have hkz : (k : Int) < (R.length : Int) := by omega
  have p0 : w1.cell? ⟨pw, 0, none⟩ = some (.slice (some ⟨b', off, none⟩) R.length cr) := HH1.out.blk.cell 0
  obtain ⟨A1, k1, rfl, r1⟩ := s1
  obtain ⟨A2, k2, rfl, r2⟩ := s2
  obtain ⟨A3, k3, rfl, r3⟩ := s3
  clear hb1 hx hrr HH PX PZ
  go_wp2_with fail
  have hb2 : Below w1.heap.size w1 (w1.alloc (.cells #[.slice A1 g.1.length k1, .slice A2 g.2.1.length k2, .slice A3 g.2.2.length k3] tRu)) := (Below.refl _ _).alloc (Nat.le_refl _) _
  have pr := Blk.new w1 tRu #[.slice A1 g.1.length k1, .slice A2 g.2.1.length k2, .slice A3 g.2.2.length k3]
  have hbd := grp_short (cm := g.2.2) (tg := g.1) (nd := g.2.1) (stem := ⟨#[]⟩) (HL.out.csz g hgm) (HL.out.tsz g hgm) (fun x hx => Nat.le_trans (HL.out.nsz g hgm x hx) (by omega)) (HL.out.nds g hgm) (Nat.zero_le _)
  have hng := newGroup_any A1 A2 A3 g.1.length k1 g.2.1.length k2 g.2.2.length k3 g.1 g.2.1 g.2.2 ⟨#[]⟩ _ (r1.belowS hb2) (r2.belowS hb2) (r3.belowS hb2) (Nat.le_trans (HL.out.tgs g hgm) (by omega)) (Nat.le_trans (HL.out.nds g hgm) (by omega)) (Nat.le_trans (HL.out.cms g hgm) (by omega)) (HL.out.csz g hgm) hbd.1 hbd.2
  have HNG := Lib.hid hng
  have HB2 := Lib.hid hb2
  have PR := Lib.hid pr
  have HH2 := Lib.hid (HH1.out.belowS hb2)
  have R1 := Lib.hid r1
  obtain ⟨t0, ht0⟩ : ∃ t, g.1[0]? = some t := by
    cases hh : g.1 with
    | nil => exact absurd hh (HL.out.ne g hgm)
    | cons t ts => exact ⟨t, rfl⟩
  have hhd : headT g.1 = t0 := by
    cases hh : g.1 with
    | nil => rw [hh] at ht0; cases ht0
    | cons t ts => rw [hh] at ht0; injection ht0
  have hg0 : 0 < g.1.length := (List.getElem?_eq_some_iff.1 ht0).1
  have HT0 := Lib.hid ht0
  have HHD := Lib.hid hhd
  clear hb2 pr hbd hng r1 r2 r3 ht0 hhd c1 c2 c3 p0
  generalize w1.alloc (.cells #[.slice A1 g.1.length k1, .slice A2 g.2.1.length k2, .slice A3 g.2.2.length k3] tRu) = w2 at *
  refine HNG.out.mono ?_
  rintro e w3 ⟨v, rfl, hgo, hb3⟩
  obtain ⟨va, vb, vc, hv, own1, own2, own3⟩ := hgo
  have hv' : v = .agg #[va, vb, vc, .bool false] := hv
  subst hv'
  clear hv
  obtain ⟨cmx, hcm⟩ : ∃ c, c = (newG g.1 g.2.1 g.2.2 ⟨#[]⟩ false).cm := ⟨_, rfl⟩
  have own1 : Own1 w3 w2.heap.size va g.1 := own1
  have own2 : Own1 w3 w2.heap.size vb g.2.1 := own2
  rw [← hcm] at own3
  obtain ⟨Ba, ka, rfl⟩ := own_shape own1
  obtain ⟨Bb, kb, rfl⟩ := own_shape own2
  obtain ⟨Bc, kc, rfl⟩ := own_shape own3
  obtain ⟨W4, hW4⟩ : ∃ W4, W4 = w3.alloc (.cells #[.slice Ba g.1.length ka, .slice Bb g.2.1.length kb, .slice Bc cmx.length kc, .bool false] tGr) := ⟨_, rfl⟩
  have hb34 : Below w3.heap.size w3 W4 := by rw [hW4]; exact (Below.refl _ _).alloc (Nat.le_refl _) _
  have hb4 : Below w2.heap.size w2 W4 := hb3.trans (hb34.mono hb3.size)
  have pg : Blk W4 w3.heap.size tGr #[.slice Ba g.1.length ka, .slice Bb g.2.1.length kb, .slice Bc cmx.length kc, .bool false] := by rw [hW4]; exact Blk.new w3 tGr _
  have px : Blk W4 w.heap.size tPw #[ptr pw] := (hb4.block _ (Nat.lt_of_lt_of_le PX1.out.lt HB2.out.size)).trans ((HB2.out.block _ PX1.out.lt).trans PX1.out)
  have pz : Blk W4 (w.heap.size + 2) tGr zeroG := (hb4.block _ (Nat.lt_of_lt_of_le PZ1.out.lt HB2.out.size)).trans ((HB2.out.block _ PZ1.out.lt).trans PZ1.out)
  have pr : Blk W4 w1.heap.size tRu #[.slice A1 g.1.length k1, .slice A2 g.2.1.length k2, .slice A3 g.2.2.length k3] := (hb4.block _ PR.out.lt).trans PR.out
  have hh4 := HH2.out.belowS hb4
  obtain ⟨Ap, cp, rfl, hrp⟩ := hh4.phony
  obtain ⟨b1, o1, rfl, _, ht1⟩ := ((R1.out.belowS HB2.out).belowS hb4).at_ HT0.out
  rw [Nat.add_zero] at ht1
  have hgp : grpR m l name = some { newG g.1 g.2.1 g.2.2 ⟨#[]⟩ false with ph := inT m.phony t0 } := by rw [HGR.out, ← HHD.out]; rfl
  have hc4 := contains_any Ap m.phony.length cp m.phony t0 W4.drew (hrp.belowS ((Below.refl _ _).drew)) (Nat.le_trans HL.out.phony (by omega))
  revert hgp hc4
  generalize inT m.phony t0 = ph
  intro hgp hc4
  have HGP := Lib.hid hgp
  have HC4 := Lib.hid hc4
  have x4 : W4.cell? ⟨w.heap.size, 0, none⟩ = some (ptr pw) := px.cell 0
  have x4' : W4.drew.cell? ⟨w.heap.size, 0, none⟩ = some (ptr pw) := px.cell 0
  have p4 : W4.cell? ⟨pw, 1, none⟩ = some (.slice Ap m.phony.length cp) := hh4.blk.cell 1
  have p4' : W4.drew.cell? ⟨pw, 1, none⟩ = some (.slice Ap m.phony.length cp) := hh4.blk.cell 1
  have r4 : W4.cell? ⟨w1.heap.size, 0, none⟩ = some (.slice (some ⟨b1, o1, none⟩) g.1.length k1) := pr.cell 0
  have r4' : W4.drew.cell? ⟨w1.heap.size, 0, none⟩ = some (.slice (some ⟨b1, o1, none⟩) g.1.length k1) := pr.cell 0
  have ht1' : W4.drew.cell? ⟨b1, o1, none⟩ = some (.string t0) := ht1
  have hg0z : (0 : Int) < (g.1.length : Int) := by omega
  have a0 : W4.cell? ⟨w3.heap.size, 0, none⟩ = some (.slice Ba g.1.length ka) := pg.cell 0
  have a1 : W4.cell? ⟨w3.heap.size, 1, none⟩ = some (.slice Bb g.2.1.length kb) := pg.cell 1
  have a2 : W4.cell? ⟨w3.heap.size, 2, none⟩ = some (.slice Bc cmx.length kc) := pg.cell 2
  have a3 : W4.cell? ⟨w3.heap.size, 3, none⟩ = some (.bool false) := pg.cell 3
  have f0 : W4.frozen? ⟨w3.heap.size, 3, none⟩ = false := pg.free 3
  have z0 : W4.cell? ⟨w.heap.size + 2, 0, none⟩ = some (.slice none 0 0) := pz.cell 0
  have z1 : W4.cell? ⟨w.heap.size + 2, 1, none⟩ = some (.slice none 0 0) := pz.cell 1
  have z2 : W4.cell? ⟨w.heap.size + 2, 2, none⟩ = some (.slice none 0 0) := pz.cell 2
  have z3 : W4.cell? ⟨w.heap.size + 2, 3, none⟩ = some (.bool false) := pz.cell 3
  have e0 : W4.frozen? ⟨w.heap.size + 2, 0, none⟩ = false := pz.free 0
  have e1 : W4.frozen? ⟨w.heap.size + 2, 1, none⟩ = false := pz.free 1
  have e2 : W4.frozen? ⟨w.heap.size + 2, 2, none⟩ = false := pz.free 2
  have e3 : W4.frozen? ⟨w.heap.size + 2, 3, none⟩ = false := pz.free 3
  have hn3 : w.heap.size + 2 < w3.heap.size := Nat.lt_of_lt_of_le (Nat.lt_of_lt_of_le PZ1.out.lt HB2.out.size) hb3.size
  have O1 := Lib.hid (own1_below own1 hb34)
  have O2 := Lib.hid (own1_below own2 hb34)
  have O3 := Lib.hid (own1_below own3 hb34)
  have HB4 := Lib.hid (HB1.out.trans ((HB2.out.trans (hb4.mono HB2.out.size)).mono HB1.out.size))
  have HW4 := Lib.hid hW4
  have PG := Lib.hid pg
  have HCM := Lib.hid hcm
  have hw2 : w.heap.size + 2 < w2.heap.size := Nat.lt_of_lt_of_le PZ1.out.lt HB2.out.size
  have HF := Lib.hid (fun (v q a b c d : Value) (t : List ByteArray) (ho : Own1 W4 w2.heap.size v t) => show Own1 (((((W4.setCell ⟨w3.heap.size, 3, none⟩ q).setCell ⟨w.heap.size + 1 + 1, 0, none⟩ a).setCell ⟨w.heap.size + 1 + 1, 1, none⟩ b).setCell ⟨w.heap.size + 1 + 1, 2, none⟩ c).setCell ⟨w.heap.size + 1 + 1, 3, none⟩ d).drew w.heap.size v t from by
    have h0 : v.ownBlock ≠ some w3.heap.size := row_block_ne ho PG.out (by decide)
    have h1 : v.ownBlock ≠ some (w.heap.size + 1 + 1) := own_old (_w' := W4) ho hw2
    have h2 : Own1 (((((W4.setCell ⟨w3.heap.size, 3, none⟩ q).setCell ⟨w.heap.size + 1 + 1, 0, none⟩ a).setCell ⟨w.heap.size + 1 + 1, 1, none⟩ b).setCell ⟨w.heap.size + 1 + 1, 2, none⟩ c).setCell ⟨w.heap.size + 1 + 1, 3, none⟩ d) w2.heap.size v t := own_set (own_set (own_set (own_set (own_set ho h0) h1) h1) h1) h1
    exact World.ownsRow.mono h2 (by omega))
  have HFB := Lib.hid (fun (q a b c d : Value) => show Below w.heap.size w (((((W4.setCell ⟨w3.heap.size, 3, none⟩ q).setCell ⟨w.heap.size + 1 + 1, 0, none⟩ a).setCell ⟨w.heap.size + 1 + 1, 1, none⟩ b).setCell ⟨w.heap.size + 1 + 1, 2, none⟩ c).setCell ⟨w.heap.size + 1 + 1, 3, none⟩ d).drew from
    (((((HB4.out.setCell (p := ⟨w3.heap.size, 3, none⟩) (by show w.heap.size ≤ w3.heap.size; omega) q).setCell (p := ⟨w.heap.size + 1 + 1, 0, none⟩) (by show w.heap.size ≤ w.heap.size + 1 + 1; omega) a).setCell (p := ⟨w.heap.size + 1 + 1, 1, none⟩) (by show w.heap.size ≤ w.heap.size + 1 + 1; omega) b).setCell (p := ⟨w.heap.size + 1 + 1, 2, none⟩) (by show w.heap.size ≤ w.heap.size + 1 + 1; omega) c).setCell (p := ⟨w.heap.size + 1 + 1, 3, none⟩) (by show w.heap.size ≤ w.heap.size + 1 + 1; omega) d).drew)
  clear own1 own2 own3 hb34 hb4 hb3 hW4 pg px pz pr hh4 hrp hgp hc4 hcm
  go_wp2_with fail
  rw [← HW4.out]
  clear HW4
  go_region_law
    (first
      | (go_simp; (refine HC4.out.mono ?_; rintro e w5 ⟨rfl, rfl⟩)))
  all_goals (
    go_wp2
    (try simp only [Exit.inBlock, Exit.then])
    refine bodyPost_ret (v := .tuple #[.agg #[.slice Ba g.1.length ka, .slice Bb g.2.1.length kb, .slice Bc cmx.length kc, .bool ph], .bool true]) ?_ rfl ?_
    · rw [results_cell_tmp rfl]
      go_simp
    · refine ⟨.slice Ba g.1.length ka, .slice Bb g.2.1.length kb, .slice Bc cmx.length kc, ph, by rw [HGP.out]; rfl, fun g' hg' => ?_, HFB.out _ _ _ _ _, ⟨_, _, _, rfl⟩, ⟨_, _, _, rfl⟩, _, _, _, rfl⟩
      rw [HGP.out] at hg'
      injection hg' with hg'
      subst hg'
      refine ⟨_, _, _, rfl, HF.out _ _ _ _ _ _ _ O1.out, HF.out _ _ _ _ _ _ _ O2.out, ?_⟩
      show Own1 _ _ _ (newG g.1 g.2.1 g.2.2 ⟨#[]⟩ false).cm
      rw [← HCM.out]
      exact HF.out _ _ _ _ _ _ _ O3.out)
end Go.Proofs.YtlkpbpecgdphaaaGreatDoor
