/-
  WALK: (*graph.walk).group where no rule names the target: by a pattern, or no group.
-/
import Derived.Test.YtlkpbpecgdphaaaGreatDoorGk
import Derived.Deep.RegionHeld3
namespace Go.Proofs.YtlkpbpecgdphaaaGreatDoor
open Go.RowKit

theorem Upd.blk {w w' : World} {b k : Nat} {t : TypeId} {cs : Array Value} (h : Upd w w' (One b)) (hb : Blk w k t cs) (hne : k ≠ b) : Blk w' k t cs := (h.block k hb.lt hne).trans hb
theorem Blk.four {w : World} {b p : Nat} {t : TypeId} {cs : Array Value} (h : Blk w b t cs) (hne : b ≠ p) (a0 a1 a2 a3 : Value) : Blk ((((w.setCell ⟨p, 0, none⟩ a0).setCell ⟨p, 1, none⟩ a1).setCell ⟨p, 2, none⟩ a2).setCell ⟨p, 3, none⟩ a3) b t cs :=
  Blk.other (Blk.other (Blk.other (Blk.other h hne a0) hne a1) hne a2) hne a3
set_option maxRecDepth 100000 in
set_option maxHeartbeats 8000000 in
theorem group_pat (pw : Nat) (m : Mk) (l : List F) (vr vp vf vm vg : Value) (R : List Row3) (name : ByteArray) (w : World) (h : WkRd w pw m l vr vp vf vm vg R) (hL : Lim m) (hs : Rises l) (hl : l.length ≤ 1000000) (hn : name.size ≤ 1000) (hm : MaxOk w) (he : explO m.rules name = none) :
    Calls Tryz.prog 67 #[ptr pw, .string name] w (GrPost m l name w) := by
  have hgr : grpR m l name = (match m.rules.findIdx? (fitsB m.rules l name) with | some i => (m.rules[i]?).map (patG name) | none => none) := by unfold grpR; rw [he]; rfl
  obtain ⟨W, hW, hbw, hpX, hpY, hpZ, hWs⟩ := gr_boxes w pw name
  have HRF := Lib.hid (ruleFor_any pw m l vr vp vf vm vg R name W (h.belowS hbw) hL.rules (fun r hr => Nat.le_trans (hL.tgs r hr) (by omega)))
  obtain ⟨Ar, cr, rfl, -⟩ := h.rules
  have HE := Lib.hid h
  have HBW := Lib.hid hbw
  have PX := Lib.hid hpX
  have PY := Lib.hid hpY
  have PZ := Lib.hid hpZ
  have WS := Lib.hid hWs
  have HW := Lib.hid hW
  have HL := Lib.hid hL
  have HS := Lib.hid hs
  have HM := Lib.hid hm
  have HGR := Lib.hid hgr
  have x0 : W.cell? ⟨w.heap.size, 0, none⟩ = some (ptr pw) := hpX.cell 0
  have y0 : W.cell? ⟨w.heap.size + 1, 0, none⟩ = some (.string name) := hpY.cell 0
  have hW3 : w.heap.size + 3 = W.heap.size := hWs.symm
  clear h hL hgr hbw hpX hpY hpZ hWs hW hs hm
  go_enter Tryz.func67, Tryz.ntmps67
  go_wp2_with fail
  rw [← HW.out]
  refine HRF.out.mono ?_
  rintro e w1 ⟨rfl, hb1⟩
  rw [he, show idxV none = -1 from rfl]
  have hsz1 := hb1.size
  have hbe1 : Below w.heap.size w w1 := HBW.out.trans (hb1.mono HBW.out.size)
  have hb5 : Below w.heap.size w (w1.alloc (.cells #[.string ⟨#[]⟩] tStr)) := hbe1.alloc hbe1.size _
  have px1 : Blk w1 w.heap.size tPw #[ptr pw] := (hb1.block _ PX.out.lt).trans PX.out
  have py1 : Blk w1 (w.heap.size + 1) tStr #[.string name] := (hb1.block _ PY.out.lt).trans PY.out
  have pz1 : Blk w1 (w.heap.size + 2) tGr zeroG := (hb1.block _ PZ.out.lt).trans PZ.out
  have px5 := px1.alloc (.cells #[.string ⟨#[]⟩] tStr)
  have py5 := py1.alloc (.cells #[.string ⟨#[]⟩] tStr)
  have pz5 := pz1.alloc (.cells #[.string ⟨#[]⟩] tStr)
  have ps5 := Blk.new w1 tStr #[.string ⟨#[]⟩]
  have hIP := indexP_any pw w.heap.size (w.heap.size + 1) w1.heap.size m l (.slice Ar R.length cr) vp vf vm vg R Ar cr name ⟨#[]⟩ w _ HE.out rfl hb5 HL.out HS.out hl hn HM.out px5 py5 ps5 (by omega) (by omega) (by omega)
  have HIP := Lib.hid hIP
  have he5 := HE.out.belowS hb5
  have x5 : (w1.alloc (.cells #[.string ⟨#[]⟩] tStr)).cell? ⟨w.heap.size, 0, none⟩ = some (ptr pw) := px5.cell 0
  have p5 : (w1.alloc (.cells #[.string ⟨#[]⟩] tStr)).cell? ⟨pw, 0, none⟩ = some (.slice Ar R.length cr) := he5.blk.cell 0
  have HB5 := Lib.hid hb5
  have PX5 := Lib.hid px5
  have PY5 := Lib.hid py5
  have PZ5 := Lib.hid pz5
  have PS5 := Lib.hid ps5
  clear hb1 hbe1 hb5 px1 py1 pz1 px5 py5 pz5 ps5 hIP he5
  go_wp2_with fail
  generalize w1.alloc (.cells #[.string ⟨#[]⟩] tStr) = w5 at *
  refine HIP.out.mono ?_
  rintro e w6 ⟨rfl, hu6, s, hs6, hst⟩
  have px6 := hu6.blk PX5.out (by omega)
  have py6 := hu6.blk PY5.out (by omega)
  have pz6 := hu6.blk PZ5.out (by omega)
  have hb6 : Below w.heap.size w w6 := HB5.out.trans (hu6.below HB5.out.size (fun k hk => by rw [show k = w1.heap.size from hk]; omega))
  have x6 : w6.cell? ⟨w.heap.size, 0, none⟩ = some (ptr pw) := px6.cell 0
  have y6 : w6.cell? ⟨w.heap.size + 1, 0, none⟩ = some (.string name) := py6.cell 0
  have HB6 := Lib.hid hb6
  have PY6 := Lib.hid py6
  have PZ6 := Lib.hid pz6
  have PS6 := Lib.hid hs6
  have HST := Lib.hid hst
  clear hu6 px6 py6 pz6 hb6 hs6 hst HIP
  have hgr := HGR.out
  cases hf : m.rules.findIdx? (fitsB m.rules l name) with
  | none =>
    rw [hf] at hgr
    have HGN := Lib.hid hgr
    have z0 : w6.cell? ⟨w.heap.size + 1 + 1, 0, none⟩ = some (.slice none 0 0) := PZ6.out.cell 0
    have z1 : w6.cell? ⟨w.heap.size + 1 + 1, 1, none⟩ = some (.slice none 0 0) := PZ6.out.cell 1
    have z2 : w6.cell? ⟨w.heap.size + 1 + 1, 2, none⟩ = some (.slice none 0 0) := PZ6.out.cell 2
    have z3 : w6.cell? ⟨w.heap.size + 1 + 1, 3, none⟩ = some (.bool false) := PZ6.out.cell 3
    have e0 : w6.frozen? ⟨w.heap.size + 1 + 1, 0, none⟩ = false := PZ6.out.free 0
    have e1 : w6.frozen? ⟨w.heap.size + 1 + 1, 1, none⟩ = false := PZ6.out.free 1
    have e2 : w6.frozen? ⟨w.heap.size + 1 + 1, 2, none⟩ = false := PZ6.out.free 2
    have e3 : w6.frozen? ⟨w.heap.size + 1 + 1, 3, none⟩ = false := PZ6.out.free 3
    have hi0 : idxV none = -1 := rfl
    rw [hi0]
    clear hf hgr HGR
    go_wp2
    (try simp only [Exit.inBlock, Exit.then])
    refine bodyPost_ret (v := .tuple #[.agg #[.slice none 0 0, .slice none 0 0, .slice none 0 0, .bool false], .bool false]) ?_ rfl ?_
    · rw [results_cell_tmp rfl]
      go_simp
    · refine ⟨.slice none 0 0, .slice none 0 0, .slice none 0 0, false, by rw [HGN.out]; rfl, fun g hg => ?_, ?_, ⟨_, _, _, rfl⟩, ⟨_, _, _, rfl⟩, _, _, _, rfl⟩
      · rw [HGN.out] at hg; cases hg
      · exact (((HB6.out.setCell (p := ⟨w.heap.size + 1 + 1, 0, none⟩) (by show w.heap.size ≤ w.heap.size + 1 + 1; omega) _).setCell (p := ⟨w.heap.size + 1 + 1, 1, none⟩) (by show w.heap.size ≤ w.heap.size + 1 + 1; omega) _).setCell (p := ⟨w.heap.size + 1 + 1, 2, none⟩) (by show w.heap.size ≤ w.heap.size + 1 + 1; omega) _).setCell (p := ⟨w.heap.size + 1 + 1, 3, none⟩) (by show w.heap.size ≤ w.heap.size + 1 + 1; omega) _
  | some k =>
    rw [hf] at hgr
    dsimp only at hgr
    obtain ⟨g, hg⟩ : ∃ g, m.rules[k]? = some g := by
      obtain ⟨hi, _, _⟩ := List.findIdx?_eq_some_iff_getElem.1 hf
      exact ⟨_, List.getElem?_eq_getElem hi⟩
    have hsv := HST.out k g hf hg
    rw [hg] at hgr
    have hgr' : grpR m l name = some (newG [name] (fillR g.2.1 s) g.2.2 s false) := by rw [hgr, hsv]; rfl
    have hgm := List.mem_of_getElem? hg
    have hss : s.size ≤ 1000 := by rw [hsv]; exact Nat.le_trans (stemR_size _ _) hn
    have HGR := Lib.hid hgr'
    have he6 := HE.out.belowS HB6.out
    obtain ⟨Ar', cr', e', hrr⟩ := he6.rules
    injection e' with e1 e2 e3
    subst e1 e3
    have hkR : k < R.length := by rw [he6.len]; exact (List.getElem?_eq_some_iff.1 hg).1
    obtain ⟨x, hx⟩ : ∃ x, R[k]? = some x := ⟨_, List.getElem?_eq_getElem hkR⟩
    obtain ⟨b', off, rfl, _, c1, c2, c3⟩ := hrr.at_ hx
    obtain ⟨s1, s2, s3⟩ := he6.each k x g hx hg
    obtain ⟨v1, v2, v3⟩ := x
    dsimp only at c1 c2 c3 s1 s2 s3
    obtain ⟨A1, k1, rfl, r1⟩ := s1
    obtain ⟨A2, k2, rfl, r2⟩ := s2
    obtain ⟨A3, k3, rfl, r3⟩ := s3
    have hk0 : (0 : Int) ≤ (k : Int) := by omega
    have hkz : (k : Int) < (R.length : Int) := by omega
    have p6 : w6.cell? ⟨pw, 0, none⟩ = some (.slice (some ⟨b', off, none⟩) R.length cr) := he6.blk.cell 0
    have hi0 : decide (idxV (some k) < 0) = false := decide_eq_false (by show ¬ ((k : Int) < 0); omega)
    have hi1 : idxV (some k) = (k : Int) := rfl
    rw [hi1] at hi0 ⊢
    obtain ⟨w7, hw7⟩ : ∃ w7, w7 = w6.alloc (.cells #[.slice A1 g.1.length k1, .slice A2 g.2.1.length k2, .slice A3 g.2.2.length k3] tRu) := ⟨_, rfl⟩
    have hz6pre : w.heap.size + 2 < w6.heap.size := PZ6.out.lt
    have hb67 : Below w6.heap.size w6 w7 := by rw [hw7]; exact (Below.refl _ _).alloc (Nat.le_refl _) _
    have pr7 : Blk w7 w6.heap.size tRu #[.slice A1 g.1.length k1, .slice A2 g.2.1.length k2, .slice A3 g.2.2.length k3] := by rw [hw7]; exact Blk.new w6 tRu _
    have R2 := Lib.hid (r2.belowS hb67)
    have R3 := Lib.hid (r3.belowS hb67)
    have HB7 := Lib.hid (HB6.out.trans (hb67.mono HB6.out.size))
    have PY7 := Lib.hid (show Blk w7 (w.heap.size + 1) tStr #[.string name] from (hb67.block _ PY6.out.lt).trans PY6.out)
    have PZ7 := Lib.hid (show Blk w7 (w.heap.size + 2) tGr zeroG from (hb67.block _ PZ6.out.lt).trans PZ6.out)
    have PS7 := Lib.hid (show Blk w7 w1.heap.size tStr #[.string s] from (hb67.block _ PS6.out.lt).trans PS6.out)
    have PR7 := Lib.hid pr7
    have HW7 := Lib.hid hw7
    have HGM := Lib.hid hgm
    have hsz7 : w.heap.size + 2 < w7.heap.size := PZ7.out.lt
    have hbd := grp_short (cm := g.2.2) (tg := [name]) (nd := fillR g.2.1 s) (stem := s) (HL.out.csz g hgm) (fun x hx => by rw [List.mem_singleton.1 hx]; exact hn) (fun x hx => fillR_size (HL.out.nsz g hgm) hss hx) (by unfold fillR; rw [List.length_map]; exact HL.out.nds g hgm) hss
    have hnl := HL.out.nds g hgm
    have hcl := HL.out.cms g hgm
    have hfl : (fillR g.2.1 s).length = g.2.1.length := by unfold fillR; rw [List.length_map]
    have HFI := Lib.hid (fun (W' : World) (hb : Below w7.heap.size w7 W') => filled_any A2 g.2.1.length k2 g.2.1 s W' (R2.out.belowS hb) (by omega) (HL.out.nsz g hgm) hss ((HM.out.below HB7.out).below hb))
    have HNG := Lib.hid (fun (W' : World) (At An : Option Addr) (ct cn : Nat) (hb : Below w7.heap.size w7 W') (ht : RdS W' W'.heap.size At 1 ct [name]) (hq : RdS W' W'.heap.size An g.2.1.length cn (fillR g.2.1 s)) => newGroup_any At An A3 1 ct g.2.1.length cn g.2.2.length k3 [name] (fillR g.2.1 s) g.2.2 s W' ht hq (R3.out.belowS hb) (by omega) (by omega) (by omega) (HL.out.csz g hgm) hbd.1 hbd.2)
    have HS4 := Lib.hid (fun (W' : World) (hb : Below w7.heap.size w7 W') => show W'.cell? ⟨w.heap.size + 1, 0, none⟩ = some (.string name) ∧ W'.cell? ⟨w1.heap.size, 0, none⟩ = some (.string s) ∧ W'.cell? ⟨w6.heap.size, 1, none⟩ = some (.slice A2 g.2.1.length k2) ∧ W'.cell? ⟨w6.heap.size, 2, none⟩ = some (.slice A3 g.2.2.length k3) from
      ⟨(hb.cell (p := ⟨w.heap.size + 1, 0, none⟩) PY7.out.lt).trans (PY7.out.cell 0), (hb.cell (p := ⟨w1.heap.size, 0, none⟩) PS7.out.lt).trans (PS7.out.cell 0), (hb.cell (p := ⟨w6.heap.size, 1, none⟩) PR7.out.lt).trans (PR7.out.cell 1), (hb.cell (p := ⟨w6.heap.size, 2, none⟩) PR7.out.lt).trans (PR7.out.cell 2)⟩)
    have hz6 : w.heap.size + 2 < w6.heap.size := hz6pre
    have HS5 := Lib.hid (fun (W' : World) (a b c d : Value) (hb : Below w7.heap.size w7 W') => show ((((W'.setCell ⟨w.heap.size + 1 + 1, 0, none⟩ a).setCell ⟨w.heap.size + 1 + 1, 1, none⟩ b).setCell ⟨w.heap.size + 1 + 1, 2, none⟩ c).setCell ⟨w.heap.size + 1 + 1, 3, none⟩ d).cell? ⟨w.heap.size + 1, 0, none⟩ = some (.string name) ∧ ((((W'.setCell ⟨w.heap.size + 1 + 1, 0, none⟩ a).setCell ⟨w.heap.size + 1 + 1, 1, none⟩ b).setCell ⟨w.heap.size + 1 + 1, 2, none⟩ c).setCell ⟨w.heap.size + 1 + 1, 3, none⟩ d).cell? ⟨w1.heap.size, 0, none⟩ = some (.string s) ∧ ((((W'.setCell ⟨w.heap.size + 1 + 1, 0, none⟩ a).setCell ⟨w.heap.size + 1 + 1, 1, none⟩ b).setCell ⟨w.heap.size + 1 + 1, 2, none⟩ c).setCell ⟨w.heap.size + 1 + 1, 3, none⟩ d).cell? ⟨w6.heap.size, 1, none⟩ = some (.slice A2 g.2.1.length k2) ∧ ((((W'.setCell ⟨w.heap.size + 1 + 1, 0, none⟩ a).setCell ⟨w.heap.size + 1 + 1, 1, none⟩ b).setCell ⟨w.heap.size + 1 + 1, 2, none⟩ c).setCell ⟨w.heap.size + 1 + 1, 3, none⟩ d).cell? ⟨w6.heap.size, 2, none⟩ = some (.slice A3 g.2.2.length k3) from
      ⟨(Blk.four ((hb.block _ PY7.out.lt).trans PY7.out) (by omega) a b c d).cell 0, (Blk.four ((hb.block _ PS7.out.lt).trans PS7.out) (by omega) a b c d).cell 0, (Blk.four ((hb.block _ PR7.out.lt).trans PR7.out) (by omega) a b c d).cell 1, (Blk.four ((hb.block _ PR7.out.lt).trans PR7.out) (by omega) a b c d).cell 2⟩)
    have HFO := Lib.hid (fun (W' : World) (v a b c d : Value) (t : List ByteArray) (ho : Own1 W' w7.heap.size v t) => show Own1 ((((W'.setCell ⟨w.heap.size + 1 + 1, 0, none⟩ a).setCell ⟨w.heap.size + 1 + 1, 1, none⟩ b).setCell ⟨w.heap.size + 1 + 1, 2, none⟩ c).setCell ⟨w.heap.size + 1 + 1, 3, none⟩ d) w.heap.size v t from by
      have h1 : v.ownBlock ≠ some (w.heap.size + 1 + 1) := own_old (_w' := W') ho hsz7
      have h2 : Own1 ((((W'.setCell ⟨w.heap.size + 1 + 1, 0, none⟩ a).setCell ⟨w.heap.size + 1 + 1, 1, none⟩ b).setCell ⟨w.heap.size + 1 + 1, 2, none⟩ c).setCell ⟨w.heap.size + 1 + 1, 3, none⟩ d) w7.heap.size v t := own_set (own_set (own_set (own_set ho h1) h1) h1) h1
      exact World.ownsRow.mono h2 (by omega))
    have HFB := Lib.hid (fun (W' : World) (a b c d : Value) (hb : Below w7.heap.size w7 W') => show Below w.heap.size w ((((W'.setCell ⟨w.heap.size + 1 + 1, 0, none⟩ a).setCell ⟨w.heap.size + 1 + 1, 1, none⟩ b).setCell ⟨w.heap.size + 1 + 1, 2, none⟩ c).setCell ⟨w.heap.size + 1 + 1, 3, none⟩ d) from
      (((((HB7.out.trans (hb.mono HB7.out.size)).setCell (p := ⟨w.heap.size + 1 + 1, 0, none⟩) (by show w.heap.size ≤ w.heap.size + 1 + 1; omega) a).setCell (p := ⟨w.heap.size + 1 + 1, 1, none⟩) (by show w.heap.size ≤ w.heap.size + 1 + 1; omega) b).setCell (p := ⟨w.heap.size + 1 + 1, 2, none⟩) (by show w.heap.size ≤ w.heap.size + 1 + 1; omega) c).setCell (p := ⟨w.heap.size + 1 + 1, 3, none⟩) (by show w.heap.size ≤ w.heap.size + 1 + 1; omega) d))
    obtain ⟨s1, s2, s3, s4⟩ := HS4.out w7.drew ((Below.refl _ w7).drew)
    have K7 := Lib.hid (show Below w7.heap.size w7 w7.drew from (Below.refl _ w7).drew)
    have K7a := Lib.hid (show Below w7.heap.size w7 (w7.alloc (.cells #[.string name] tStr)).drew from ((Below.refl _ w7).alloc (Nat.le_refl _) _).drew)
    have N7a := Lib.hid (show RdS (w7.alloc (.cells #[.string name] tStr)).drew (w7.alloc (.cells #[.string name] tStr)).drew.heap.size (some ⟨w7.heap.size, 0, none⟩) 1 1 [name] from by have := RdS_one' w7 name tStr; rwa [show (w7.alloc (.cells #[.string name] tStr)).drew.heap.size = w7.heap.size + 1 by show (w7.alloc (.cells #[.string name] tStr)).heap.size = _; simp])
    clear hf hgr hgr' hg hsv he6 hrr hx r1 r2 r3 hw7 hb67 pr7 HST hgm PY6 PZ6 PS6 PX5 PY5 PZ5 PS5 HRF hbd
    go_wp2_with fail
    rw [← HW7.out]
    clear HW7
    go_region_held3 (fun w' => w'.cell? ⟨w.heap.size + 1, 0, none⟩ = some (.string name) ∧ w'.cell? ⟨w1.heap.size, 0, none⟩ = some (.string s) ∧ w'.cell? ⟨w6.heap.size, 1, none⟩ = some (.slice A2 g.2.1.length k2) ∧ w'.cell? ⟨w6.heap.size, 2, none⟩ = some (.slice A3 g.2.2.length k3))
      (first | with_reducible exact HS5.out _ _ _ _ _ K9.out | with_reducible exact HS4.out _ K9.out | with_reducible exact HS4.out _ K8a.out | with_reducible exact HS4.out _ K8.out | with_reducible exact HS4.out _ K8b.out | with_reducible exact HS4.out _ K7a.out | with_reducible exact HS4.out _ K7.out)
      (first
        | (have _g := K8a; go_at_call 100; refine (HNG.out _ _ _ _ _ K8a.out N8a.out F8a.out).mono ?_; rintro e w9 ⟨v9, rfl, hgo, hb9⟩; obtain ⟨va, vb, vc, hv, o1, o2, o3⟩ := hgo; have hv' : v9 = .agg #[va, vb, vc, .bool false] := hv; subst hv'; obtain ⟨cmx, hcm⟩ : ∃ c, c = (newG [name] (fillR g.2.1 s) g.2.2 s false).cm := ⟨_, rfl⟩; rw [← hcm] at o3; have o1 : Own1 w9 _ va [name] := o1; have o2 : Own1 w9 _ vb (fillR g.2.1 s) := o2; obtain ⟨Ba, ka, rfl⟩ := own_shape o1; obtain ⟨Bb, kb, rfl⟩ := own_shape o2; obtain ⟨Bc, kc, rfl⟩ := own_shape o3; have hk9 := K8a.out.trans (hb9.mono K8a.out.size); have K9 := Lib.hid hk9; have O1 := Lib.hid (show Own1 w9 w7.heap.size _ [name] from World.ownsRow.mono o1 K8a.out.size); have O2 := Lib.hid (show Own1 w9 w7.heap.size _ (fillR g.2.1 s) from World.ownsRow.mono o2 K8a.out.size); have O3 := Lib.hid (show Own1 w9 w7.heap.size _ cmx from World.ownsRow.mono o3 K8a.out.size); have HCM := Lib.hid hcm; have pz9 : Blk w9 (w.heap.size + 1 + 1) tGr zeroG := (hk9.block _ PZ7.out.lt).trans PZ7.out; have z0 : w9.cell? ⟨w.heap.size + 1 + 1, 0, none⟩ = some (.slice none 0 0) := pz9.cell 0; have z1 : w9.cell? ⟨w.heap.size + 1 + 1, 1, none⟩ = some (.slice none 0 0) := pz9.cell 1; have z2 : w9.cell? ⟨w.heap.size + 1 + 1, 2, none⟩ = some (.slice none 0 0) := pz9.cell 2; have z3 : w9.cell? ⟨w.heap.size + 1 + 1, 3, none⟩ = some (.bool false) := pz9.cell 3; have e0 := pz9.free 0; have e1 := pz9.free 1; have e2 := pz9.free 2; have e3 := pz9.free 3; clear hb9 o1 o2 o3 hcm hk9 pz9)
        | (have _g := K8; go_at_call 100; refine (HNG.out _ _ _ _ _ K8.out N8.out F8.out).mono ?_; rintro e w9 ⟨v9, rfl, hgo, hb9⟩; obtain ⟨va, vb, vc, hv, o1, o2, o3⟩ := hgo; have hv' : v9 = .agg #[va, vb, vc, .bool false] := hv; subst hv'; obtain ⟨cmx, hcm⟩ : ∃ c, c = (newG [name] (fillR g.2.1 s) g.2.2 s false).cm := ⟨_, rfl⟩; rw [← hcm] at o3; have o1 : Own1 w9 _ va [name] := o1; have o2 : Own1 w9 _ vb (fillR g.2.1 s) := o2; obtain ⟨Ba, ka, rfl⟩ := own_shape o1; obtain ⟨Bb, kb, rfl⟩ := own_shape o2; obtain ⟨Bc, kc, rfl⟩ := own_shape o3; have hk9 := K8.out.trans (hb9.mono K8.out.size); have K9 := Lib.hid hk9; have O1 := Lib.hid (show Own1 w9 w7.heap.size _ [name] from World.ownsRow.mono o1 K8.out.size); have O2 := Lib.hid (show Own1 w9 w7.heap.size _ (fillR g.2.1 s) from World.ownsRow.mono o2 K8.out.size); have O3 := Lib.hid (show Own1 w9 w7.heap.size _ cmx from World.ownsRow.mono o3 K8.out.size); have HCM := Lib.hid hcm; have pz9 : Blk w9 (w.heap.size + 1 + 1) tGr zeroG := (hk9.block _ PZ7.out.lt).trans PZ7.out; have z0 : w9.cell? ⟨w.heap.size + 1 + 1, 0, none⟩ = some (.slice none 0 0) := pz9.cell 0; have z1 : w9.cell? ⟨w.heap.size + 1 + 1, 1, none⟩ = some (.slice none 0 0) := pz9.cell 1; have z2 : w9.cell? ⟨w.heap.size + 1 + 1, 2, none⟩ = some (.slice none 0 0) := pz9.cell 2; have z3 : w9.cell? ⟨w.heap.size + 1 + 1, 3, none⟩ = some (.bool false) := pz9.cell 3; have e0 := pz9.free 0; have e1 := pz9.free 1; have e2 := pz9.free 2; have e3 := pz9.free 3; clear hb9 o1 o2 o3 hcm hk9 pz9)
        | (go_at_call 104; refine (HFI.out _ K7a.out).mono ?_; rintro e w8 ⟨v8, rfl, own8, hb8⟩; have K8 := Lib.hid (K7a.out.trans (hb8.mono K7a.out.size)); obtain ⟨An, cn, rfl, hr8⟩ := RdS.of_own own8; have F8 := Lib.hid hr8; have N8 := Lib.hid (N7a.out.belowS hb8); clear hb8 own8 hr8)
        | (go_at_call 104; refine (HFI.out _ K7.out).mono ?_; rintro e w8 ⟨v8, rfl, own8, hb8⟩; have K8b := Lib.hid (K7.out.trans (hb8.mono K7.out.size)); obtain ⟨An, cn, rfl, hr8⟩ := RdS.of_own own8; have ha8 : Below w8.heap.size w8 (w8.alloc (.cells #[.string name] tStr)) := (Below.refl _ w8).alloc (Nat.le_refl _) _; have K8a := Lib.hid (K8b.out.trans (ha8.mono K8b.out.size)); have F8a := Lib.hid (hr8.belowS ha8); have N8a := Lib.hid (show RdS (w8.alloc (.cells #[.string name] tStr)) (w8.alloc (.cells #[.string name] tStr)).heap.size (some ⟨w8.heap.size, 0, none⟩) 1 1 [name] from by have := RdS_one' w8 name tStr; rwa [show (w8.alloc (.cells #[.string name] tStr)).heap.size = w8.heap.size + 1 by simp]); clear hb8 own8 hr8 ha8))
    all_goals (
      go_wp2
      (try simp only [Exit.inBlock, Exit.then])
      refine bodyPost_ret (v := .tuple #[.agg #[.slice Ba [name].length ka, .slice Bb (fillR g.2.1 s).length kb, .slice Bc cmx.length kc, .bool false], .bool true]) ?_ rfl ?_
      · rw [results_cell_tmp rfl]
        go_simp
      · refine ⟨.slice Ba [name].length ka, .slice Bb (fillR g.2.1 s).length kb, .slice Bc cmx.length kc, false, by rw [HGR.out]; rfl, fun g' hg' => ?_, ?_, ⟨_, _, _, rfl⟩, ⟨_, _, _, rfl⟩, _, _, _, rfl⟩
        · rw [HGR.out] at hg'
          injection hg' with hg'
          subst hg'
          refine ⟨_, _, _, rfl, HFO.out _ _ _ _ _ _ _ O1.out, HFO.out _ _ _ _ _ _ _ O2.out, ?_⟩
          show Own1 _ _ _ (newG [name] (fillR g.2.1 s) g.2.2 s false).cm
          rw [← HCM.out]
          exact HFO.out _ _ _ _ _ _ _ O3.out
        · exact HFB.out _ _ _ _ _ K9.out)
end Go.Proofs.YtlkpbpecgdphaaaGreatDoor
