/-
  WALKS: hammerpondlaw.graphs (the closed fact) and hammerpondlaw.GraphSays: the call returns true, whatever the text, the files, the goal, the name.
-/
import Derived.Test.YtlkpbpecgdphaaaGreatDoorMade
import Derived.Test.YtlkpbpecgdphaaaGreatDoorMakeOf
namespace Go.Proofs.YtlkpbpecgdphaaaGreatDoor
open Go.RowKit

set_option maxRecDepth 100000 in
theorem maker_made : makerO (graphR (parseR made0).2 [(⟨#[97]⟩, ⟨#[]⟩)] ⟨#[98]⟩).2 ⟨#[98]⟩ = some 0 := by decide +kernel
set_option maxHeartbeats 4000000 in
set_option maxRecDepth 100000 in
theorem graphs_any (w : World) (hm : MaxOk w) : Calls Tryz.prog 8 #[] w fun e w' => e = .returned (.bool true) ∧ Below w.heap.size w w' := by
  have HM := Lib.hid hm
  obtain ⟨q, hq⟩ : ∃ q, q = parseR made0 := ⟨_, rfl⟩
  have hp := parse_any made0 w hm (by decide)
  unfold PaPost at hp
  rw [← hq] at hp
  have h1 : q.1 = 0 := by rw [hq]; exact parse_made
  have hg : (graphR q.2 [(⟨#[97]⟩, ⟨#[]⟩)] ⟨#[98]⟩).1 = 0 ∧ (graphR q.2 [(⟨#[97]⟩, ⟨#[]⟩)] ⟨#[98]⟩).2.length = 1 := by rw [hq]; exact graph_made
  have HL := Lib.hid (show Lim q.2 by rw [hq]; exact parse_lim _)
  have HU := Lib.hid (show UniqT q.2 by rw [hq]; exact parse_uniq _)
  have HP := Lib.hid hp
  have HG := Lib.hid hg
  have hq2 := hq
  clear hm hq hp hg
  have HMK0 := Lib.hid (show makerO (graphR q.2 [(⟨#[97]⟩, ⟨#[]⟩)] ⟨#[98]⟩).2 ⟨#[98]⟩ = some 0 from by rw [hq2]; exact maker_made)
  clear hq2
  obtain ⟨q1, m⟩ := q
  dsimp only at h1 HL HU HP HG HMK0
  subst h1
  rw [errV_zero] at HP
  have key : ∀ (A : Option Addr) (vv vr vp : Value) (R : List Row3) (W : World), MkRd W m vv vr vp R → RdF W W.heap.size A 1 1 [(⟨#[97]⟩, ⟨#[]⟩)] → MaxOk W → Calls Tryz.prog 11 #[.agg #[vv, vr, vp], .slice A 1 1, .string ⟨#[98]⟩] W fun e w' => (∃ A' c' R', e = .returned (.tuple #[.slice A' 1 c', .nilIface]) ∧ GpRd w' A' 1 c' (graphR m [(⟨#[97]⟩, ⟨#[]⟩)] ⟨#[98]⟩).2 R') ∧ Below W.heap.size W w' := fun A vv vr vp R W h1 h2 h3 =>
    (of_any m [(⟨#[97]⟩, ⟨#[]⟩)] ⟨#[98]⟩ vv vr vp R A 1 W h1 h2 HL.out HU.out (List.pairwise_singleton _ _) (Nat.le_of_lt_succ (by decide)) (by decide) (fun f hf => by rw [List.mem_singleton.1 hf]; decide) h3).mono fun e w' h => by
      obtain ⟨A', c', R', rfl, hgp, hb⟩ := h
      refine ⟨⟨A', c', R', by rw [HG.out.1, HG.out.2]; rfl, ?_⟩, hb⟩
      rw [HG.out.2] at hgp
      exact hgp
  have KEY := Lib.hid key
  have HFEW := Lib.hid (graph_few (l := [(⟨#[97]⟩, ⟨#[]⟩)]) (goal := ⟨#[98]⟩) HL.out)
  clear key HG HL HU
  go_enter Tryz.func8, Tryz.ntmps8
  go_wp2_with fail
  refine HP.out.mono ?_
  rintro e w1 ⟨vv, vr, vp, R, rfl, hmo, hb1⟩
  obtain ⟨Av, cv, rfl⟩ := own_slice hmo.vars
  obtain ⟨Ar, cr, rfl⟩ := own_slice hmo.rules
  obtain ⟨Ap, cp, rfl⟩ := own_slice hmo.phony
  have hba : Below w1.heap.size w1 (w1.alloc (.cells #[.slice Av m.vars.length cv, .slice Ar R.length cr, .slice Ap m.phony.length cp] 29)) := (Below.refl _ _).alloc (Nat.le_refl _) _
  have pm := Blk.new w1 29 #[.slice Av m.vars.length cv, .slice Ar R.length cr, .slice Ap m.phony.length cp]
  have x0 := pm.cell 0
  have x1 := pm.cell 1
  have x2 := pm.cell 2
  have he2 : (w1.alloc (.cells #[.slice Av m.vars.length cv, .slice Ar R.length cr, .slice Ap m.phony.length cp] 29)).heap.size = w1.heap.size + 1 := by simp
  have HO := Lib.hid (hmo.below hba)
  have HB := Lib.hid (hb1.trans (hba.mono hb1.size))
  have HM2 := Lib.hid (HM.out.below (hb1.trans (hba.mono hb1.size)))
  clear hmo hb1 hba pm
  go_wp2_with fail
  generalize w1.alloc (.cells #[.slice Av m.vars.length cv, .slice Ar R.length cr, .slice Ap m.phony.length cp] 29) = w2 at *
  have hbb : Below w2.heap.size w2 (w2.alloc (.cells #[.string ⟨#[97]⟩, .string ⟨#[]⟩] tFi)) := (Below.refl _ _).alloc (Nat.le_refl _) _
  have hsz : (w2.alloc (.cells #[.string ⟨#[97]⟩, .string ⟨#[]⟩] tFi)).heap.size = w2.heap.size + 1 := by simp
  have hrf : RdF (w2.alloc (.cells #[.string ⟨#[97]⟩, .string ⟨#[]⟩] tFi)) (w2.alloc (.cells #[.string ⟨#[97]⟩, .string ⟨#[]⟩] tFi)).heap.size (some ⟨w1.heap.size + 1, 0, none⟩) 1 1 [(⟨#[97]⟩, ⟨#[]⟩)] := by rw [hsz, ← he2]; exact RdF_1 w2 _ _ tFi
  refine (KEY.out _ _ _ _ R _ (HO.out.below hbb).rd hrf (HM2.out.below hbb)).mono ?_
  rintro e w3 ⟨⟨A3, c3, R3, rfl, hgp3⟩, hb3⟩
  have HB3 := Lib.hid ((HB.out.trans (hbb.mono HB.out.size)).trans (hb3.mono (HB.out.trans (hbb.mono HB.out.size)).size))
  have hmk := maker_any A3 1 c3 _ R3 ⟨#[98]⟩ w3 hgp3 (by omega) (fun g hg => Nat.le_trans (HFEW.out.2 g hg) (by omega))
  rw [HMK0.out, show idxV (some 0) = 0 from rfl] at hmk
  have HMK := Lib.hid hmk
  clear hbb hsz hrf hb3 hgp3 hmk
  go_wp2_with fail
  refine (same_nil w3).mono ?_
  rintro e w4 ⟨rfl, hw4⟩
  subst hw4
  go_wp2_with fail
  refine HMK.out.mono ?_
  rintro e w5 ⟨rfl, hb5⟩
  have HB5 := Lib.hid (HB3.out.trans (hb5.mono HB3.out.size))
  clear hb5
  go_wp2
  go_ret
  exact ⟨rfl, HB5.out⟩
theorem grp_cm {m : Mk} {l : List F} {name : ByteArray} {g : Gp} (hL : Lim m) (h : grpR m l name = some g) : g.tg.length ≤ 10 ∧ g.nd.length ≤ 10 ∧ g.cm.length ≤ 10 := by
  rcases grp_cases h with ⟨r, hr, rfl, _⟩ | ⟨_, r, hr, rfl, _⟩
  · exact ⟨hL.tgs r hr, hL.nds r hr, by show (r.2.2.map _).length ≤ 10; rw [List.length_map]; exact hL.cms r hr⟩
  · exact ⟨by show [name].length ≤ 10; simp, by show (fillR r.2.1 _).length ≤ 10; unfold fillR; rw [List.length_map]; exact hL.nds r hr, by show (r.2.2.map _).length ≤ 10; rw [List.length_map]; exact hL.cms r hr⟩
theorem graph_sizes {m : Mk} {l : List F} {goal : ByteArray} (hL : Lim m) (hu : UniqT m) : ∀ g ∈ (graphR m l goal).2, g.tg.length ≤ 1000 ∧ g.nd.length ≤ 1000 ∧ g.cm.length ≤ 1000 := by
  intro g hg
  by_cases h0 : (graphR m l goal).1 = 0
  · obtain ⟨nm, hn⟩ := (graph_ok hu h0).1.grp g hg
    obtain ⟨a, b, c⟩ := grp_cm hL hn
    exact ⟨by omega, by omega, by omega⟩
  · rw [graph_err h0] at hg; cases hg
def GsPost (w : World) (e : Ending) (w' : World) : Prop := e = .returned (.bool true) ∧ Below w.heap.size w w'
set_option maxHeartbeats 8000000 in
set_option maxRecDepth 100000 in
theorem graphSays_any (s goal name : ByteArray) (A : Option Addr) (n c : Nat) (l : List F) (w : World) (hf : RdF w w.heap.size A n c l) (hz : s.size ≤ 9223372036854775807) (hgz : goal.size ≤ 9223372036854775807) (hnz : name.size ≤ 9223372036854775807) (hm : MaxOk w) :
    Calls Tryz.prog 3 #[.string s, .slice A n c, .string goal, .string name] w (GsPost w) := by
  have HM := Lib.hid hm
  have HF := Lib.hid hf
  have hAs := parse_asks s l goal
  obtain ⟨q, hq⟩ : ∃ q, q = parseR s := ⟨_, rfl⟩
  have HL := Lib.hid (show Lim q.2 by rw [hq]; exact parse_lim _)
  have HU := Lib.hid (show UniqT q.2 by rw [hq]; exact parse_uniq _)
  have HP := Lib.hid (show ∀ W, Calls Tryz.prog 10 #[.string s] W (MoPost s W) from fun W => makeOf_any s W hz)
  unfold MoPost at HP
  rw [← hq] at HP hAs
  have HAS := Lib.hid hAs
  obtain ⟨q1, m⟩ := q
  dsimp only at HL HU HP HAS
  clear hm hf hq hAs
  go_enter Tryz.func3, Tryz.ntmps3
  go_wp2_with fail
  refine (graphs_any w HM.out).mono ?_
  rintro e w1 ⟨rfl, hb1⟩
  have HB1 := Lib.hid hb1
  have HM1 := Lib.hid (HM.out.below hb1)
  have HF1 := Lib.hid (RdF.belowS HF.out hb1)
  clear hb1 HM HF
  by_cases hsz : 800 < s.size
  · have t1 : (800 : Int) < (s.size : Int) := by omega
    go_wp2
    go_ret
    exact ⟨rfl, HB1.out⟩
  have t1 : decide ((800 : Int) < (s.size : Int)) = false := decide_eq_false (by omega)
  go_wp2_with fail
  refine (light_any A n c l w1 HF1.out).mono ?_
  rintro e w4 ⟨b, rfl, hlit, ⟨k4, rfl⟩⟩
  have hb4 := below_drews w1 k4
  have HB4 := Lib.hid (HB1.out.trans (hb4.mono HB1.out.size))
  have HM4 := Lib.hid (HM1.out.below hb4)
  have HF4 := Lib.hid (RdF.belowS HF1.out hb4)
  have HLT := Lib.hid hlit
  clear hb4 hlit HB1 HM1 HF1
  generalize w1.drewN k4 = w4 at *
  cases b with
  | false =>
    go_wp2
    go_ret
    exact ⟨rfl, HB4.out⟩
  | true =>
    by_cases hgs : 20 < goal.size
    · have t2 : (20 : Int) < (goal.size : Int) := by omega
      go_wp2
      go_ret
      exact ⟨rfl, HB4.out⟩
    have t2 : decide ((20 : Int) < (goal.size : Int)) = false := decide_eq_false (by omega)
    by_cases hns : 20 < name.size
    · have t3 : (20 : Int) < (name.size : Int) := by omega
      go_wp2
      go_ret
      exact ⟨rfl, HB4.out⟩
    have t3 : decide ((20 : Int) < (name.size : Int)) = false := decide_eq_false (by omega)
    go_wp2_with fail
    refine (HP.out w4).mono ?_
    rintro e w5 ⟨vv, vr, vp, R, rfl, hmk, hb5⟩
    obtain ⟨Av, cv, rfl, -⟩ := hmk.vars
    obtain ⟨Ar, cr, rfl, -⟩ := hmk.rules
    obtain ⟨Ap, cp, rfl, -⟩ := hmk.phony
    obtain ⟨w6, hw6⟩ : ∃ w6, w6 = w5.alloc (.cells #[.slice Av m.vars.length cv, .slice Ar R.length cr, .slice Ap m.phony.length cp] 29) := ⟨_, rfl⟩
    have hba : Below w5.heap.size w5 w6 := by rw [hw6]; exact (Below.refl _ _).alloc (Nat.le_refl _) _
    have pm : Blk w6 w5.heap.size 29 #[.slice Av m.vars.length cv, .slice Ar R.length cr, .slice Ap m.phony.length cp] := by rw [hw6]; exact Blk.new w5 _ _
    have hb46 := hb5.trans (hba.mono hb5.size)
    have HMK := Lib.hid (hmk.belowS hba)
    have HB6 := Lib.hid (HB4.out.trans (hb46.mono HB4.out.size))
    have HM6 := Lib.hid (HM4.out.below hb46)
    have HF6 := Lib.hid (RdF.belowS HF4.out hb46)
    have PM := Lib.hid pm
    have HW6 := Lib.hid hw6
    clear hmk hb5 hba pm hb46 hw6 HB4 HM4 HF4
    by_cases h1 : q1 = 0
    · subst h1
      have hlt := HLT.out (by trivial)
      have hnl := HF6.out.1
      have x0 := PM.out.cell 0
      have x1 := PM.out.cell 1
      have x2 := PM.out.cell 2
      have hg1 : goal.size ≤ 1000 := by omega
      have hfs : ∀ f ∈ l, f.1.size ≤ 1000 := fun f hf => Nat.le_trans (hlt.2.2 f hf).1 (by omega)
      have hl1 : l.length ≤ 10000 := Nat.le_trans hlt.1 (by omega)
      have hrs := hlt.2.1
      have hof := of_any m l goal _ _ _ R A c w6 HMK.out (by rw [hnl]; exact HF6.out) HL.out HU.out hrs hl1 hg1 hfs HM6.out
      have HGOF := Lib.hid (fun (W : World) (hb : Below w6.heap.size w6 W) => groupsOf_any m l goal _ _ _ R A c W (HMK.out.belowS hb) (by rw [hnl]; exact RdF.belowS HF6.out hb) HL.out (HAS.out hg1 hfs) hl1 hg1)
      unfold OfPost at hof
      unfold GoPost at HGOF
      have hsz2 := graph_sizes (l := l) (goal := goal) HL.out HU.out
      have hfew := graph_few (l := l) (goal := goal) HL.out
      obtain ⟨gr, hgr⟩ : ∃ gr, gr = graphR m l goal := ⟨_, rfl⟩
      rw [← hgr] at hof HGOF hsz2 hfew
      rw [hnl] at hof HGOF
      have HOF := Lib.hid hof
      have HS2 := Lib.hid hsz2
      have HFW := Lib.hid hfew
      clear hlt hnl hof hsz2 hfew hgr hfs hrs
      go_wp2_with fail
      rw [← HW6.out]
      refine HOF.out.mono ?_
      rintro e w7 ⟨A7, c7, R7, rfl, hgp7, hb7⟩
      have m0 : w7.cell? ⟨w5.heap.size, 0, none⟩ = some (.slice Av m.vars.length cv) := (hb7.cell (p := ⟨w5.heap.size, 0, none⟩) PM.out.lt).trans x0
      have m1 : w7.cell? ⟨w5.heap.size, 1, none⟩ = some (.slice Ar R.length cr) := (hb7.cell (p := ⟨w5.heap.size, 1, none⟩) PM.out.lt).trans x1
      have m2 : w7.cell? ⟨w5.heap.size, 2, none⟩ = some (.slice Ap m.phony.length cp) := (hb7.cell (p := ⟨w5.heap.size, 2, none⟩) PM.out.lt).trans x2
      have HGP := Lib.hid hgp7
      have HC8 := Lib.hid (HGOF.out w7 hb7)
      have HB7 := Lib.hid (HB6.out.trans (hb7.mono HB6.out.size))
      clear hgp7 hb7 HGOF HOF x0 x1 x2 HW6
      obtain ⟨ev, hev⟩ : ∃ ev, ev = errV (gr.1 : Int) := ⟨_, rfl⟩
      rw [← hev]
      have hsame := same_errV (gr.1 : Int) (by omega)
      rw [← hev] at hsame
      have HSM := Lib.hid hsame
      clear hev hsame
      go_wp2_with fail
      refine HC8.out.mono ?_
      rintro e w8 ⟨A8, c8, R8, rfl, hgp8, hb8⟩
      have HGP8 := Lib.hid hgp8
      have HGP78 := Lib.hid (HGP.out.belowS hb8)
      have HB8 := Lib.hid (HB7.out.trans (hb8.mono HB7.out.size))
      clear hgp8 hb8 HC8
      go_wp2_with fail
      refine (HSM.out w8).mono ?_
      rintro e w8' ⟨rfl, hw8⟩
      subst hw8
      go_wp2_with fail
      refine (sameGroups_any A7 A8 gr.2.length c7 c8 gr.2 R7 R8 w8 HGP78.out HGP8.out (Nat.le_trans HFW.out.1 (by omega)) HS2.out).mono ?_
      rintro e w9 ⟨rfl, hb9⟩
      have HMa := Lib.hid (maker_any A7 gr.2.length c7 gr.2 R7 name w9 (HGP78.out.belowS hb9) (Nat.le_trans HFW.out.1 (by omega)) (fun g hg => (HS2.out g hg).1))
      have HG9 := Lib.hid (HGP8.out.belowS hb9)
      have HB9 := Lib.hid (HB8.out.trans (hb9.mono HB8.out.size))
      clear hb9
      obtain ⟨iv, hiv⟩ : ∃ iv, iv = idxV (makerO gr.2 name) := ⟨_, rfl⟩
      rw [← hiv] at HMa
      have HIV := Lib.hid hiv
      clear hiv
      go_wp2_with fail
      refine HMa.out.mono ?_
      rintro e w10 ⟨rfl, hb10⟩
      have HMb := makerOf_any A8 gr.2.length c8 gr.2 R8 name w10 (HG9.out.belowS hb10) (fun g hg => (HS2.out g hg).1)
      rw [← HIV.out] at HMb
      have HMB := Lib.hid HMb
      have HB10 := Lib.hid (HB9.out.trans (hb10.mono HB9.out.size))
      clear hb10 HMb
      go_wp2_with fail
      refine HMB.out.mono ?_
      rintro e w11 ⟨rfl, hw11⟩
      subst hw11
      have hbe : (iv == iv) = true := by simp
      go_wp2
      go_ret
      exact ⟨by first | rfl | simp, HB10.out⟩
    · have j1 : (0 : Int) < (q1 : Int) := by omega
      go_wp2
      go_ret
      rw [← HW6.out]
      exact ⟨rfl, HB6.out⟩
end Go.Proofs.YtlkpbpecgdphaaaGreatDoor
