/-
  WALK: (*graph.walk).visit: what visitR says, by induction on the room that is left.
-/
import Derived.Test.YtlkpbpecgdphaaaGreatDoorGw
namespace Go.Proofs.YtlkpbpecgdphaaaGreatDoor
open Go.RowKit

theorem group_any (pw : Nat) (m : Mk) (l : List F) (vr vp vf vm vg : Value) (R : List Row3) (name : ByteArray) (w : World) (h : WkRd w pw m l vr vp vf vm vg R) (hL : Lim m) (hs : Rises l) (hl : l.length ≤ 1000000) (hn : name.size ≤ 1000) (hm : MaxOk w) :
    Calls Tryz.prog 67 #[ptr pw, .string name] w (GrPost m l name w) := by
  cases he : explO m.rules name with
  | some k => exact group_exp pw m l vr vp vf vm vg R name w h hL k he
  | none => exact group_pat pw m l vr vp vf vm vg R name w h hL hs hl hn hm he
theorem GpOwn.parts {w : World} {B : Nat} {a b c : Value} {ph : Bool} {g : Gp} (h : GpOwn w B (.agg #[a, b, c, .bool ph]) g) : Own1 w B a g.tg ∧ Own1 w B b g.nd ∧ Own1 w B c g.cm ∧ ph = g.ph := by
  obtain ⟨a', b', c', e, h1, h2, h3⟩ := h
  simp only [Value.agg.injEq, Array.mk.injEq, List.cons.injEq, Value.bool.injEq, and_true] at e
  obtain ⟨rfl, rfl, rfl, e4⟩ := e
  exact ⟨h1, h2, h3, e4⟩
theorem grp_sizes {m : Mk} {l : List F} {name : ByteArray} {g : Gp} (hL : Lim m) (hn : name.size ≤ 1000) (h : grpR m l name = some g) : g.tg.length ≤ 10 ∧ g.nd.length ≤ 10 ∧ ∀ x ∈ g.tg, x.size ≤ 2000 := by
  rcases grp_cases h with ⟨r, hr, rfl, _⟩ | ⟨_, r, hr, rfl, _⟩
  · exact ⟨hL.tgs r hr, hL.nds r hr, fun x hx => Nat.le_trans (hL.tsz r hr x hx) (by omega)⟩
  · refine ⟨by show [name].length ≤ 10; simp, ?_, fun x hx => ?_⟩
    · show (fillR r.2.1 _).length ≤ 10
      unfold fillR; rw [List.length_map]; exact hL.nds r hr
    · rw [List.mem_singleton.1 hx]; omega
set_option maxRecDepth 100000 in
set_option maxHeartbeats 8000000 in
theorem visit_any (w0 : World) (pw bm : Nat) (m : Mk) (l : List F) (goal : ByteArray) (vr vp vf : Value) (R : List Row3) (hM : MRd w0 m l vr vp vf R) (hL : Lim m) (hu : UniqT m) (hs : Rises l) (hl : l.length ≤ 1000000) (hU : ∀ x ∈ univ m l goal, x.size ≤ 1000) :
    ∀ (n : Nat) (name : ByteArray) (way : List ByteArray) (out : List Gp) (D : Nat) (vg : Value) (R4 : List Row4) (w : World), name ∈ univ m l goal → room (univ m l goal) way < n → WayOk m way → D + 10 * n ≤ 1000000 → FewG out → Wk w0 w pw bm vr vp vf vg (10 * out.length + D) way out R4 →
      Calls Tryz.prog 37 #[ptr pw, .string name] w (VsPost w0 pw bm vr vp vf D way (visitR m l n name way out) vg w) := by
  intro n
  induction n with
  | zero => intro _ _ _ _ _ _ _ _ h; omega
  | succ n ih =>
  intro name way out D vg R4 w hname hroom hway hD hfew h
  have hns := hU name hname
  obtain ⟨nm, hnm, hset⟩ := h.map
  have hlk := hset.look name (by unfold maxLen; omega)
  have c3 : w.cell? ⟨pw, 3, none⟩ = some (.map (some bm)) := h.blk.cell 3
  obtain ⟨r, hr⟩ : ∃ r, r = visitR m l (n + 1) name way out := ⟨_, rfl⟩
  rw [← hr]
  unfold visitR at hr
  have HR := Lib.hid hr
  have IH := Lib.hid ih
  have HM := Lib.hid hM
  have HL := Lib.hid hL
  have HU := Lib.hid hu
  have HS := Lib.hid hs
  have HUS := Lib.hid hU
  have HW := Lib.hid hway
  have HF := Lib.hid hfew
  have WK := Lib.hid h
  have HN := Lib.hid hname
  clear hr ih hset
  cases h1 : inT way name with
  | true =>
    rw [h1] at hlk
    have hr := HR.out
    rw [if_pos h1] at hr
    have HR := Lib.hid hr
    have HX : VsPost w0 pw bm vr vp vf D way r vg w (.returned (errV ((8 : Nat) : Int))) w := by
      rw [HR.out]
      exact ⟨rfl, WK.out.low, fun h => by cases h⟩
    have HX := Lib.hid HX
    clear hr hM hL hu hs hU hway hfew h hname h1
    go_enter Tryz.func37, Tryz.ntmps37
    go_wp2
    go_ret
    exact HX.out
  | false =>
    rw [h1] at hlk
    have hr := HR.out
    rw [if_neg (by rw [h1]; simp)] at hr
    obtain ⟨A, c, hvg, hgp⟩ := WK.out.rd4
    subst hvg
    have c4 : w.cell? ⟨pw, 4, none⟩ = some (.slice A out.length c) := WK.out.blk.cell 4
    have HC := Lib.hid (maker_any A out.length c out R4 name w hgp (by have := hfew.1; omega) (fun g hg => by have := hfew.2 g hg; omega))
    have H1 := Lib.hid h1
    have HR := Lib.hid hr
    clear hr hM hL hu hs hU hway hfew h hname h1 hgp
    go_enter Tryz.func37, Tryz.ntmps37
    go_wp2_with fail
    refine HC.out.mono ?_
    rintro e w1 ⟨rfl, hb1⟩
    have WK1 := Lib.hid (WK.out.belowW hb1)
    have FV1 := Lib.hid (show Fv pw bm (.slice A out.length c) w w1 from Fv.below hb1)
    clear hb1 HC
    cases h2 : makerO out name with
    | some i =>
      have hr := HR.out
      rw [if_pos (by rw [h2]; rfl)] at hr
      have hi0 : (0 : Int) ≤ idxV (some i) := by show (0 : Int) ≤ (i : Int); omega
      have HX : VsPost w0 pw bm vr vp vf D way r (.slice A out.length c) w (.returned (errV ((0 : Nat) : Int))) w1 := by
        rw [hr]
        exact ⟨rfl, WK1.out.low, fun _ => ⟨_, _, WK1.out, FV1.out, NewV.refl _ _⟩⟩
      have HX := Lib.hid HX
      clear hr h2
      go_wp2
      go_ret
      exact HX.out
    | none =>
      have hr := HR.out
      rw [if_neg (by rw [h2]; simp)] at hr
      have HR := Lib.hid hr
      have hi0 : idxV none = -1 := rfl
      rw [hi0]
      have HG := Lib.hid (group_any pw m l vr vp vf _ _ R name w1 (HM.out.wk WK1.out.low WK1.out.blk) HL.out HS.out hl hns (HM.out.mx.below WK1.out.low))
      have hsz1 := WK1.out.low.size
      clear hr h2
      go_wp2_with fail
      refine HG.out.mono ?_
      rintro e w2 ⟨ga, gb, gc, ph, rfl, hgo, hb2, hsa, hsb, hsc⟩
      have hb3 : Below w2.heap.size w2 (w2.alloc (.cells #[ga, gb, gc, .bool ph] tGr)) := (Below.refl _ _).alloc (Nat.le_refl _) _
      have p3 := Blk.new w2 tGr #[ga, gb, gc, .bool ph]
      have WK2 := Lib.hid (WK1.out.belowW hb2)
      have WK3 := Lib.hid (WK2.out.belowW hb3)
      have FV3 := Lib.hid ((FV1.out.trans (NewV.refl _ _) (Fv.below hb2)).trans (NewV.refl _ _) (Fv.below hb3))
      have P3 := Lib.hid p3
      have hpv : (Value.slice A out.length c).ownBlock ≠ some w2.heap.size := fun e => by have := (WK2.out.grp.lt _ e).2; omega
      have hpx : w2.heap.size ≠ pw := fun e => by have := WK2.out.blk.lt; omega
      have HPV := Lib.hid hpv
      cases hg : grpR m l name with
      | none =>
        rw [Option.isSome_none]
        have hr := HR.out
        rw [hg] at hr
        dsimp only at hr
        have hgv := given_any pw m l vr vp vf _ _ R name _ (HM.out.wk WK3.out.low WK3.out.blk) HS.out hl
        obtain ⟨ev, hev⟩ : ∃ ev, ev = errV (if has l name = true then 0 else 5) := ⟨_, rfl⟩
        rw [← hev] at hgv
        have HEV := Lib.hid hev
        have HGV := Lib.hid hgv
        clear hgv hev
        have HR2 := Lib.hid hr
        clear hr hb2 hb3 hgo HG hpv
        obtain ⟨Ga, na, ka, rfl⟩ := hsa
        obtain ⟨Gb, nb, kb, rfl⟩ := hsb
        obtain ⟨Gc, nc, kc, rfl⟩ := hsc
        clear p3
        go_wp2_with fail
        generalize w2.alloc (.cells #[.slice Ga na ka, .slice Gb nb kb, .slice Gc nc kc, .bool ph] tGr) = w3 at *
        refine HGV.out.mono ?_
        rintro e w4 ⟨rfl, hb4⟩
        have HX : VsPost w0 pw bm vr vp vf D way r (.slice A out.length c) w (.returned ev) w4 := by
          rw [HR2.out, HEV.out]
          cases has l name with
          | true => exact ⟨rfl, (WK3.out.belowW hb4).low, fun _ => ⟨_, _, WK3.out.belowW hb4, FV3.out.trans (NewV.refl _ _) (Fv.below hb4), NewV.refl _ _⟩⟩
          | false => exact ⟨rfl, (WK3.out.belowW hb4).low, fun h => by cases h⟩
        have HX := Lib.hid HX
        clear hb4
        go_wp2
        go_ret
        exact HX.out
      | some g =>
        clear hsa hsb hsc
        rw [Option.isSome_some]
        have hr := HR.out
        rw [hg] at hr
        dsimp only at hr
        obtain ⟨o1, o2, o3, hph⟩ := (hgo g hg).parts
        subst hph
        have hszs := grp_sizes HL.out hns hg
        have O1 := Lib.hid (show Own1 _ w0.heap.size ga g.tg from (own1_below o1 hb3).mono hsz1)
        have O2 := Lib.hid (show Own1 _ w0.heap.size gb g.nd from (own1_below o2 hb3).mono hsz1)
        have O3 := Lib.hid (show Own1 _ w0.heap.size gc g.cm from (own1_below o3 hb3).mono hsz1)
        obtain ⟨f, hf⟩ : ∃ f : ByteArray → List Gp → Nat × List Gp, f = fun x o => visitR m l n x (way ++ g.tg) o := ⟨_, rfl⟩
        rw [← hf] at hr
        have hff : ∀ x ∈ g.nd, ∀ o, FewG o → (f x o).1 = 0 → FewG (f x o).2 := fun x _ o ho _ => by rw [hf]; exact visit_few HL.out n x _ o ho
        have hvn := visitNeeds_any w0 pw bm vr vp vf f D way out g ga gb gc (.slice A out.length c) R4 _ WK3.out O1.out O2.out HF.out (by omega) hszs.1 hszs.2.1 hszs.2.2 (tg_fresh HW.out hg (fun h => by rw [inT_mem.2 h] at H1; cases H1.out)) hff
          (fun x hx o v Q W ho hwk => by rw [hf]; exact IH.out x (way ++ g.tg) o (D + 10) v Q W (grp_needs hg x hx) (room_need hg HN.out H1.out hroom) (way_step HU.out HW.out hg) (by omega) ho hwk)
        obtain ⟨q, hq⟩ : ∃ q, q = needsR f g.nd out := ⟨_, rfl⟩
        have hql : q.1 = 0 → FewG q.2 := fun h0 => by
          rw [hq] at h0 ⊢
          have key : ∀ nd o, (∀ x ∈ nd, ∀ o, FewG o → (f x o).1 = 0 → FewG (f x o).2) → FewG o → (needsR f nd o).1 = 0 → FewG (needsR f nd o).2 := by
            intro nd
            induction nd with
            | nil => exact fun o _ ho _ => ho
            | cons x nd ih =>
              intro o hx ho h0
              unfold needsR at h0 ⊢
              by_cases h3 : (f x o).1 ≠ 0
              · rw [if_pos h3] at h0; exact absurd h0 h3
              · rw [if_neg h3] at h0 ⊢
                exact ih _ (fun y hy => hx y (List.mem_cons_of_mem _ hy)) (hx x (by simp) o ho (by simpa using h3)) h0
          exact key g.nd out hff HF.out h0
        rw [← hq] at hr hvn
        have HQL := Lib.hid hql
        have HVN := Lib.hid hvn
        have HR2 := Lib.hid hr
        obtain ⟨Ga, ka, rfl⟩ := own_shape o1
        obtain ⟨Gb, kb, rfl⟩ := own_shape o2
        obtain ⟨Gc, kc, rfl⟩ := own_shape o3
        have z0 := p3.cell 0
        have z1 := p3.cell 1
        have z2 := p3.cell 2
        have z3 := p3.cell 3
        clear hr hb2 hb3 p3 hgo HG hpv hf hff hvn hq hql o1 o2 o3 hszs
        go_wp2_with fail
        generalize w2.alloc (.cells #[.slice Ga g.tg.length ka, .slice Gb g.nd.length kb, .slice Gc g.cm.length kc, .bool g.ph] tGr) = w3 at *
        refine HVN.out.mono ?_
        rintro e w4 ⟨rfl, hbl, hok⟩
        by_cases h0 : q.1 = 0
        · obtain ⟨vg2, R42, hwk2, hfv2, hnv2⟩ := hok h0
          have hfq := HQL.out h0
          have hr := HR2.out
          rw [if_neg (by simpa using h0)] at hr
          have he : errV (q.1 : Int) = .nilIface := by rw [h0]; rfl
          rw [he]
          obtain ⟨A2, c2, hv2, -⟩ := hwk2.rd4
          subst hv2
          have d4 : w4.cell? ⟨pw, 4, none⟩ = some (.slice A2 q.2.length c2) := hwk2.blk.cell 4
          have HWK2 := Lib.hid hwk2
          have P4 := Lib.hid (Blk.fv P3.out WK3.out hfv2 hpx HPV.out)
          have O14 := Lib.hid (Own1.fv O1.out WK3.out hfv2)
          have O24 := Lib.hid (Own1.fv O2.out WK3.out hfv2)
          have O34 := Lib.hid (Own1.fv O3.out WK3.out hfv2)
          have FV4 := Lib.hid (FV3.out.trans (NewV.refl _ _) hfv2)
          have NV4 := Lib.hid (NewV.trans FV3.out.size (NewV.refl _ _) hnv2)
          have hql := hfq.1
          clear hok hwk2 hfv2 hnv2 HVN HQL
          by_cases h10 : 10 ≤ q.2.length
          · rw [if_pos h10] at hr
            have t1 : (10 : Int) ≤ (q.2.length : Int) := by omega
            have HX : VsPost w0 pw bm vr vp vf D way r (.slice A out.length c) w (.returned (errV ((2 : Nat) : Int))) w4 := by
              rw [hr]
              exact ⟨rfl, HWK2.out.low, fun h => by cases h⟩
            have HX := Lib.hid HX
            clear hr
            go_wp2
            go_ret
            exact HX.out
          · rw [if_neg h10] at hr
            have t1 : decide ((10 : Int) ≤ (q.2.length : Int)) = false := decide_eq_false (by omega)
            have HR3 := Lib.hid hr
            obtain ⟨gi, gz, hgi, hgz, hgs, hgb, hgc⟩ := gr_parts
            have HGI := Lib.hid hgi
            have HGZ := Lib.hid hgz
            have HGS := Lib.hid hgs
            have HGB := Lib.hid hgb
            have y0 : w4.cell? ⟨w2.heap.size, 0, none⟩ = some (.slice Ga g.tg.length ka) := P4.out.cell 0
            have y1 : w4.cell? ⟨w2.heap.size, 1, none⟩ = some (.slice Gb g.nd.length kb) := P4.out.cell 1
            have y2 : w4.cell? ⟨w2.heap.size, 2, none⟩ = some (.slice Gc g.cm.length kc) := P4.out.cell 2
            have y3 : w4.cell? ⟨w2.heap.size, 3, none⟩ = some (.bool g.ph) := P4.out.cell 3
            have HO1 := Lib.hid (show ((w4.alloc (.cells #[.slice Ga g.tg.length ka, .slice Gb g.nd.length kb, .slice Gc g.cm.length kc, .bool g.ph] tGr)).drew).ownsRow w0.heap.size tGr 4 (.slice A2 q.2.length c2) q.2.length (gcells R42) from HWK2.out.grp.alloc _)
            have HX1 := Lib.hid (show RdX ((w4.alloc (.cells #[.slice Ga g.tg.length ka, .slice Gb g.nd.length kb, .slice Gc g.cm.length kc, .bool g.ph] tGr)).drew) 4 (some ⟨w4.heap.size, 0, none⟩) 1 [.slice Ga g.tg.length ka, .slice Gb g.nd.length kb, .slice Gc g.cm.length kc, .bool g.ph] from RdX.new w4 4 #[.slice Ga g.tg.length ka, .slice Gb g.nd.length kb, .slice Gc g.cm.length kc, .bool g.ph] tGr rfl (by intro u hu; simp at hu; rcases hu with rfl | rfl | rfl | rfl <;> rfl))
            have HAL := Lib.hid (show Below w4.heap.size w4 ((w4.alloc (.cells #[.slice Ga g.tg.length ka, .slice Gb g.nd.length kb, .slice Gc g.cm.length kc, .bool g.ph] tGr)).drew) from ((Below.refl _ w4).alloc (Nat.le_refl _) _).drew)
            have HSZ1 := Lib.hid (show w0.heap.size ≤ ((w4.alloc (.cells #[.slice Ga g.tg.length ka, .slice Gb g.nd.length kb, .slice Gc g.cm.length kc, .bool g.ph] tGr)).drew).heap.size from (HWK2.out.low.alloc HWK2.out.low.size _).size)
            have HPW := Lib.hid (show Blk ((w4.alloc (.cells #[.slice Ga g.tg.length ka, .slice Gb g.nd.length kb, .slice Gc g.cm.length kc, .bool g.ph] tGr)).drew) pw tWk _ from HWK2.out.blk.alloc _)
            have hpw2 : pw ≠ w2.heap.size := fun e => hpx e.symm
            have d4' : w4.drew.cell? ⟨pw, 4, none⟩ = some (.slice A2 q.2.length c2) := d4
            have d4'' : (w4.alloc (.cells #[.slice Ga g.tg.length ka, .slice Gb g.nd.length kb, .slice Gc g.cm.length kc, .bool g.ph] tGr)).cell? ⟨pw, 4, none⟩ = some (.slice A2 q.2.length c2) := HPW.out.cell 4
            clear hr hgi hgz hgs hgb
            go_wp2_with fail
            go_region_law
              (first
                | (refine step_append_rd _ (by rfl) (.tmp 50) (.tmp 52) _ (by rfl) w0.heap.size tGr gi gz 4 80 Tryz.underlying32 HGI.out HGZ.out HGS.out HGB.out hgc (by decide) _ q.2.length _ (by rfl) HO1.out (some ⟨w4.heap.size, 0, none⟩) 1 1 [.slice Ga g.tg.length ka, .slice Gb g.nd.length kb, .slice Gc g.cm.length kc, .bool g.ph] (by rfl) HX1.out (by unfold maxLen; omega) (by omega) HSZ1.out ?_; intro v5 w5 own5 g5 l5; obtain ⟨A5, k5, rfl⟩ := own_shape own5; obtain ⟨hw5, hf5, hn5⟩ := Wk.more HWK2.out O14.out O24.out O34.out HAL.out own5 g5 l5; have hb5 := HPW.out.grown g5 (row_block_ne HWK2.out.grp HWK2.out.blk (by decide)); have m4 : w5.cell? ⟨pw, 4, none⟩ = some (.slice A2 q.2.length c2) := hb5.cell 4; have n4 := hb5.free 4; have HW5 := Lib.hid hw5; have HF5 := Lib.hid (FV4.out.trans NV4.out hf5); have HN5 := Lib.hid (NewV.trans FV4.out.size NV4.out hn5); clear hw5 hf5 hn5 hb5 own5 g5 l5))
            all_goals (
              have hx : VsPost w0 pw bm vr vp vf D way r (.slice A out.length c) w (.returned (errV ((0 : Nat) : Int))) (w5.setCell ⟨pw, 4, none⟩ (.slice A5 (q.2.length + 1) k5)) := by
                rw [HR3.out]
                exact ⟨rfl, HW5.out.low, fun _ => ⟨_, _, HW5.out.bound (by rw [List.length_append, List.length_singleton]; omega), HF5.out, HN5.out⟩⟩
              have HX := Lib.hid hx
              clear hx
              go_wp2
              go_ret
              exact HX.out)
        · have hr := HR2.out
          rw [if_pos h0] at hr
          have he : errV (q.1 : Int) = .iface 80 (.int .i64 (q.1 : Int)) := by unfold errV; rw [if_neg (by omega)]
          have HX : VsPost w0 pw bm vr vp vf D way r (.slice A out.length c) w (.returned (errV (q.1 : Int))) w4 := by
            rw [hr]
            exact ⟨rfl, hbl, fun h => absurd h h0⟩
          rw [he] at HX ⊢
          have HX := Lib.hid HX
          clear hok hbl hr
          go_wp2
          go_ret
          exact HX.out
end Go.Proofs.YtlkpbpecgdphaaaGreatDoor
