/-
  WALK: hammerpondtop.TopOrder: the call returns true, whatever the text, the files, the goal.
-/
import Derived.Test.YtlkpbpecgdphaaaGreatDoorMade
namespace Go.Proofs.YtlkpbpecgdphaaaGreatDoor
open Go.RowKit

def ToPost (w : World) (e : Ending) (w' : World) : Prop := e = .returned (.bool true) ∧ Below w.heap.size w w'
def ToRel (w3 : World) (n : Nat) (i : Value) (wr : World) : Prop := ∃ k : Nat, k ≤ n ∧ i = .int .i64 k ∧ Below w3.heap.size w3 wr
set_option maxHeartbeats 8000000 in
set_option maxRecDepth 100000 in
theorem topOrder_any (s goal : ByteArray) (A : Option Addr) (n c : Nat) (l : List F) (w : World) (hf : RdF w w.heap.size A n c l) (hz : s.size ≤ 9223372036854775807) (hgz : goal.size ≤ 9223372036854775807) (hm : MaxOk w) :
    Calls Tryz.prog 5 #[.string s, .slice A n c, .string goal] w (ToPost w) := by
  have HM := Lib.hid hm
  have HF := Lib.hid hf
  obtain ⟨q, hq⟩ : ∃ q, q = parseR s := ⟨_, rfl⟩
  have HL := Lib.hid (show Lim q.2 by rw [hq]; exact parse_lim _)
  have HU := Lib.hid (show UniqT q.2 by rw [hq]; exact parse_uniq _)
  have HP := Lib.hid (show ∀ W, MaxOk W → Calls Tryz.prog 27 #[.string s] W (fun e w' => ∃ vv vr vp R, e = .returned (.tuple #[.agg #[vv, vr, vp], errV q.1]) ∧ MkOw w' W.heap.size q.2 vv vr vp R ∧ Below W.heap.size W w') from fun W h => by rw [hq]; exact parse_any s W h hz)
  obtain ⟨q1, m⟩ := q
  dsimp only at HL HU HP
  clear hm hf hq
  go_enter Tryz.func5, Tryz.ntmps5
  go_wp2_with fail
  refine (made_any w HM.out).mono ?_
  rintro e w1 ⟨rfl, hb1⟩
  have HB1 := Lib.hid hb1
  have HM1 := Lib.hid (HM.out.below hb1)
  have HF1 := Lib.hid (RdF.belowS HF.out hb1)
  clear hb1 HM HF
  go_wp2_with fail
  refine (HP.out w1 HM1.out).mono ?_
  rintro e w2 ⟨vv, vr, vp, R, rfl, hmo, hb2⟩
  obtain ⟨Av, cv, rfl⟩ := own_slice hmo.vars
  obtain ⟨Ar, cr, rfl⟩ := own_slice hmo.rules
  obtain ⟨Ap, cp, rfl⟩ := own_slice hmo.phony
  have hba : Below w2.heap.size w2 (w2.alloc (.cells #[.slice Av m.vars.length cv, .slice Ar R.length cr, .slice Ap m.phony.length cp] 29)) := (Below.refl _ _).alloc (Nat.le_refl _) _
  have pm := Blk.new w2 29 #[.slice Av m.vars.length cv, .slice Ar R.length cr, .slice Ap m.phony.length cp]
  have hb3 := hb2.trans (hba.mono hb2.size)
  have HO := Lib.hid (hmo.below hba)
  have HB3 := Lib.hid (HB1.out.trans (hb3.mono HB1.out.size))
  have HM3 := Lib.hid (HM1.out.below hb3)
  have HF3 := Lib.hid (RdF.belowS HF1.out hb3)
  have PM := Lib.hid pm
  obtain ⟨w3, hw3⟩ : ∃ w3, w3 = w2.alloc (.cells #[.slice Av m.vars.length cv, .slice Ar R.length cr, .slice Ap m.phony.length cp] 29) := ⟨_, rfl⟩
  rw [← hw3] at HO HB3 HM3 HF3 PM
  have HW3 := Lib.hid hw3
  clear hmo hb2 hba pm hb3 HM1 HF1 HP hw3
  by_cases h1 : q1 = 0
  · subst h1
    rw [errV_zero]
    by_cases hsz : 800 < s.size
    · have t1 : (800 : Int) < (s.size : Int) := by omega
      go_wp2
      go_ret
      rw [← HW3.out]
      exact ⟨rfl, HB3.out⟩
    have t1 : decide ((800 : Int) < (s.size : Int)) = false := decide_eq_false (by omega)
    go_wp2_with fail
    rw [← HW3.out]
    clear HW3
    refine (light_any A n c l w3 HF3.out).mono ?_
    rintro e w4 ⟨b, rfl, hlit, ⟨k4, rfl⟩⟩
    have hb4 := below_drews w3 k4
    have HO4 := Lib.hid (HO.out.below hb4)
    have HB4 := Lib.hid (HB3.out.trans (hb4.mono HB3.out.size))
    have HM4 := Lib.hid (HM3.out.below hb4)
    have HF4 := Lib.hid (RdF.belowS HF3.out hb4)
    have PM4 := Lib.hid (show Blk (w3.drewN k4) w2.heap.size 29 _ from (hb4.block _ PM.out.lt).trans PM.out)
    have HLT := Lib.hid hlit
    clear hb4 hlit HO HB3 HM3 HF3 PM
    generalize w3.drewN k4 = w4 at *
    cases b with
    | false =>
      go_wp2
      go_ret
      exact ⟨rfl, HB4.out⟩
    | true =>
      by_cases hgs : 20 < goal.size
      · have t2 : (20 : Int) < (goal.size : Int) := by omega
        go_wp2
        go_ret
        exact ⟨rfl, HB4.out⟩
      have t2 : decide ((20 : Int) < (goal.size : Int)) = false := decide_eq_false (by omega)
      have hnl := HF4.out.1
      have hlt := HLT.out rfl
      have x0 := PM4.out.cell 0
      have x1 := PM4.out.cell 1
      have x2 := PM4.out.cell 2
      have hof := of_any m l goal _ _ _ R A c w4 HO4.out.rd (by rw [hnl]; exact HF4.out) HL.out HU.out hlt.2.1 (Nat.le_trans hlt.1 (by omega)) (by omega) (fun f hf => Nat.le_trans (hlt.2.2 f hf).1 (by omega)) HM4.out
      rw [hnl] at hof
      have HOF := Lib.hid hof
      have HRS := Lib.hid hlt.2.1
      have hn24 : n ≤ 24 := by rw [← hnl]; exact hlt.1
      have HNL := Lib.hid hnl
      clear hnl hlt hof
      go_wp2_with fail
      refine HOF.out.mono ?_
      rintro e w5 ⟨A5, c5, R5, rfl, hgp, hb5⟩
      have HB5 := Lib.hid (HB4.out.trans (hb5.mono HB4.out.size))
      have HF5 := Lib.hid (RdF.belowS HF4.out hb5)
      have hfew := graph_few (l := l) (goal := goal) HL.out
      by_cases h0 : (graphR m l goal).1 = 0
      · obtain ⟨hok, hlast⟩ := graph_ok HU.out h0
        rw [h0, errV_zero]
        clear HOF
        revert hgp hfew hok hlast
        generalize (graphR m l goal).2 = out
        intro hgp hfew hok hlast
        have HGP := Lib.hid hgp
        have HFEW := Lib.hid hfew
        have HOK := Lib.hid hok
        have HLA := Lib.hid hlast
        have hno10 : out.length ≤ 10 := hfew.1
        have HMK := Lib.hid (fun (t : ByteArray) (W : World) (hb : Below w5.heap.size w5 W) => maker_any A5 out.length c5 out R5 t W (hgp.belowS hb) (by omega) (fun g hg => Nat.le_trans (hfew.2 g hg) (by omega)))
        have HGET := Lib.hid (fun (x : ByteArray) (W : World) (hb : Below w5.heap.size w5 W) => get_any A n c l x W (RdF.belowS HF5.out hb) HRS.out (by omega))
        clear hgp hfew hok hlast hb5 HF4 HO4 PM4 x0 x1 x2 HB4
        go_wp2
        go_loopw [11] (fun i wr => ToRel w5 out.length i wr) (fun i _ => out.length - (intOf i).toNat)
        case atStart => exact ⟨0, Nat.zero_le _, rfl, Below.refl _ _⟩
        case round =>
          obtain ⟨k, hk, rfl, hbw⟩ := hrel
          have HBW := Lib.hid hbw
          clear hbw
          by_cases hlt : k < out.length
          · obtain ⟨x, hx⟩ : ∃ x, R5[k]? = some x := ⟨_, List.getElem?_eq_getElem (by rw [HGP.out.rows.1]; exact hlt)⟩
            obtain ⟨g, hg⟩ : ∃ g, out[k]? = some g := ⟨_, List.getElem?_eq_getElem (by rw [HGP.out.len]; exact hlt)⟩
            have hkz : (k : Int) < (out.length : Int) := by omega
            have hk0 : (0 : Int) ≤ (k : Int) := by omega
            have HX := Lib.hid hx
            have HG := Lib.hid hg
            have hfg := HFEW.out.2 g (List.mem_of_getElem? hg)
            obtain ⟨b', off, hA5, _, -⟩ := HGP.out.rows.at_ hx
            subst hA5
            obtain ⟨⟨At, ct, e1, -⟩, ⟨An, cn, e2, -⟩, -⟩ := HGP.out.each k x g hx hg
            obtain ⟨x1, x2, x3, x4⟩ := x
            dsimp only at e1 e2
            subst e1 e2
            have HCE := Lib.hid (fun (W : World) (hb : Below w5.heap.size w5 W) => show W.cell? ⟨b', off + k * 4, none⟩ = some (.slice At g.tg.length ct) ∧ W.cell? ⟨b', off + k * 4 + 1, none⟩ = some (.slice An g.nd.length cn) ∧ RdS W W.heap.size At g.tg.length ct g.tg ∧ RdS W W.heap.size An g.nd.length cn g.nd from by
              obtain ⟨b2, o2, h2, _, c1, c2, -⟩ := (HGP.out.belowS hb).rows.at_ HX.out
              injection h2 with h2
              injection h2 with h2 h3
              subst h2 h3
              obtain ⟨⟨At', ct', e1, r1⟩, ⟨An', cn', e2, r2⟩, -⟩ := (HGP.out.belowS hb).each k _ g HX.out HG.out
              injection e1 with e1 _ e1'
              injection e2 with e2 _ e2'
              subst e1 e1' e2 e2'
              exact ⟨c1, c2, r1, r2⟩)
            have hndl := Nat.le_trans (HCE.out wr HBW.out).2.2.2.2.1 (HCE.out wr HBW.out).2.2.2.2.2.1
            unfold maxLen at hndl
            clear hx hg
            go_wp2
            go_loopw [12] (fun i wr => ToRel w5 g.tg.length i wr) (fun i _ => g.tg.length - (intOf i).toNat)
            case atStart => exact ⟨0, Nat.zero_le _, rfl, HBW.out⟩
            case round =>
              obtain ⟨k2, hk2, rfl, hbw2⟩ := hrel
              have HBW2 := Lib.hid hbw2
              obtain ⟨d1, d2, r1, r2⟩ := HCE.out wr hbw2
              clear hbw2
              by_cases hlt2 : k2 < g.tg.length
              · obtain ⟨t, ht⟩ : ∃ t, g.tg[k2]? = some t := ⟨_, List.getElem?_eq_getElem hlt2⟩
                obtain ⟨b2, o2, rfl, _, ct2⟩ := r1.at_ ht
                have hkz2 : (k2 : Int) < (g.tg.length : Int) := by omega
                have hmk := HMK.out t wr HBW2.out
                rw [HOK.out.target HG.out (List.mem_of_getElem? ht), show idxV (some k) = (k : Int) from rfl] at hmk
                have HC := Lib.hid hmk
                clear hmk ht r1 r2 d2
                go_wp2_with fail
                refine HC.out.mono ?_
                rintro e w6 ⟨rfl, hb6⟩
                have HB6 := Lib.hid (HBW2.out.trans (hb6.mono HBW2.out.size))
                clear hb6
                go_wp2
                go_roundw
                case rel => exact ⟨k2 + 1, by omega, by go_num, HB6.out⟩
                case measure => simp [intOf]; omega
              · obtain rfl : k2 = g.tg.length := by omega
                clear r1 r2
                go_wp2
                go_loopw [13] (fun i wr => ToRel w5 g.nd.length i wr) (fun i _ => g.nd.length - (intOf i).toNat)
                case atStart => exact ⟨0, Nat.zero_le _, rfl, HBW2.out⟩
                case round =>
                  obtain ⟨k3, hk3, rfl, hbw3⟩ := hrel
                  have HBW3 := Lib.hid hbw3
                  obtain ⟨d1', d2', r1, r2⟩ := HCE.out wr hbw3
                  clear hbw3
                  by_cases hlt3 : k3 < g.nd.length
                  · obtain ⟨t, ht⟩ : ∃ t, g.nd[k3]? = some t := ⟨_, List.getElem?_eq_getElem hlt3⟩
                    obtain ⟨b2, o2, rfl, hb2l, ct2⟩ := r2.at_ ht
                    have hkz3 : (k3 : Int) < (g.nd.length : Int) := by omega
                    have HC := Lib.hid (HMK.out t wr HBW3.out)
                    have HND := Lib.hid (HOK.out.need HG.out (List.mem_of_getElem? ht))
                    clear ht r1 r2
                    go_wp2_with fail
                    refine HC.out.mono ?_
                    rintro e w6 ⟨rfl, hb6⟩
                    have HB6 := Lib.hid (HBW3.out.trans (hb6.mono HBW3.out.size))
                    obtain ⟨d3, d4, -, -⟩ := HCE.out w6 HB6.out
                    have ct3 : w6.cell? ⟨b2, o2 + k3, none⟩ = some (.string t) := (hb6.cell (p := ⟨b2, o2 + k3, none⟩) hb2l).trans ct2
                    have HG6 := Lib.hid (HGET.out t w6 HB6.out)
                    clear hb6
                    rcases HND.out with ⟨j, hj, hjk⟩ | ⟨hj, hhas⟩
                    · rw [hj, show idxV (some j) = (j : Int) from rfl]
                      have j1 : decide ((j : Int) ≥ (k : Int)) = false := decide_eq_false (by omega)
                      have j1' : decide ((k : Int) ≤ (j : Int)) = false := decide_eq_false (by omega)
                      have j2 : decide ((j : Int) < 0) = false := decide_eq_false (by omega)
                      go_wp2_with fail
                      refine HG6.out.mono ?_
                      rintro e w7 ⟨rfl, hb7⟩
                      have HB7 := Lib.hid (HB6.out.trans (hb7.mono HB6.out.size))
                      clear hb7
                      go_wp2
                      go_roundw
                      case rel => exact ⟨k3 + 1, by omega, by go_num, HB7.out⟩
                      case measure => simp [intOf]; omega
                    · rw [hj, show idxV none = -1 from rfl]
                      have j1 : decide ((-1 : Int) ≥ (k : Int)) = false := decide_eq_false (by omega)
                      have j1' : decide ((k : Int) ≤ -1) = false := decide_eq_false (by omega)
                      go_wp2_with fail
                      refine HG6.out.mono ?_
                      rw [hhas]
                      rintro e w7 ⟨rfl, hb7⟩
                      have HB7 := Lib.hid (HB6.out.trans (hb7.mono HB6.out.size))
                      clear hb7
                      go_wp2
                      go_roundw
                      case rel => exact ⟨k3 + 1, by omega, by go_num, HB7.out⟩
                      case measure => simp [intOf]; omega
                  · obtain rfl : k3 = g.nd.length := by omega
                    go_wp2
                    go_roundw
                    case rel => exact ⟨k + 1, by omega, by go_num, HBW3.out⟩
                    case measure => simp [intOf]; omega
          · have hke : k = out.length := by omega
            subst hke
            have HG6 := Lib.hid (HGET.out goal wr HBW.out)
            clear HMK HGET
            go_wp2_with fail
            refine HG6.out.mono ?_
            rintro e w7 ⟨rfl, hb7⟩
            have hb57 := HBW.out.trans (hb7.mono HBW.out.size)
            have HB7 := Lib.hid hb57
            rcases HLA.out with ⟨hnil, hhas⟩ | ⟨o, g, ho, hgm⟩
            · subst hnil
              rw [hhas]
              clear hb7 hb57
              go_wp2
              go_ret
              exact ⟨rfl, HB5.out.trans (HB7.out.mono HB5.out.size)⟩
            · have hlen : out.length = o.length + 1 := by rw [ho]; simp
              have hgl : out[o.length]? = some g := by rw [ho]; simp
              obtain ⟨x, hx⟩ : ∃ x, R5[o.length]? = some x := ⟨_, List.getElem?_eq_getElem (by rw [HGP.out.rows.1]; omega)⟩
              have hgp7 := HGP.out.belowS hb57
              obtain ⟨b', off, rfl, _, c1, -⟩ := hgp7.rows.at_ hx
              obtain ⟨⟨At, ct, e1, r1⟩, -⟩ := hgp7.each o.length x g hx hgl
              rw [e1] at c1
              have hfg := HFEW.out.2 g (List.mem_of_getElem? hgl)
              have HIN := Lib.hid (in_any At g.tg.length ct g.tg goal w7 r1 (by omega))
              rw [inT_mem.2 hgm] at HIN
              have z1 : ((out.length : Int) == 0) = false := by rw [beq_eq_false_iff_ne]; omega
              have z2 : (out.length : Int) - 1 = (o.length : Int) := by omega
              have z3 : (o.length : Int) < (out.length : Int) := by omega
              have HZ2 := Lib.hid z2
              clear hb7 hb57 hgp7 hx hgl r1 e1 ho hgm z2
              go_wp2_with fail
              refine HIN.out.mono ?_
              rintro e w8 ⟨rfl, rfl⟩
              go_wp2
              go_ret
              exact ⟨rfl, HB5.out.trans (HB7.out.mono HB5.out.size)⟩
      · have he : errV ((graphR m l goal).1 : Int) = .iface 80 (.int .i64 ((graphR m l goal).1 : Int)) := by unfold errV; rw [if_neg (by omega)]
        have hnil := graph_err h0
        rw [he]
        have hl0 : (graphR m l goal).2.length = 0 := by rw [hnil]; rfl
        rw [hl0]
        clear hgp hb5 hfew hnil hl0
        go_wp2
        go_ret
        exact ⟨rfl, HB5.out⟩
  · have he : errV (q1 : Int) = .iface 80 (.int .i64 (q1 : Int)) := by unfold errV; rw [if_neg (by omega)]
    rw [he]
    go_wp2
    go_ret
    rw [← HW3.out]
    exact ⟨rfl, HB3.out⟩
end Go.Proofs.YtlkpbpecgdphaaaGreatDoor
