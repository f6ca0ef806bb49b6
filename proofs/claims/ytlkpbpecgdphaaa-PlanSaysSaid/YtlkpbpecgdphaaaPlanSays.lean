/-
  WALK: hammerpondlaw.PlanSays: the call returns true, whatever the texts, the files, the records, the answers.
-/
import Derived.Test.YtlkpbpecgdphaaaPt
namespace Go.Proofs.Ytlkpbpecgdphaaa
open Go.RowKit

theorem ps_next {K : Kp} {k : Nat} {x : ByteArray × Rcd} (h : ∀ x ∈ K.take k, ShortK x) (hx : K[k]? = some x) (hs : ShortK x) : ∀ y ∈ K.take (k + 1), ShortK y := fun y hy => by
  rw [List.take_add_one, hx, Option.toList_some] at hy
  rcases List.mem_append.1 hy with q | q
  · exact h y q
  · rw [List.mem_singleton.1 q]; exact hs
theorem few_of {l0 : List ByteArray} {l1 l2 : List F} (h : LitR l0 l1 l2) : FewR (l0, l1, l2) := by
  have a := h.1.1
  have b := h.2.1
  have c := h.2.2.1
  exact ⟨by show l0.length ≤ 1000; omega, by show l1.length ≤ 1000; omega, by show l2.length ≤ 1000; omega⟩
set_option maxHeartbeats 16000000 in
set_option maxRecDepth 100000 in
theorem planSays_any (s goal : ByteArray) (A AK AS : Option Addr) (n c nK cK nS cS : Nat) (l : List F) (K : Kp) (st0 : List Bool) (w : World) (hf : RdF w w.heap.size A n c l) (hk : KpRd w AK nK cK K) (hst : RdX w 1 AS nS (bcells st0)) (hz : s.size ≤ 9223372036854775807) (hgz : goal.size ≤ 9223372036854775807) :
    Calls Try.prog 3 #[.string s, .string goal, .slice A n c, .slice AK nK cK, .slice AS nS cS] w (PsPost w) := by
  have HF := Lib.hid hf
  have HK := Lib.hid hk
  have HST := Lib.hid hst
  have HKL := Lib.hid hk.len
  have hKC := hk.cap
  have hAs := parse_asks s l goal
  obtain ⟨q, hq⟩ : ∃ q, q = parseR s := ⟨_, rfl⟩
  have HL := Lib.hid (show Lim q.2 by rw [hq]; exact parse_lim _)
  have HU := Lib.hid (show UniqT q.2 by rw [hq]; exact parse_uniq _)
  have HP := Lib.hid (show ∀ W, Calls Try.prog 7 #[.string s] W (MoPost s W) from fun W => makeOf_any s W hz)
  unfold MoPost at HP
  rw [← hq] at HP hAs
  have HAS := Lib.hid hAs
  obtain ⟨q1, m⟩ := q
  dsimp only at HL HU HP HAS
  clear hf hq hAs hk hst
  go_enter Try.func3, Try.ntmps3
  go_wp2_with fail
  refine (plans_any w).mono ?_
  rintro e w1 ⟨rfl, hb1⟩
  have HB1 := Lib.hid hb1
  have HF1 := Lib.hid (RdF.belowS HF.out hb1)
  clear hb1 HF
  by_cases hsz : 800 < s.size
  · have t1 : (800 : Int) < (s.size : Int) := by omega
    go_wp2
    go_ret
    exact ⟨rfl, HB1.out⟩
  have t1 : decide ((800 : Int) < (s.size : Int)) = false := decide_eq_false (by omega)
  go_wp2_with fail
  refine (light_any A n c l w1 HF1.out).mono ?_
  rintro e w4 ⟨b, rfl, hlit, ⟨k4, rfl⟩⟩
  have hb4 := below_drews w1 k4
  have HB4 := Lib.hid (HB1.out.trans (hb4.mono HB1.out.size))
  have HF4 := Lib.hid (RdF.belowS HF1.out hb4)
  have HLT := Lib.hid hlit
  clear hb4 hlit HB1 HF1
  generalize w1.drewN k4 = w4 at *
  cases b with
  | false =>
    go_wp2
    go_ret
    exact ⟨rfl, HB4.out⟩
  | true =>
    by_cases hgs : 20 < goal.size
    · have t2 : (20 : Int) < (goal.size : Int) := by omega
      go_wp2
      go_ret
      exact ⟨rfl, HB4.out⟩
    have t2 : decide ((20 : Int) < (goal.size : Int)) = false := decide_eq_false (by omega)
    by_cases hks : 12 < nK
    · have t3 : (12 : Int) < (nK : Int) := by omega
      go_wp2
      go_ret
      exact ⟨rfl, HB4.out⟩
    have t3 : decide ((12 : Int) < (nK : Int)) = false := decide_eq_false (by omega)
    have HK4 := Lib.hid (HK.out.belowS HB4.out)
    have HST4 := Lib.hid (HST.out.lowU HB4.out)
    clear HK HST hsz
    go_wp2
    go_loopw [12] (fun i wr => PsRel w4 K nK i wr) (fun i _ => nK - (intOf i).toNat)
    case atStart => exact ⟨0, Nat.zero_le _, by go_num, by simp, Below.refl _ _⟩
    case round =>
      obtain ⟨k, hkn, rfl, hsk, hb⟩ := hrel
      have HSK := Lib.hid hsk
      have HB := Lib.hid hb
      have HK5 := Lib.hid (HK4.out.belowS hb)
      clear hb hsk
      by_cases hlt : k < nK
      · obtain ⟨⟨nm, r⟩, hx⟩ : ∃ x, K[k]? = some x := ⟨_, List.getElem?_eq_getElem (by rw [HKL.out]; exact hlt)⟩
        obtain ⟨b, off, A0, n0, c0, A1, n1, c1, A2, n2, c2, rfl, hbl, k0, k1, k2, k3, r0, r1, r2⟩ := HK5.out.each k nm r hx
        have hkz : (k : Int) < (nK : Int) := by omega
        have HX := Lib.hid hx
        have HLR := Lib.hid (lightR_any A0 A1 A2 n0 n1 n2 c0 c1 c2 r.1 r.2.1 r.2.2 wr r0 r1 r2)
        clear hx r0 r1 r2 t1 t2 t3
        by_cases hnm : 20 < nm.size
        · have t4 : (20 : Int) < (nm.size : Int) := by omega
          go_wp2
          go_ret
          exact ⟨rfl, HB4.out.trans (HB.out.mono HB4.out.size)⟩
        have t4 : decide ((20 : Int) < (nm.size : Int)) = false := decide_eq_false (by omega)
        have HNM := Lib.hid (show nm.size ≤ 20 from by omega)
        clear hnm
        go_wp2_with fail
        refine HLR.out.mono ?_
        rintro e w5 ⟨b5, rfl, hlr, hb5⟩
        have HB5 := Lib.hid (HB.out.trans (hb5.mono HB.out.size))
        have HLR5 := Lib.hid hlr
        clear hb5 hlr HLR k0 k1 k2 k3
        cases b5 with
        | false =>
          go_wp2
          go_ret
          exact ⟨rfl, HB4.out.trans (HB5.out.mono HB4.out.size)⟩
        | true =>
          go_wp2
          go_roundw
          case rel => exact ⟨k + 1, by omega, by go_num, ps_next HSK.out HX.out ⟨HNM.out, few_of (HLR5.out (by trivial))⟩, HB5.out⟩
          case measure => simp [intOf]; omega
      · obtain rfl : k = nK := by omega
        have hall : ∀ x ∈ K, ShortK x := by
          have := HSK.out
          rwa [List.take_of_length_le (by rw [HKL.out]; exact Nat.le_refl _)] at this
        have HFK := Lib.hid (show FewK K from fun s r h => (hall _ (lookK_mem h)).2)
        have HSZ := Lib.hid (show ∀ x ∈ K, x.1.size ≤ maxLen from fun x hx => Nat.le_trans (hall x hx).1 (by unfold maxLen; omega))
        have HF5 := Lib.hid (RdF.belowS HF4.out HB.out)
        have HST5 := Lib.hid (HST4.out.lowU HB.out)
        have HBw := Lib.hid (HB4.out.trans (HB.out.mono HB4.out.size))
        clear hall HSK HK4 HF4 HST4 HB4 t1 t2 t3 HB
        generalize hw5 : wr = w5 at *
        clear hw5 wr
        go_wp2_with fail
        refine (HP.out w5).mono ?_
        rintro e w6 ⟨vv, vr, vp, R, rfl, hmk, hb6⟩
        obtain ⟨Av, cv, rfl, -⟩ := hmk.vars
        obtain ⟨Ar, cr, rfl, -⟩ := hmk.rules
        obtain ⟨Ap, cp, rfl, -⟩ := hmk.phony
        obtain ⟨w7, hw7⟩ : ∃ w7, w7 = w6.alloc (.cells #[.slice Av m.vars.length cv, .slice Ar R.length cr, .slice Ap m.phony.length cp] 36) := ⟨_, rfl⟩
        have hba : Below w6.heap.size w6 w7 := by rw [hw7]; exact (Below.refl _ _).alloc (Nat.le_refl _) _
        have pm : Blk w7 w6.heap.size 36 #[.slice Av m.vars.length cv, .slice Ar R.length cr, .slice Ap m.phony.length cp] := by rw [hw7]; exact Blk.new w6 _ _
        have hb57 := hb6.trans (hba.mono hb6.size)
        have HMK := Lib.hid (hmk.belowS hba)
        have HB7 := Lib.hid (HBw.out.trans (hb57.mono HBw.out.size))
        have HF7 := Lib.hid (RdF.belowS HF5.out hb57)
        have HK7 := Lib.hid (HK5.out.belowS hb57)
        have HST7 := Lib.hid (HST5.out.lowU hb57)
        have PM := Lib.hid pm
        have HW7 := Lib.hid hw7
        clear hmk hb6 hba pm hb57 hw7 HBw HF5 HK5 HST5
        by_cases h1 : q1 = 0
        · subst h1
          have hlt2 := HLT.out (by trivial)
          have hnl := HF7.out.1
          have x0 := PM.out.cell 0
          have x1 := PM.out.cell 1
          have x2 := PM.out.cell 2
          have hg1 : goal.size ≤ 1000 := by omega
          have hfs : ∀ f ∈ l, f.1.size ≤ 1000 := fun f hf => Nat.le_trans (hlt2.2.2 f hf).1 (by omega)
          have hl1 : l.length ≤ 10000 := Nat.le_trans hlt2.1 (by omega)
          have HNL := Lib.hid (show n ≤ 1000 from by rw [← hnl]; exact Nat.le_trans hlt2.1 (by omega))
          have HRS := Lib.hid hlt2.2.1
          have hgof := groupsOf_any m l goal _ _ _ R A c w7 HMK.out (by rw [hnl]; exact HF7.out) HL.out (HAS.out hg1 hfs) hl1 hg1
          unfold GoPost at hgof
          have hnmo := graph_nm (l := l) (goal := goal) HL.out hfs hg1
          have hfew := graph_few (l := l) (goal := goal) HL.out
          have hgok := graph_ok (l := l) (goal := goal) HU.out
          obtain ⟨gr, hgr⟩ : ∃ gr, gr = graphR m l goal := ⟨_, rfl⟩
          rw [← hgr] at hgof hnmo hfew hgok
          rw [hnl] at hgof
          have HGOF := Lib.hid hgof
          have HNO := Lib.hid hnmo
          have HFW := Lib.hid hfew
          have HGK := Lib.hid hgok
          clear hlt2 hnl hgof hnmo hfew hgok hgr hfs hl1 HAS HP HLT
          go_wp2_with fail
          rw [← HW7.out]
          refine HGOF.out.mono ?_
          rintro e w8 ⟨A8, c8, R8, rfl, hgp8, hb8⟩
          have HGP := Lib.hid hgp8
          have HB8 := Lib.hid (HB7.out.trans (hb8.mono HB7.out.size))
          have HF8 := Lib.hid (RdF.belowS HF7.out hb8)
          have HK8 := Lib.hid (HK7.out.belowS hb8)
          have HST8 := Lib.hid (HST7.out.lowU hb8)
          clear hgp8 hb8 HGOF HF7 HK7 HST7 HB7 x0 x1 x2 HMK PM HW7
          by_cases hg0 : gr.1 = 0
          · rw [hg0]
            have HOK := Lib.hid (HGK.out hg0).1
            have hfw := HFW.out.1
            obtain ⟨gs, hgs⟩ : ∃ gs, gs = gr.2 := ⟨_, rfl⟩
            rw [← hgs] at HGP HNO HOK hfw ⊢
            clear HGK HFW hgs hg0
            obtain ⟨n8, hn8⟩ : ∃ n8, n8 = gs.length := ⟨_, rfl⟩
            rw [← hn8] at HGP hfw ⊢
            have HGL := Lib.hid hn8.symm
            clear hn8
            have HKO := Lib.hid (fun (W : World) (hb : Below w8.heap.size w8 W) => keptOf_any AK k cK K W (HK8.out.belowS hb) (by omega) HSZ.out)
            have hS1 := HKO.out w8 (Below.refl _ _)
            have HS1 := Lib.hid hS1
            clear hS1
            go_wp2_with fail
            refine HS1.out.mono ?_
            rintro e w9 ⟨bm, rfl, hkm, hb9⟩
            have HB9 := Lib.hid hb9
            have hst := stale_any (.map (some bm)) k K A8 A n8 c8 n c gs R8 l w9 (HGP.out.belowS hb9) hkm HFK.out (RdF.belowS HF8.out hb9) HRS.out HNO.out.gs (by omega) HNL.out
            have hlen := staleUpto_len K l gs gs.length
            rw [show staleUpto K l gs gs.length = staleR K l gs from rfl, HGL.out] at hlen
            have hrst := fun (W : World) (hb : Below w8.heap.size w8 W) => refStale_any K A8 A AK n8 c8 n c k cK gs R8 l W (HGP.out.belowS hb) (HK8.out.belowS hb) (RdF.belowS HF8.out hb) HRS.out HNO.out.gs (fun g hg => (HNO.out g hg).2.2.2.1) (by omega) HNL.out (by omega)
            obtain ⟨sg, hsg⟩ : ∃ sg, sg = staleR K l gs := ⟨_, rfl⟩
            rw [← hsg] at hst hlen
            simp only [← hsg] at hrst
            have HST9 := Lib.hid hst
            have HSL := Lib.hid hlen
            have HRST := Lib.hid hrst
            clear hb9 hkm hst hlen hrst hsg
            go_wp2_with fail
            refine HST9.out.mono ?_
            rintro e w10 ⟨rfl, hbk10, hb10⟩
            have HB10 := Lib.hid (HB9.out.trans (hb10.mono HB9.out.size))
            have HBK := Lib.hid hbk10
            obtain ⟨aa, haa⟩ : ∃ aa, aa = w9.heap.size := ⟨_, rfl⟩
            rw [← haa] at HBK ⊢
            have hr10 := HRST.out w10 HB10.out
            have HR10 := Lib.hid hr10
            clear hbk10 hb10 HST9 haa hr10 HRST
            go_wp2_with fail
            refine HR10.out.mono ?_
            rintro e w11 ⟨Ab, cb, rfl, hown, hb11⟩
            have HRB := Lib.hid (rdx_own2 hown)
            have HB11 := Lib.hid (HB10.out.trans (hb11.mono HB10.out.size))
            have HRA := Lib.hid (show RdX w11 1 (some ⟨aa, 0, none⟩) n8 (bcells sg) from by have := bArr_rdx (HBK.out.low hb11); rwa [HSL.out] at this)
            clear hown hb11 HR10 HBK HB10 HB9
            have hne8 : ((n8 : Int) != (n8 : Int)) = false := by simp
            go_wp2
            go_loopw [18] (fun i wr => DrRel w11 n8 i wr) (fun i _ => n8 - (intOf i).toNat)
            case atStart => exact ⟨0, Nat.zero_le _, by go_num, Below.refl _ _⟩
            case round =>
              obtain ⟨j, hj, rfl, hb⟩ := hrel
              have HB := Lib.hid hb
              have HB8r := Lib.hid (HB11.out.trans (hb.mono HB11.out.size))
              clear hb
              by_cases hlt2 : j < n8
              · have hjz : (j : Int) < (n8 : Int) := by omega
                have hgp := HGP.out.belowS HB8r.out
                obtain ⟨x, hx⟩ : ∃ x, R8[j]? = some x := ⟨_, List.getElem?_eq_getElem (by rw [hgp.rows.1]; exact hlt2)⟩
                obtain ⟨g, hg⟩ : ∃ g, gs[j]? = some g := ⟨_, List.getElem?_eq_getElem (by rw [HGL.out]; exact hlt2)⟩
                obtain ⟨b', off, hA, hb5, hc1, hc2, hc3, hc4⟩ := hgp.rows.at_ hx
                subst hA
                obtain ⟨⟨At, ct, e1, r1⟩, ⟨An, cn, e2, -⟩, ⟨Ac, cc, e3, -⟩, e4⟩ := hgp.each j x g hx hg
                obtain ⟨x1, x2, x3, x4⟩ := x
                dsimp only at e1 e2 e3 e4 hc1 hc2 hc3 hc4
                subst e1 e2 e3 e4
                obtain ⟨-, -, -, hgne, hgsz⟩ := HNO.out g (List.mem_of_getElem? hg)
                obtain ⟨t0, rest, htg⟩ : ∃ t0 rest, g.tg = t0 :: rest := by
                  cases hq : g.tg with
                  | nil => exact absurd hq hgne
                  | cons a b => exact ⟨a, b, rfl⟩
                have ht0 : g.tg[0]? = some t0 := by rw [htg]; rfl
                obtain ⟨b5, o5, hA5, hb5l, ct5⟩ := r1.at_ ht0
                subst hA5
                rw [Nat.add_zero] at ct5
                have hnt : 0 < g.tg.length := by rw [htg]; simp
                have hntz : (0 : Int) < (g.tg.length : Int) := by omega
                have ht0s : t0.size ≤ maxLen := Nat.le_trans (hgsz t0 (by rw [htg]; exact List.mem_cons_self)) (by unfold maxLen; omega)
                have HFD := Lib.hid (fun (W : World) (hb : Below wr.heap.size wr W) (vk : Value) (hkm : KpM W vk k K) => planFind_any vk k K (some ⟨b5, o5, none⟩) An Ac g.tg.length ct g.nd.length cn g.cm.length cc g.ph g.tg W hkm HFK.out (RdS.belowS r1 hb) (fun x hx => Nat.le_trans (hgsz x hx) (by unfold maxLen; omega)))
                have hrec : recOfK K g.tg = lookK K t0 := by rw [htg]; rfl
                unfold FdPost at HFD
                rw [hrec] at HFD
                have HKW := Lib.hid (fun (W : World) (hb : Below wr.heap.size wr W) => HKO.out W (HB8r.out.trans (hb.mono HB8r.out.size)))
                have HLK := Lib.hid (fun (W : World) (v : Value) (h : KpM W v k K) => h.look3 t0 ht0s)
                have HS4 := Lib.hid (fun (W : World) (hb : Below wr.heap.size wr W) => show W.cell? ⟨b', off + j * 4, none⟩ = some (.slice (some ⟨b5, o5, none⟩) g.tg.length ct) ∧ W.cell? ⟨b', off + j * 4 + 1, none⟩ = some (.slice An g.nd.length cn) ∧ W.cell? ⟨b', off + j * 4 + 2, none⟩ = some (.slice Ac g.cm.length cc) ∧ W.cell? ⟨b', off + j * 4 + 3, none⟩ = some (.bool g.ph) ∧ W.cell? ⟨b5, o5, none⟩ = some (.string t0) from
                  ⟨(hb.cell (p := ⟨b', off + j * 4, none⟩) hb5).trans hc1, (hb.cell (p := ⟨b', off + j * 4 + 1, none⟩) hb5).trans hc2, (hb.cell (p := ⟨b', off + j * 4 + 2, none⟩) hb5).trans hc3, (hb.cell (p := ⟨b', off + j * 4 + 3, none⟩) hb5).trans hc4, (hb.cell (p := ⟨b5, o5, none⟩) hb5l).trans ct5⟩)
                generalize g.tg.length = nt at *
                generalize g.nd.length = nn at *
                generalize g.cm.length = nc at *
                generalize g.ph = ph at *
                have hcA := (HRA.out.2.2 (by omega))
                obtain ⟨ba0, oa0, eA, hcA⟩ := hcA
                injection eA with eA
                injection eA with eA1 eA2
                subst eA1 eA2
                obtain ⟨bb0, ob0, eB, hcB⟩ := HRB.out.2.2 (by omega)
                subst eB
                obtain ⟨sv, hsv⟩ : ∃ sv, sg[j]? = some sv := ⟨_, List.getElem?_eq_getElem (by rw [HSL.out]; exact hlt2)⟩
                have hsv2 : (bcells sg)[j]? = some (.bool sv) := by simp [bcells, hsv]
                have hqa := hcA j _ hsv2
                have hqb := hcB j _ hsv2
                rw [Nat.zero_add] at hqa
                have hqal := World.block_lt_of_cell? _ _ hqa
                have hqbl := World.block_lt_of_cell? _ _ hqb
                have HSA := Lib.hid (fun (W : World) (hb : Below wr.heap.size wr W) => show W.cell? ⟨aa, j, none⟩ = some (.bool sv) ∧ W.cell? ⟨bb0, ob0 + j, none⟩ = some (.bool sv) from
                  ⟨((HB.out.trans (hb.mono HB.out.size)).cell (p := ⟨aa, j, none⟩) hqal).trans hqa, ((HB.out.trans (hb.mono HB.out.size)).cell (p := ⟨bb0, ob0 + j, none⟩) hqbl).trans hqb⟩)
                obtain ⟨is, his⟩ : ∃ is, is = (lookK K t0).isSome := ⟨_, rfl⟩
                obtain ⟨rc, hrc⟩ : ∃ rc, rc = (lookK K t0).getD noR := ⟨_, rfl⟩
                simp only [← his, ← hrc] at HFD HLK
                have K0 := Lib.hid (show Below wr.heap.size wr wr.drew from (Below.refl _ _).drew)
                have KA := Lib.hid (show Below wr.heap.size wr (wr.alloc (.cells #[.slice none 0 0, .slice none 0 0, .slice none 0 0] tRec)).drew from ((Below.refl _ _).alloc (Nat.le_refl _) _).drew)
                have PA := Lib.hid (show Blk (wr.alloc (.cells #[.slice none 0 0, .slice none 0 0, .slice none 0 0] tRec)).drew wr.heap.size tRec #[.slice none 0 0, .slice none 0 0, .slice none 0 0] from Blk.new wr tRec #[.slice none 0 0, .slice none 0 0, .slice none 0 0])
                clear hgp hx hg hgne hgsz htg ht0 r1 hrec hb5 hb5l hc1 hc2 hc3 hc4 ct5 hcA hcB hsv hsv2 hqa hqb hqal hqbl his hrc ht0s HKO
                go_upto_region 22 with fail
                go_cut [19, 20] (fun p b wx => CutR wr p b is rc wx)
                case first =>
                  go_region_held3 (fun W' => W'.cell? ⟨b', off + j * 4, none⟩ = some (.slice (some ⟨b5, o5, none⟩) nt ct) ∧ W'.cell? ⟨b', off + j * 4 + 1, none⟩ = some (.slice An nn cn) ∧ W'.cell? ⟨b', off + j * 4 + 2, none⟩ = some (.slice Ac nc cc) ∧ W'.cell? ⟨b', off + j * 4 + 3, none⟩ = some (.bool ph) ∧ W'.cell? ⟨b5, o5, none⟩ = some (.string t0))
                    (first | with_reducible exact HS4.out _ (below3 K5.out L2.out _ _ _) | with_reducible exact HS4.out _ (below3 K6.out (Nat.le_refl _) _ _ _) | with_reducible exact HS4.out _ K6.out | with_reducible exact HS4.out _ K5.out | with_reducible exact HS4.out _ K4b.out | with_reducible exact HS4.out _ K4z.out | with_reducible exact HS4.out _ K4.out | with_reducible exact HS4.out _ K3.out | with_reducible exact HS4.out _ K2z.out | with_reducible exact HS4.out _ K2.out | with_reducible exact HS4.out _ KA.out | with_reducible exact HS4.out _ K0.out)
                    (first
                      | (go_at_call 10; (with_reducible refine (HKW.out _ K0.out).mono ?_); rintro e w2 ⟨bk, rfl, hkm, hb2⟩; have hk2 := K0.out.trans (hb2.mono K0.out.size); have K2 := Lib.hid hk2; have M2 := Lib.hid hkm; have hz2 := Below.alloc (Below.refl w2.heap.size w2) (Nat.le_refl _) (.cells #[.slice none 0 0, .slice none 0 0, .slice none 0 0] tRec); have K2z := Lib.hid (hk2.trans (hz2.mono hk2.size)); have M2z := Lib.hid (hkm.below hz2); have P2z := Lib.hid (Blk.new w2 tRec #[.slice none 0 0, .slice none 0 0, .slice none 0 0]); have L2 := Lib.hid hk2.size; clear hk2 hb2 hkm hz2)
                      | (go_at_call 10; (with_reducible refine (HKW.out _ KA.out).mono ?_); rintro e w3 ⟨bk, rfl, hkm, hb2⟩; have K3 := Lib.hid (KA.out.trans (hb2.mono KA.out.size)); have M3 := Lib.hid hkm; have P3 := Lib.hid (PA.out.low hb2); clear hb2 hkm)
                      | (have _g := M2; go_at_call 12; (with_reducible refine (HFD.out _ K2.out _ M2.out).mono ?_); rintro e w4 ⟨u, rfl, hrv, hb4⟩; have hrv' := hrv; obtain ⟨A0, n0, c0, A1, n1, c1, A2, n2, c2, rfl, -, -, -⟩ := hrv'; have hk4 := K2.out.trans (hb4.mono K2.out.size); have K4 := Lib.hid hk4; have RV4 := Lib.hid hrv; have K4z := Lib.hid (hk4.alloc hk4.size (.cells #[.slice none 0 0, .slice none 0 0, .slice none 0 0] tRec)); have K4b := Lib.hid (hk4.alloc hk4.size (.cells #[.slice A0 n0 c0, .slice A1 n1 c1, .slice A2 n2 c2] tRec)); clear hk4 hb4 hrv)
                      | (have _g := M2z; go_at_call 12; (with_reducible refine (HFD.out _ K2z.out _ M2z.out).mono ?_); rintro e w5 ⟨u, rfl, hrv, hb4⟩; have hrv' := hrv; obtain ⟨A0, n0, c0, A1, n1, c1, A2, n2, c2, rfl, -, -, -⟩ := hrv'; have K5 := Lib.hid (K2z.out.trans (hb4.mono K2z.out.size)); have RV5 := Lib.hid hrv; have P5 := Lib.hid (P2z.out.low hb4); obtain ⟨z0, z1, z2⟩ := cells3 P5.out; have f0 := P5.out.free 0; have f1 := P5.out.free 1; have f2 := P5.out.free 2; clear hb4 hrv)
                      | (have _g := M3; go_at_call 12; (with_reducible refine (HFD.out _ K3.out _ M3.out).mono ?_); rintro e w6 ⟨u, rfl, hrv, hb4⟩; have hrv' := hrv; obtain ⟨A0, n0, c0, A1, n1, c1, A2, n2, c2, rfl, -, -, -⟩ := hrv'; have K6 := Lib.hid (K3.out.trans (hb4.mono K3.out.size)); have RV6 := Lib.hid hrv; have P6 := Lib.hid (P3.out.low hb4); obtain ⟨z0, z1, z2⟩ := cells3 P6.out; have f0 := P6.out.free 0; have f1 := P6.out.free 1; have f2 := P6.out.free 2; clear hb4 hrv)
                      | fail)
                  all_goals (
                    go_wp2_with fail
                    go_meet
                    first
                    | exact CutR.fresh RV4.out K4.out
                    | exact CutR.put RV5.out K5.out P5.out L2.out
                    | exact CutR.put RV6.out K6.out P6.out (Nat.le_refl _))
                case rest =>
                  obtain ⟨pg, A0, n0, c0, A1, n1, c1, A2, n2, c2, rfl, rfl, hbk, hrv, hbx⟩ := hcut
                  generalize wc = wx at *
                  have PG := Lib.hid hbk
                  have RV := Lib.hid hrv
                  have BX := Lib.hid hbx
                  have HS5 := Lib.hid (fun (W : World) (hb : Below wx.heap.size wx W) => HS4.out W (hbx.trans (hb.mono hbx.size)))
                  have HK5 := Lib.hid (fun (W : World) (hb : Below wx.heap.size wx W) => HKW.out W (hbx.trans (hb.mono hbx.size)))
                  have K0 := Lib.hid (show Below wx.heap.size wx wx.drew from (Below.refl _ _).drew)
                  have KA := Lib.hid (show Below wx.heap.size wx (wx.alloc (.cells #[.slice none 0 0, .slice none 0 0, .slice none 0 0] tRec)).drew from ((Below.refl _ _).alloc (Nat.le_refl _) _).drew)
                  have PA := Lib.hid (show Blk (wx.alloc (.cells #[.slice none 0 0, .slice none 0 0, .slice none 0 0] tRec)).drew wx.heap.size tRec #[.slice none 0 0, .slice none 0 0, .slice none 0 0] from Blk.new wx tRec #[.slice none 0 0, .slice none 0 0, .slice none 0 0])
                  clear hbk hrv hbx HS4 HKW HFD
                  go_upto_region 23 with fail
                  go_cut [21, 22] (fun p b wy => CutR wx p b is rc wy)
                  case first =>
                    go_region_held3 (fun W' => W'.cell? ⟨b', off + j * 4, none⟩ = some (.slice (some ⟨b5, o5, none⟩) nt ct) ∧ W'.cell? ⟨b', off + j * 4 + 1, none⟩ = some (.slice An nn cn) ∧ W'.cell? ⟨b', off + j * 4 + 2, none⟩ = some (.slice Ac nc cc) ∧ W'.cell? ⟨b', off + j * 4 + 3, none⟩ = some (.bool ph) ∧ W'.cell? ⟨b5, o5, none⟩ = some (.string t0))
                      (first | with_reducible exact HS5.out _ (below3 K2z.out L2.out _ _ _) | with_reducible exact HS5.out _ (below3 K3.out (Nat.le_refl _) _ _ _) | with_reducible exact HS5.out _ K3.out | with_reducible exact HS5.out _ K2b.out | with_reducible exact HS5.out _ K2z.out | with_reducible exact HS5.out _ K2.out | with_reducible exact HS5.out _ KA.out | with_reducible exact HS5.out _ K0.out)
                      (first
                        | (go_at_call 10; (with_reducible refine (HK5.out _ K0.out).mono ?_); rintro e w2 ⟨bk, rfl, hkm, hb2⟩; obtain ⟨D0, m0, d0, D1, m1, d1, D2, m2, d2, hlv, hlr⟩ := HLK.out w2 _ hkm; have hk2 := K0.out.trans (hb2.mono K0.out.size); have K2 := Lib.hid hk2; have hz2 := Below.alloc (Below.refl w2.heap.size w2) (Nat.le_refl _) (.cells #[.slice none 0 0, .slice none 0 0, .slice none 0 0] tRec); have K2z := Lib.hid (hk2.trans (hz2.mono hk2.size)); have P2z := Lib.hid (Blk.new w2 tRec #[.slice none 0 0, .slice none 0 0, .slice none 0 0]); have L2 := Lib.hid hk2.size; have V2 := Lib.hid hlv; have V2z := Lib.hid (hlv.low hz2); have K2b := Lib.hid (hk2.alloc hk2.size (.cells #[.slice D0 m0 d0, .slice D1 m1 d1, .slice D2 m2 d2] tRec)); have hr2 := hlr w2 (Below.refl _ _); have hr2z := hlr _ hz2; obtain ⟨z0, z1, z2⟩ := cells3 P2z.out; have f0 := P2z.out.free 0; have f1 := P2z.out.free 1; have f2 := P2z.out.free 2; clear hk2 hb2 hkm hz2 hlv hlr)
                        | (go_at_call 10; (with_reducible refine (HK5.out _ KA.out).mono ?_); rintro e w3 ⟨bk, rfl, hkm, hb2⟩; obtain ⟨D0, m0, d0, D1, m1, d1, D2, m2, d2, hlv, hlr⟩ := HLK.out w3 _ hkm; have K3 := Lib.hid (KA.out.trans (hb2.mono KA.out.size)); have P3 := Lib.hid (PA.out.low hb2); have V3 := Lib.hid hlv; have hr3 := hlr w3 (Below.refl _ _); obtain ⟨z0, z1, z2⟩ := cells3 P3.out; have f0 := P3.out.free 0; have f1 := P3.out.free 1; have f2 := P3.out.free 2; clear hb2 hkm hlv hlr)
                        | fail)
                    all_goals (
                      go_wp2_with fail
                      go_meet
                      first
                      | exact CutR.fresh V2.out K2.out
                      | exact CutR.put V2z.out K2z.out P2z.out L2.out
                      | exact CutR.put V3.out K3.out P3.out (Nat.le_refl _))
                  case rest =>
                    obtain ⟨pg2, D0, m0, d0, D1, m1, d1, D2, m2, d2, rfl, rfl, hbk2, hrv2, hby⟩ := hcut
                    generalize wc = wy at *
                    have RV1 := Lib.hid (RV.out.low hby)
                    have RV2 := Lib.hid hrv2
                    have PG1 := Lib.hid (PG.out.low hby)
                    have PG2 := Lib.hid hbk2
                    have hbr := BX.out.trans (hby.mono BX.out.size)
                    have BY := Lib.hid (HB.out.trans (hbr.mono HB.out.size))
                    have HS6 := Lib.hid (fun (W : World) (hb : Below wy.heap.size wy W) => show (W.cell? ⟨aa, j, none⟩ = some (.bool sv) ∧ W.cell? ⟨bb0, ob0 + j, none⟩ = some (.bool sv)) ∧ (W.cell? ⟨pg, 0, none⟩ = some (.slice A0 n0 c0) ∧ W.cell? ⟨pg, 1, none⟩ = some (.slice A1 n1 c1) ∧ W.cell? ⟨pg, 2, none⟩ = some (.slice A2 n2 c2)) ∧ W.cell? ⟨pg2, 0, none⟩ = some (.slice D0 m0 d0) ∧ W.cell? ⟨pg2, 1, none⟩ = some (.slice D1 m1 d1) ∧ W.cell? ⟨pg2, 2, none⟩ = some (.slice D2 m2 d2) from
                      ⟨HSA.out W (hbr.trans (hb.mono hbr.size)), cells3 (PG1.out.low hb), cells3 (PG2.out.low hb)⟩)
                    have K0y := Lib.hid (show Below wy.heap.size wy wy.drew from (Below.refl _ _).drew)
                    clear hbk2 hrv2 hby hbr HS5 HK5 K0 KA PA PG RV HLK HSA BX
                    have hsvn : (sv != sv) = false := by simp
                    have hisn : (is != is) = false := by simp
                    go_wp2_with fail
                    go_region_held3 (fun W => (W.cell? ⟨aa, j, none⟩ = some (.bool sv) ∧ W.cell? ⟨bb0, ob0 + j, none⟩ = some (.bool sv)) ∧ (W.cell? ⟨pg, 0, none⟩ = some (.slice A0 n0 c0) ∧ W.cell? ⟨pg, 1, none⟩ = some (.slice A1 n1 c1) ∧ W.cell? ⟨pg, 2, none⟩ = some (.slice A2 n2 c2)) ∧ W.cell? ⟨pg2, 0, none⟩ = some (.slice D0 m0 d0) ∧ W.cell? ⟨pg2, 1, none⟩ = some (.slice D1 m1 d1) ∧ W.cell? ⟨pg2, 2, none⟩ = some (.slice D2 m2 d2))
                      (first | with_reducible exact HS6.out _ K7.out | with_reducible exact HS6.out _ K0y.out)
                      (first
                        | (go_at_call 13; refine (sameR_V2 (RV1.out.low K0y.out) (RV2.out.low K0y.out)).mono ?_; rintro e w7 ⟨rfl, hb7⟩; rw [decide_eq_true (rfl : rc = rc)]; have K7 := Lib.hid (K0y.out.trans (hb7.mono K0y.out.size)); clear hb7)
                        | fail)
                    go_wp2
                    go_roundw
                    case rel => exact ⟨j + 1, by omega, by go_num, BY.out.trans (K7.out.mono BY.out.size)⟩
                    case measure => simp [intOf]; omega
              · obtain rfl : j = n8 := by omega
                obtain ⟨UF, hUF⟩ : ∃ UF : List Bool → List (List Nat), UF = fun st => unitsF (clUpto j st (mkM gs) j) j (phV gs) := ⟨_, rfl⟩
                have htl : ∀ g ∈ gs, g.tg.length ≤ 1000 := fun g hg => (HNO.out g hg).1
                have HPU := Lib.hid (fun (W : World) (hb : Below w8.heap.size w8 W) (st : List Bool) (B : Option Addr) (mm cb : Nat) (hs : RdX W 1 B mm (bcells st)) (hm : mm ≤ 100000) => show Calls Try.prog 15 #[.slice A8 j c8, .slice B mm cb] W (fun e w' => ∃ A' c', e = .returned (.slice A' (UF st).length c') ∧ UnRd w' A' (UF st).length (UF st) ∧ Below W.heap.size W w') from by
                  subst hUF
                  exact (units_any W A8 B j c8 mm cb gs R8 st (HGP.out.belowS hb) hs (by omega) hm htl).mono fun e w' ⟨A', c', V, h1, h2, h3⟩ => ⟨A', c', h1, h2.rd, h3⟩)
                have HRU := Lib.hid (fun (W : World) (hb : Below w8.heap.size w8 W) (st : List Bool) (B : Option Addr) (mm cb : Nat) (hs : RdX W 1 B mm (bcells st)) (hm : mm ≤ 100000) (hjm : j ≤ mm) => show Calls Try.prog 16 #[.slice A8 j c8, .slice B mm cb] W (fun e w' => ∃ A' c', e = .returned (.slice A' (UF st).length c') ∧ UnRd w' A' (UF st).length (UF st) ∧ Below W.heap.size W w') from by
                  subst hUF
                  refine (refUnits_any W A8 B j c8 mm cb gs R8 st (HGP.out.belowS hb) hs (by omega) hjm (by omega) htl).mono fun e w' ⟨A', c', V, h1, h2, h3⟩ => ?_
                  rw [unitsQ_M HOK.out j HGL.out] at h1 h2
                  exact ⟨A', c', h1, h2.rd, h3⟩)
                have HAr := Lib.hid (HRA.out.lowU HB.out)
                have HBr := Lib.hid (HRB.out.lowU HB.out)
                have HSr := Lib.hid (HST8.out.lowU HB8r.out)
                clear htl hUF HRA HRB HST8 HNO HOK HKO
                have hu1 := HPU.out wr HB8r.out sg _ j j HAr.out (by omega)
                have HU1 := Lib.hid hu1
                clear hu1
                go_wp2_with fail
                refine HU1.out.mono ?_
                rintro e w12 ⟨A12, c12, rfl, hun12, hb12⟩
                have HB12 := Lib.hid (HB8r.out.trans (hb12.mono HB8r.out.size))
                have hu2 := HRU.out w12 HB12.out sg Ab j cb (HBr.out.lowU hb12) (by omega) (Nat.le_refl _)
                have HU2 := Lib.hid hu2
                have HN12 := Lib.hid hun12
                have HSr12 := Lib.hid (HSr.out.lowU hb12)
                clear hu2 hun12 hb12 HU1
                go_wp2_with fail
                refine HU2.out.mono ?_
                rintro e w13 ⟨A13, c13, rfl, hun13, hb13⟩
                have HB13 := Lib.hid (HB12.out.trans (hb13.mono HB12.out.size))
                have HSm := Lib.hid (sameUnits_any A12 A13 (UF sg).length c12 c13 (UF sg) w13 (HN12.out.low hb13) hun13)
                have HSr13 := Lib.hid (HSr12.out.lowU hb13)
                clear hun13 hb13 HU2
                go_wp2_with fail
                refine HSm.out.mono ?_
                rintro e w14 ⟨rfl, hb14⟩
                have HB14 := Lib.hid (HB13.out.trans (hb14.mono HB13.out.size))
                have HSr14 := Lib.hid (HSr13.out.lowU hb14)
                clear hb14 HSm
                by_cases hns : nS = j
                · subst hns
                  have hne9 : ((nS : Int) != (nS : Int)) = false := by simp
                  have hu3 := HPU.out w14 HB14.out st0 AS nS cS HSr14.out (by omega)
                  have HU3 := Lib.hid hu3
                  clear hu3
                  go_wp2_with fail
                  refine HU3.out.mono ?_
                  rintro e w15 ⟨A15, c15, rfl, hun15, hb15⟩
                  have HB15 := Lib.hid (HB14.out.trans (hb15.mono HB14.out.size))
                  have hu4 := HRU.out w15 HB15.out st0 AS nS cS (HSr14.out.lowU hb15) (by omega) (Nat.le_refl _)
                  have HU4 := Lib.hid hu4
                  have HN15 := Lib.hid hun15
                  clear hu4 hun15 hb15 HU3
                  go_wp2_with fail
                  refine HU4.out.mono ?_
                  rintro e w16 ⟨A16, c16, rfl, hun16, hb16⟩
                  have HB16 := Lib.hid (HB15.out.trans (hb16.mono HB15.out.size))
                  have HSm2 := Lib.hid (sameUnits_any A15 A16 (UF st0).length c15 c16 (UF st0) w16 (HN15.out.low hb16) hun16)
                  clear hun16 hb16 HU4
                  go_wp2_with fail
                  refine HSm2.out.mono ?_
                  rintro e w17 ⟨rfl, hb17⟩
                  have HB17 := Lib.hid (HB16.out.trans (hb17.mono HB16.out.size))
                  clear hb17
                  go_wp2
                  go_ret
                  exact ⟨rfl, HB8.out.trans (HB17.out.mono HB8.out.size)⟩
                · have hne9 : ((nS : Int) != (j : Int)) = true := by rw [bne_iff_ne]; omega
                  go_wp2
                  go_ret
                  exact ⟨rfl, HB8.out.trans (HB14.out.mono HB8.out.size)⟩
          · have j2 : (0 : Int) < (gr.1 : Int) := by omega
            go_wp2
            go_ret
            exact ⟨rfl, HB8.out⟩
        · have j1 : (0 : Int) < (q1 : Int) := by omega
          go_wp2
          go_ret
          rw [← HW7.out]
          exact ⟨rfl, HB7.out⟩
end Go.Proofs.Ytlkpbpecgdphaaa
