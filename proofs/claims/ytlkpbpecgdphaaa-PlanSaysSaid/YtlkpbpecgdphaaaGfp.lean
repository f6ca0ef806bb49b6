/-
  WALK: hammerpondref.GroupFor, where no rule names the target: by a pattern, or no group.
-/
import Derived.Test.YtlkpbpecgdphaaaGfr
import Derived.BigQuiet
import Derived.Deep.QuietTactic
namespace Go.Proofs.Ytlkpbpecgdphaaa
open Go.RowKit

theorem stemR_ne {p n : ByteArray} (h : (stemR p n).2 = true) : (stemR p n).1 ≠ ⟨#[]⟩ := by
  unfold stemR at h ⊢
  split at h
  · rename_i hc
    rw [if_pos hc]
    intro e
    have hz : (n.extract (cutB p [37]).1.length (n.size - (cutB p [37]).2.1.length)).size = 0 := by
      show (n.extract (cutB p [37]).1.length (n.size - (cutB p [37]).2.1.length)).size = _
      rw [show n.extract (cutB p [37]).1.length (n.size - (cutB p [37]).2.1.length) = ⟨#[]⟩ from e]
      rfl
    rw [ByteArray.size_extract] at hz
    have := hc.2.2.2
    omega
  · cases h
theorem GpOwn.parts2 {w : World} {B : Nat} {a b c : Value} {ph : Bool} {g : Gp} (h : GpOwn w B (.agg #[a, b, c, .bool ph]) g) : Own1 w B a g.tg ∧ Own1 w B b g.nd ∧ Own1 w B c g.cm ∧ ph = g.ph := by
  obtain ⟨a', b', c', e, h1, h2, h3⟩ := h
  simp only [Value.agg.injEq, Array.mk.injEq, List.cons.injEq, Value.bool.injEq, and_true] at e
  obtain ⟨rfl, rfl, rfl, e4⟩ := e
  exact ⟨h1, h2, h3, e4⟩
theorem GpOwn.four {w : World} {B p : Nat} {v : Value} {g : Gp} {cs : Array Value} (h : GpOwn w B v g) (hb : Blk w p tGr cs) {a b c d : Value} : GpOwn ((((w.setCell ⟨p, 0, none⟩ a).setCell ⟨p, 1, none⟩ b).setCell ⟨p, 2, none⟩ c).setCell ⟨p, 3, none⟩ d) B v g := by
  obtain ⟨x, y, z, e, h1, h2, h3⟩ := h
  have key : ∀ (u : Value) (l : List ByteArray), Own1 w B u l → Own1 ((((w.setCell ⟨p, 0, none⟩ a).setCell ⟨p, 1, none⟩ b).setCell ⟨p, 2, none⟩ c).setCell ⟨p, 3, none⟩ d) B u l := fun u l ho => by
    have hn := row_block_ne ho hb (by decide)
    exact own_set (own_set (own_set (own_set ho hn) hn) hn) hn
  exact ⟨x, y, z, e, key _ _ h1, key _ _ h2, key _ _ h3⟩
def GfpRel (w1 : World) (rules : List Ru) (p : Ru → Bool) (n : Nat) (i : Value) (wr : World) : Prop := ∃ k : Nat, k ≤ n ∧ i = .int .i64 k ∧ rules.findIdx? p = ((rules.drop k).findIdx? p).map (· + k) ∧ Below w1.heap.size w1 wr
def GfqRel (w1 : World) (nd : List ByteArray) (p : ByteArray → Bool) (n : Nat) (al i : Value) (wr : World) : Prop := ∃ k : Nat, k ≤ n ∧ i = .int .i64 k ∧ al = .bool ((nd.take k).all p) ∧ Below w1.heap.size w1 wr
theorem all_take {nd : List ByteArray} {p : ByteArray → Bool} {k : Nat} {x : ByteArray} (h : nd[k]? = some x) : (nd.take (k + 1)).all p = ((nd.take k).all p && p x) := by
  rw [List.take_add_one, h, List.all_append]; simp
set_option maxRecDepth 100000 in
set_option maxHeartbeats 16000000 in
theorem groupFor_pat (m : Mk) (l : List F) (vv vr vp : Value) (R : List Row3) (name : ByteArray) (Af : Option Addr) (cf : Nat) (w : World) (h : MkRd w m vv vr vp R) (hf : RdF w w.heap.size Af l.length cf l) (hL : Lim m) (hl : l.length ≤ 1000000) (hn : name.size ≤ 1000) (he : explO m.rules name = none) (hP : ∀ r ∈ m.rules, fitsB m.rules l name r = true → inT m.phony (headT r.1) = false) :
    Calls Try.prog 41 #[.agg #[vv, vr, vp], .slice Af l.length cf, .string name] w (GrPost m l name w) := by
  have hgr : grpR m l name = (match m.rules.findIdx? (fitsB m.rules l name) with | some i => (m.rules[i]?).map (patG name) | none => none) := by unfold grpR; rw [he]; rfl
  obtain ⟨W, hW, hbw, hpm, hpz, hWs⟩ := gf_boxes w vv vr vp
  have hM := h.belowS hbw
  have hX := explicit_any m vv vr vp R name W hM hL.rules (fun r hr => Nat.le_trans (hL.tgs r hr) (by omega))
  obtain ⟨Av, cv, rfl, -⟩ := hM.vars
  obtain ⟨Ar, cr, rfl, -⟩ := hM.rules
  obtain ⟨Ap, cp, rfl, -⟩ := hM.phony
  have hn1 : R.length ≤ 1000 := by rw [hM.len]; exact hL.rules
  have HX := Lib.hid hX
  have HM := Lib.hid hM
  have HBW := Lib.hid hbw
  have PM := Lib.hid hpm
  have PZ := Lib.hid hpz
  have WS := Lib.hid hWs
  have HW := Lib.hid hW
  have HL := Lib.hid hL
  have HGR := Lib.hid hgr
  have HPP := Lib.hid hP
  have HF := Lib.hid (RdF.belowS hf hbw)
  have m0 := hpm.cell 0
  have m1 := hpm.cell 1
  have m2 := hpm.cell 2
  clear h hM hX hL hgr hbw hpm hpz hWs hW hP hf
  go_enter Try.func41, Try.ntmps41
  go_wp2_with fail
  rw [← HW.out]
  refine HX.out.mono ?_
  rintro e w1 ⟨rfl, hb1⟩
  rw [he, show idxV none = -1 from rfl]
  have HM1 := Lib.hid (HM.out.belowS hb1)
  have HB1 := Lib.hid (HBW.out.trans (hb1.mono HBW.out.size))
  have PM1 := Lib.hid (show Blk w1 w.heap.size tMa _ from (hb1.block _ PM.out.lt).trans PM.out)
  have PZ1 := Lib.hid (show Blk w1 (w.heap.size + 1) tGr zeroG from (hb1.block _ PZ.out.lt).trans PZ.out)
  have HF1 := Lib.hid (RdF.belowS HF.out hb1)
  have hz1 : w.heap.size + 1 < w1.heap.size := PZ1.out.lt
  clear hb1 HX HM PM PZ m0 m1 m2 HF
  go_wp2
  go_loopw [9] (fun i wr => GfpRel w1 m.rules (fitsB m.rules l name) R.length i wr) (fun i _ => R.length - (intOf i).toNat)
  case atStart => exact ⟨0, Nat.zero_le _, rfl, by simp, Below.refl _ _⟩
  case round =>
    obtain ⟨k, hk, rfl, hno, hbw⟩ := hrel
    obtain ⟨wo, hwo⟩ : ∃ wo, wo = wr := ⟨_, rfl⟩
    subst hwo
    have HN := Lib.hid hno
    have HBW1 := Lib.hid hbw
    have hM := HM1.out.belowS hbw
    have PMr := Lib.hid (show Blk wo w.heap.size tMa _ from (hbw.block _ PM1.out.lt).trans PM1.out)
    have m1 : wo.cell? ⟨w.heap.size, 1, none⟩ = some (.slice Ar R.length cr) := PMr.out.cell 1
    have hszr := hbw.size
    clear hno hbw
    by_cases hlt : k < R.length
    · have hkz : (k : Int) < (R.length : Int) := by omega
      have hk0 : (0 : Int) ≤ (k : Int) := by omega
      obtain ⟨x, hx⟩ : ∃ x, R[k]? = some x := ⟨_, List.getElem?_eq_getElem hlt⟩
      obtain ⟨g, hg⟩ : ∃ g, m.rules[k]? = some g := ⟨_, List.getElem?_eq_getElem (by rw [← hM.len]; exact hlt)⟩
      have hgm := List.mem_of_getElem? hg
      obtain ⟨Ar', cr', er, hrr⟩ := hM.rules
      injection er with er1 er2 er3
      subst er1 er3
      obtain ⟨b', off, eA, hbl, c1, c2, c3⟩ := hrr.at_ hx
      rw [eA] at m1
      obtain ⟨s1, s2, s3⟩ := hM.each k x g hx hg
      obtain ⟨v1, v2, v3⟩ := x
      dsimp only at c1 c2 c3 s1 s2 s3
      have S1 := Lib.hid s1
      have S2 := Lib.hid s2
      have S3 := Lib.hid s3
      obtain ⟨A1, k1, e1, r1⟩ := s1
      obtain ⟨t0, ts, hts⟩ : ∃ t ts, g.1 = t :: ts := by
        cases hh : g.1 with
        | nil => exact absurd hh (HL.out.ne g hgm)
        | cons t ts => exact ⟨t, ts, rfl⟩
      have hhd : headT g.1 = t0 := by rw [hts]; rfl
      obtain ⟨b0, o0, e0, _, ht0⟩ := r1.at_ (show g.1[0]? = some t0 by rw [hts]; rfl)
      rw [Nat.add_zero] at ht0
      rw [e1, e0] at c1
      have hl0 : (0 : Int) < (g.1.length : Int) := by rw [hts]; simp
      have htz : t0.size ≤ 1000 := HL.out.tsz g hgm t0 (by rw [hts]; simp)
      obtain ⟨q1, q2⟩ := findIdx_next HN.out hg
      have Q1 := Lib.hid q1
      have Q2 := Lib.hid q2
      obtain ⟨⟨st, ok⟩, hst⟩ : ∃ q, q = stemR t0 name := ⟨_, rfl⟩
      have hrs := refStem_any t0 name wo (by omega) (by omega)
      rw [← hst] at hrs
      dsimp only at hrs
      have hss : st.size ≤ 1000 := by have := stemR_size t0 name; rw [← hst] at this; dsimp only at this; omega
      have HRS := Lib.hid hrs
      have HMr := Lib.hid hM
      have HST := Lib.hid hst
      have HHD := Lib.hid hhd
      have HG := Lib.hid hg
      have HGM := Lib.hid hgm
      have EA := Lib.hid eA
      have CC := Lib.hid (And.intro hbl (And.intro c1 (And.intro c2 c3)))
      have hv1 : v1 = .slice (some ⟨b0, o0, none⟩) g.1.length k1 := by rw [e1, e0]
      clear q1 q2 hx hg hgm hrr r1 hts hhd hst hrs hM er2 e1 e0 eA
      cases ok with
      | false =>
        have HFL := Lib.hid (Q2.out (by unfold fitsB; rw [HHD.out, ← HST.out]; rfl))
        go_wp2_with fail
        refine HRS.out.mono ?_
        rintro e w2 ⟨rfl, hw2⟩
        subst hw2
        go_wp2
        go_roundw
        case rel => exact ⟨k + 1, by omega, by go_num, HFL.out, HBW1.out⟩
        case measure => simp [intOf]; omega
      | true =>
        go_wp2_with fail
        refine HRS.out.mono ?_
        rintro e w2 ⟨rfl, hw2⟩
        subst hw2
        subst hv1
        have hMS : MkRd wo m (.slice Av m.vars.length cv) (.slice (some ⟨b', off, none⟩) R.length cr) (.slice Ap m.phony.length cp) R := by have := HMr.out; rw [EA.out] at this; exact this
        obtain ⟨gx, hgx⟩ : ∃ gx, gx = grpOf g (if st = ⟨#[]⟩ then g.1 else [name]) st (inT m.phony (headT g.1)) := ⟨_, rfl⟩
        have HGX := Lib.hid hgx
        have hgo := fun (W' : World) (hb : Below wo.heap.size wo W') => groupOf_lim m _ _ _ R g _ v2 v3 name st W' (hMS.belowS hb) HGM.out (S1.out.belowS hb) (S2.out.belowS hb) (S3.out.belowS hb) HL.out hn hss
        rw [← hgx] at hgo
        have HGO := Lib.hid hgo
        obtain ⟨hbl, c1, c2, c3⟩ := CC.out
        have hS := fun (W' : World) (hb : Below wo.heap.size wo W') => show W'.cell? ⟨w.heap.size, 0, none⟩ = some (.slice Av m.vars.length cv) ∧ W'.cell? ⟨w.heap.size, 1, none⟩ = some (.slice (some ⟨b', off, none⟩) R.length cr) ∧ W'.cell? ⟨w.heap.size, 2, none⟩ = some (.slice Ap m.phony.length cp) ∧ W'.cell? ⟨b', off + k * 3, none⟩ = some (.slice (some ⟨b0, o0, none⟩) g.1.length k1) ∧ W'.cell? ⟨b', off + k * 3 + 1, none⟩ = some v2 ∧ W'.cell? ⟨b', off + k * 3 + 2, none⟩ = some v3 from
          ⟨(hb.cell (p := ⟨w.heap.size, 0, none⟩) PMr.out.lt).trans (PMr.out.cell 0), by have := (hb.cell (p := ⟨w.heap.size, 1, none⟩) PMr.out.lt).trans (PMr.out.cell 1); rw [EA.out] at this; exact this, (hb.cell (p := ⟨w.heap.size, 2, none⟩) PMr.out.lt).trans (PMr.out.cell 2), (hb.cell (p := ⟨b', _, none⟩) hbl).trans c1, (hb.cell (p := ⟨b', _, none⟩) hbl).trans c2, (hb.cell (p := ⟨b', _, none⟩) hbl).trans c3⟩
        have HS4 := Lib.hid hS
        obtain ⟨t0', t1', t2', t3', t4', t5'⟩ := hS wo.drew ((Below.refl _ wo).drew)
        have K1 := Lib.hid (show Below wo.heap.size wo wo.drew from (Below.refl _ wo).drew)
        have K1a := Lib.hid (show Below wo.heap.size wo (wo.alloc (.cells #[.slice none 0 0, .slice none 0 0, .slice none 0 0, .bool false] tGr)).drew from ((Below.refl _ wo).alloc (Nat.le_refl _) _).drew)
        have PGa := Lib.hid (show Blk (wo.alloc (.cells #[.slice none 0 0, .slice none 0 0, .slice none 0 0, .bool false] tGr)).drew wo.heap.size tGr zeroG from Blk.new wo tGr zeroG)
        have KS := Lib.hid (fun (W' : World) (pg : Nat) (a b c d : Value) (hb : Below wo.heap.size wo W') (hp : wo.heap.size ≤ pg) => show Below wo.heap.size wo ((((W'.setCell ⟨pg, 0, none⟩ a).setCell ⟨pg, 1, none⟩ b).setCell ⟨pg, 2, none⟩ c).setCell ⟨pg, 3, none⟩ d) from
          (((hb.setCell (p := ⟨pg, 0, none⟩) hp a).setCell (p := ⟨pg, 1, none⟩) hp b).setCell (p := ⟨pg, 2, none⟩) hp c).setCell (p := ⟨pg, 3, none⟩) hp d)
        clear hS hgo hgx hMS
        go_upto_region 9 with fail
        go_cut [12] (fun p wx => ∃ (pg : Nat) (A1 : Option Addr) (d1 : Nat) (A2 : Option Addr) (d2 : Nat) (A3 : Option Addr) (d3 n1 n2 n3 : Nat) (ph : Bool), p = .pointer (some ⟨pg, 0, none⟩) ∧ wo.heap.size ≤ pg ∧ Blk wx pg tGr #[.slice A1 n1 d1, .slice A2 n2 d2, .slice A3 n3 d3, .bool ph] ∧ GpOwn wx wo.heap.size (.agg #[.slice A1 n1 d1, .slice A2 n2 d2, .slice A3 n3 d3, .bool ph]) gx ∧ Below wo.heap.size wo wx)
        case first =>
          go_region_held3 (fun W' => W'.cell? ⟨w.heap.size, 0, none⟩ = some (.slice Av m.vars.length cv) ∧ W'.cell? ⟨w.heap.size, 1, none⟩ = some (.slice (some ⟨b', off, none⟩) R.length cr) ∧ W'.cell? ⟨w.heap.size, 2, none⟩ = some (.slice Ap m.phony.length cp) ∧ W'.cell? ⟨b', off + k * 3, none⟩ = some (.slice (some ⟨b0, o0, none⟩) g.1.length k1) ∧ W'.cell? ⟨b', off + k * 3 + 1, none⟩ = some v2 ∧ W'.cell? ⟨b', off + k * 3 + 2, none⟩ = some v3)
            (first | with_reducible exact HS4.out _ (KS.out _ _ _ _ _ _ K2a.out (Nat.le_refl _)) | exact HS4.out _ K2b.out | exact HS4.out _ K2c.out | with_reducible exact HS4.out _ K2a.out | with_reducible exact HS4.out _ K2.out | with_reducible exact HS4.out _ K1a.out | with_reducible exact HS4.out _ K1.out)
            (first
              | (go_at_call 59; refine (HGO.out _ K1.out).mono ?_; rintro e w2 ⟨A1, d1, A2, d2, A3, d3, n1, n2, n3, ph, rfl, hgo, hb2⟩; have hk2 := K1.out.trans (hb2.mono K1.out.size); have K2 := Lib.hid hk2; have GO2 := Lib.hid (hgo.mono K1.out.size); have K2c := Lib.hid (show Below wo.heap.size wo (w2.alloc (.cells #[.slice none 0 0, .slice none 0 0, .slice none 0 0, .bool false] tGr)) from hk2.alloc hk2.size _); have K2b := Lib.hid (show Below wo.heap.size wo (w2.alloc (.cells #[.slice A1 n1 d1, .slice A2 n2 d2, .slice A3 n3 d3, .bool ph] tGr)) from hk2.alloc hk2.size _); clear hk2 hb2 hgo)
              | (go_at_call 59; refine (HGO.out _ K1a.out).mono ?_; rintro e w3 ⟨A1, d1, A2, d2, A3, d3, n1, n2, n3, ph, rfl, hgo, hb2⟩; have hk2 := K1a.out.trans (hb2.mono K1a.out.size); have K2a := Lib.hid hk2; have GO3 := Lib.hid (hgo.mono K1a.out.size); have hpg : Blk w3 wo.heap.size tGr zeroG := (hb2.block _ PGa.out.lt).trans PGa.out; have z0 : w3.cell? ⟨wo.heap.size, 0, none⟩ = some (.slice none 0 0) := hpg.cell 0; have z1 : w3.cell? ⟨wo.heap.size, 1, none⟩ = some (.slice none 0 0) := hpg.cell 1; have z2 : w3.cell? ⟨wo.heap.size, 2, none⟩ = some (.slice none 0 0) := hpg.cell 2; have z3 : w3.cell? ⟨wo.heap.size, 3, none⟩ = some (.bool false) := hpg.cell 3; have e0 := hpg.free 0; have e1 := hpg.free 1; have e2 := hpg.free 2; have e3 := hpg.free 3; have HPG := Lib.hid hpg; have HOW := Lib.hid (hgo.mono (Nat.le_refl _)); have HLT := Lib.hid PGa.out.lt; clear hk2 hb2 hgo hpg)
              | fail)
          all_goals (
            go_wp2_with fail
            go_meet
            first
            | exact ⟨w2.heap.size, A1, d1, A2, d2, A3, d3, n1, n2, n3, ph, rfl, K2.out.size, Blk.new w2 tGr _, GpOwn.below GO2.out ((Below.refl _ _).alloc (Nat.le_refl _) _), K2b.out⟩
            | exact ⟨wo.heap.size, A1, d1, A2, d2, A3, d3, n1, n2, n3, ph, rfl, Nat.le_refl _, (((HPG.out.set 0 (.slice A1 n1 d1)).set 1 (.slice A2 n2 d2)).set 2 (.slice A3 n3 d3)).set 3 (.bool ph), GpOwn.four GO3.out HPG.out, KS.out _ _ _ _ _ _ K2a.out (Nat.le_refl _)⟩)
        case rest =>
          obtain ⟨pg, A1, d1, A2, d2, A3, d3, n1, n2, n3, ph, rfl, hpg, hbk, hgo, hbx⟩ := hcut
          generalize wc = wx at *
          have PX := Lib.hid hbk
          have GX := Lib.hid hgo
          have BX := Lib.hid hbx
          obtain ⟨o1, o2, o3, o4⟩ := GpOwn.parts2 hgo
          have O2 := Lib.hid o2
          have hnl : gx.nd.length = n2 := by
            obtain ⟨A', c', e', -⟩ := RdS.of_own o2
            injection e' with _ e' _
            exact e'.symm
          have hn2 : n2 ≤ 10 := by rw [← hnl, HGX.out]; show (fillR g.2.1 st).length ≤ 10; unfold fillR; rw [List.length_map]; exact HL.out.nds g HGM.out
          have HNL := Lib.hid hnl
          obtain ⟨p, hp⟩ : ∃ p : ByteArray → Bool, p = fun n => has l n || (explO m.rules n).isSome := ⟨_, rfl⟩
          have HPX := Lib.hid (show ∀ n, p n = (has l n || (explO m.rules n).isSome) from fun n => by rw [hp])
          have HFIT := Lib.hid (show fitsB m.rules l name g = gx.nd.all p by
            unfold fitsB
            rw [HHD.out, ← HST.out, HGX.out, hp]
            exact Bool.true_and _)
          have y1 : wx.cell? ⟨pg, 1, none⟩ = some (.slice A2 n2 d2) := hbk.cell 1
          clear hbk hgo hbx o1 o2 o3 o4 hp hnl KS K1 K1a PGa HGO HS4 t0' t1' t2' t3' t4' t5'
          go_wp2
          go_loopw [13, 14] (fun al i wq => GfqRel wx gx.nd p n2 al i wq) (fun _ i _ => n2 - (intOf i).toNat)
          case atStart => exact ⟨0, Nat.zero_le _, rfl, rfl, Below.refl _ _⟩
          case round =>
            obtain ⟨k2, hk2, rfl, rfl, hbq⟩ := hrel
            have HBQ := Lib.hid hbq
            have z1 : wr.cell? ⟨pg, 1, none⟩ = some (.slice A2 n2 d2) := (hbq.cell (p := ⟨pg, 1, none⟩) PX.out.lt).trans (PX.out.cell 1)
            clear hbq y1
            by_cases hlt2 : k2 < n2
            · have hkz2 : (k2 : Int) < (n2 : Int) := by omega
              obtain ⟨x, hx⟩ : ∃ x, gx.nd[k2]? = some x := ⟨_, List.getElem?_eq_getElem (by rw [HNL.out]; exact hlt2)⟩
              obtain ⟨A2', d2', e2, r2⟩ := RdS.of_own (own1_below O2.out HBQ.out)
              injection e2 with e21 e22 e23
              subst e21 e23
              obtain ⟨b2, o2, eA2, hb2l, hcx⟩ := r2.at_ hx
              rw [eA2] at z1
              have HGETx := Lib.hid (refGet_any Af l.length cf l x wr (RdF.belowS HF1.out (HBW1.out.trans ((BX.out.trans (HBQ.out.mono BX.out.size)).mono HBW1.out.size))) hl)
              have HT := Lib.hid (all_take (p := p) hx)
              have HPx := Lib.hid (HPX.out x)
              have hbw1 := HBW1.out.trans ((BX.out.trans (HBQ.out.mono BX.out.size)).mono HBW1.out.size)
              have HBB := Lib.hid hbw1
              clear r2 hx e22 hbw1
              go_wp2_with fail
              refine HGETx.out.mono ?_
              rintro e w5 ⟨rfl, hw5⟩
              subst hw5
              revert HT
              generalize (gx.nd.take k2).all p = bb at *
              intro HT
              cases bb with
              | false =>
                have hT := HT.out
                rw [Bool.false_and] at hT
                have HT2 := Lib.hid hT
                clear hT HT
                go_wp2_with fail
                go_quiet (fail)
                go_wp2
                go_roundw
                case rel => exact ⟨k2 + 1, by omega, by go_num, by rw [HT2.out], HBQ.out.trans ((below_drews _ _).mono HBQ.out.size)⟩
                case measure => simp [intOf]; omega
              | true =>
                cases hh : has l x with
                | true =>
                  have hT := HT.out
                  rw [HPx.out, hh] at hT
                  have HT2 := Lib.hid (show (gx.nd.take (k2 + 1)).all p = true from hT)
                  clear hT HT hh
                  go_wp2_with fail
                  go_quiet (fail)
                  go_wp2
                  go_roundw
                  case rel => exact ⟨k2 + 1, by omega, by go_num, by rw [HT2.out], HBQ.out.trans ((below_drews _ _).mono HBQ.out.size)⟩
                  case measure => simp [intOf]; omega
                | false =>
                  have hT := HT.out
                  rw [HPx.out, hh, Bool.true_and, Bool.false_or] at hT
                  have HT2 := Lib.hid hT
                  clear hT HT hh
                  have hpm : Blk wr w.heap.size tMa #[.slice Av m.vars.length cv, .slice Ar R.length cr, .slice Ap m.phony.length cp] := (HBB.out.block _ PM1.out.lt).trans PM1.out
                  have hS := fun (W' : World) (hb : Below wr.heap.size wr W') => show W'.cell? ⟨w.heap.size, 0, none⟩ = some (.slice Av m.vars.length cv) ∧ W'.cell? ⟨w.heap.size, 1, none⟩ = some (.slice Ar R.length cr) ∧ W'.cell? ⟨w.heap.size, 2, none⟩ = some (.slice Ap m.phony.length cp) ∧ W'.cell? ⟨pg, 1, none⟩ = some (.slice (some ⟨b2, o2, none⟩) n2 d2) ∧ W'.cell? ⟨b2, o2 + k2, none⟩ = some (.string x) from
                    ⟨(hb.cell (p := ⟨w.heap.size, 0, none⟩) hpm.lt).trans (hpm.cell 0), (hb.cell (p := ⟨w.heap.size, 1, none⟩) hpm.lt).trans (hpm.cell 1), (hb.cell (p := ⟨w.heap.size, 2, none⟩) hpm.lt).trans (hpm.cell 2), (hb.cell (p := ⟨pg, 1, none⟩) (Nat.lt_of_lt_of_le PX.out.lt HBQ.out.size)).trans z1, (hb.cell (p := ⟨b2, _, none⟩) hb2l).trans hcx⟩
                  have HS4 := Lib.hid hS
                  obtain ⟨q1, q2, q3, q4, q5⟩ := hS wr.drew ((Below.refl _ wr).drew)
                  have K1 := Lib.hid (show Below wr.heap.size wr wr.drew from (Below.refl _ wr).drew)
                  have HEX := Lib.hid (fun (W' : World) (hb : Below wr.heap.size wr W') => explicit_any m _ _ _ R x W' ((HM1.out.belowS HBB.out).belowS hb) HL.out.rules (fun r hr => Nat.le_trans (HL.out.tgs r hr) (by omega)))
                  clear hS hpm
                  go_wp2_with fail
                  go_region_held3 (fun W' => W'.cell? ⟨w.heap.size, 0, none⟩ = some (.slice Av m.vars.length cv) ∧ W'.cell? ⟨w.heap.size, 1, none⟩ = some (.slice Ar R.length cr) ∧ W'.cell? ⟨w.heap.size, 2, none⟩ = some (.slice Ap m.phony.length cp) ∧ W'.cell? ⟨pg, 1, none⟩ = some (.slice (some ⟨b2, o2, none⟩) n2 d2) ∧ W'.cell? ⟨b2, o2 + k2, none⟩ = some (.string x))
                    (first | with_reducible exact HS4.out _ K2.out | with_reducible exact HS4.out _ K1.out)
                    (first
                      | (go_at_call 58; refine (HEX.out _ K1.out).mono ?_; rintro e w6 ⟨rfl, hb6⟩; have K2 := Lib.hid (K1.out.trans (hb6.mono K1.out.size)); clear hb6)
                      | fail)
                  cases he2 : explO m.rules x with
                  | some j =>
                    have hT := HT2.out
                    rw [he2] at hT
                    have HT3 := Lib.hid (show (gx.nd.take (k2 + 1)).all p = true from hT)
                    have j0 : decide ((0 : Int) ≤ idxV (some j)) = true := decide_eq_true (by show (0 : Int) ≤ (j : Int); omega)
                    clear hT he2
                    go_wp2
                    go_roundw
                    case rel => exact ⟨k2 + 1, by omega, by go_num, by rw [HT3.out]; first | rfl | (rw [j0]), HBQ.out.trans (K2.out.mono HBQ.out.size)⟩
                    case measure => simp [intOf]; omega
                  | none =>
                    have hT := HT2.out
                    rw [he2] at hT
                    have HT3 := Lib.hid (show (gx.nd.take (k2 + 1)).all p = false from hT)
                    have j0 : decide ((0 : Int) ≤ idxV none) = false := by rfl
                    clear hT he2
                    go_wp2
                    go_roundw
                    case rel => exact ⟨k2 + 1, by omega, by go_num, by rw [HT3.out]; first | rfl | (rw [j0]), HBQ.out.trans (K2.out.mono HBQ.out.size)⟩
                    case measure => simp [intOf]; omega
            · obtain rfl : k2 = n2 := by omega
              have htk : gx.nd.take k2 = gx.nd := List.take_of_length_le (by rw [HNL.out]; exact Nat.le_refl _)
              rw [htk, ← HFIT.out]
              clear htk
              have hbwr := HBW1.out.trans ((BX.out.trans (HBQ.out.mono BX.out.size)).mono HBW1.out.size)
              have HBB := Lib.hid hbwr
              clear hbwr
              cases hff : fitsB m.rules l name g with
              | false =>
                have HFL := Lib.hid (Q2.out hff)
                clear hff
                go_wp2
                go_roundw
                case rel => exact ⟨k + 1, by omega, by go_num, HFL.out, HBB.out⟩
                case measure => simp [intOf]; omega
              | true =>
                have hfi := Q1.out hff
                have hgr := HGR.out
                rw [hfi] at hgr
                dsimp only at hgr
                rw [HG.out] at hgr
                have hok : (stemR t0 name).2 = true := by rw [← HST.out]
                have hsv : (stemR t0 name).1 = st := by rw [← HST.out]
                have hsn : st ≠ ⟨#[]⟩ := by rw [← hsv]; exact stemR_ne hok
                have hgx : grpR m l name = some gx := by
                  rw [hgr, HGX.out, if_neg hsn, HPP.out g HGM.out hff]
                  show some (patG name g) = _
                  unfold patG grpOf
                  rw [HHD.out, hsv]
                have HGRX := Lib.hid hgx
                have pzz : Blk wr (w.heap.size + 1) tGr zeroG := (HBB.out.block _ PZ1.out.lt).trans PZ1.out
                have z0 : wr.cell? ⟨w.heap.size + 1, 0, none⟩ = some (.slice none 0 0) := pzz.cell 0
                have z1' : wr.cell? ⟨w.heap.size + 1, 1, none⟩ = some (.slice none 0 0) := pzz.cell 1
                have z2 : wr.cell? ⟨w.heap.size + 1, 2, none⟩ = some (.slice none 0 0) := pzz.cell 2
                have z3 : wr.cell? ⟨w.heap.size + 1, 3, none⟩ = some (.bool false) := pzz.cell 3
                have e0 := pzz.free 0
                have e1 := pzz.free 1
                have e2 := pzz.free 2
                have e3 := pzz.free 3
                have pgq : Blk wr pg tGr #[.slice A1 n1 d1, .slice A2 k2 d2, .slice A3 n3 d3, .bool ph] := (HBQ.out.block _ PX.out.lt).trans PX.out
                have a0 : wr.cell? ⟨pg, 0, none⟩ = some (.slice A1 n1 d1) := pgq.cell 0
                have a1 : wr.cell? ⟨pg, 1, none⟩ = some (.slice A2 k2 d2) := pgq.cell 1
                have a2 : wr.cell? ⟨pg, 2, none⟩ = some (.slice A3 n3 d3) := pgq.cell 2
                have a3 : wr.cell? ⟨pg, 3, none⟩ = some (.bool ph) := pgq.cell 3
                have HGO2 := Lib.hid (GX.out.below HBQ.out)
                have hzo : w.heap.size + 1 < wo.heap.size := Nat.lt_of_lt_of_le hz1 HBW1.out.size
                clear hff hfi hgr hok hsv hsn hgx pzz pgq
                go_wp2
                (try simp only [Exit.inBlock, Exit.then])
                have hfo := fun (v a b c d : Value) (t : List ByteArray) (ho : Own1 wr wo.heap.size v t) => show Own1 ((((wr.setCell ⟨w.heap.size + 1, 0, none⟩ a).setCell ⟨w.heap.size + 1, 1, none⟩ b).setCell ⟨w.heap.size + 1, 2, none⟩ c).setCell ⟨w.heap.size + 1, 3, none⟩ d) w.heap.size v t from by
                  have h1 : v.ownBlock ≠ some (w.heap.size + 1) := own_old (_w' := wr) ho hzo
                  have h2 : Own1 ((((wr.setCell ⟨w.heap.size + 1, 0, none⟩ a).setCell ⟨w.heap.size + 1, 1, none⟩ b).setCell ⟨w.heap.size + 1, 2, none⟩ c).setCell ⟨w.heap.size + 1, 3, none⟩ d) wo.heap.size v t := own_set (own_set (own_set (own_set ho h1) h1) h1) h1
                  exact World.ownsRow.mono h2 (by omega)
                refine bodyPost_ret (v := .tuple #[.agg #[.slice A1 n1 d1, .slice A2 k2 d2, .slice A3 n3 d3, .bool ph], .bool true]) ?_ rfl ?_
                · rw [results_cell_tmp rfl]
                  go_simp
                · refine ⟨.slice A1 n1 d1, .slice A2 k2 d2, .slice A3 n3 d3, ph, by rw [HGRX.out]; rfl, fun g' hg' => ?_, ?_, ⟨_, _, _, rfl⟩, ⟨_, _, _, rfl⟩, _, _, _, rfl⟩
                  · rw [HGRX.out] at hg'
                    injection hg' with hg'
                    subst hg'
                    obtain ⟨o1, o2, o3, o4⟩ := GpOwn.parts2 HGO2.out
                    exact ⟨_, _, _, by rw [← o4], hfo _ _ _ _ _ _ o1, hfo _ _ _ _ _ _ o2, hfo _ _ _ _ _ _ o3⟩
                  · exact ((((HB1.out.trans (HBB.out.mono HB1.out.size)).setCell (p := ⟨w.heap.size + 1, 0, none⟩) (by show w.heap.size ≤ w.heap.size + 1; omega) _).setCell (p := ⟨w.heap.size + 1, 1, none⟩) (by show w.heap.size ≤ w.heap.size + 1; omega) _).setCell (p := ⟨w.heap.size + 1, 2, none⟩) (by show w.heap.size ≤ w.heap.size + 1; omega) _).setCell (p := ⟨w.heap.size + 1, 3, none⟩) (by show w.heap.size ≤ w.heap.size + 1; omega) _
    · have hke : k = R.length := by omega
      subst hke
      have hfn := findIdx_end HN.out (by rw [← hM.len]; exact Nat.le_refl _)
      have hgr := HGR.out
      rw [hfn] at hgr
      have HGN := Lib.hid hgr
      have pz : Blk wo (w.heap.size + 1) tGr zeroG := (HBW1.out.block _ PZ1.out.lt).trans PZ1.out
      have z0 : wo.cell? ⟨w.heap.size + 1, 0, none⟩ = some (.slice none 0 0) := pz.cell 0
      have z1 : wo.cell? ⟨w.heap.size + 1, 1, none⟩ = some (.slice none 0 0) := pz.cell 1
      have z2 : wo.cell? ⟨w.heap.size + 1, 2, none⟩ = some (.slice none 0 0) := pz.cell 2
      have z3 : wo.cell? ⟨w.heap.size + 1, 3, none⟩ = some (.bool false) := pz.cell 3
      have e0 := pz.free 0
      have e1 := pz.free 1
      have e2 := pz.free 2
      have e3 := pz.free 3
      have HBZ := Lib.hid (HB1.out.trans (HBW1.out.mono HB1.out.size))
      clear hfn hgr pz hM
      go_wp2
      (try simp only [Exit.inBlock, Exit.then])
      refine bodyPost_ret (v := .tuple #[.agg #[.slice none 0 0, .slice none 0 0, .slice none 0 0, .bool false], .bool false]) ?_ rfl ?_
      · rw [results_cell_tmp rfl]
        go_simp
      · refine ⟨.slice none 0 0, .slice none 0 0, .slice none 0 0, false, by rw [HGN.out]; rfl, fun g hg => ?_, ?_, ⟨_, _, _, rfl⟩, ⟨_, _, _, rfl⟩, _, _, _, rfl⟩
        · rw [HGN.out] at hg; cases hg
        · exact (((HBZ.out.setCell (p := ⟨w.heap.size + 1, 0, none⟩) (by show w.heap.size ≤ w.heap.size + 1; omega) _).setCell (p := ⟨w.heap.size + 1, 1, none⟩) (by show w.heap.size ≤ w.heap.size + 1; omega) _).setCell (p := ⟨w.heap.size + 1, 2, none⟩) (by show w.heap.size ≤ w.heap.size + 1; omega) _).setCell (p := ⟨w.heap.size + 1, 3, none⟩) (by show w.heap.size ≤ w.heap.size + 1; omega) _
end Go.Proofs.Ytlkpbpecgdphaaa
