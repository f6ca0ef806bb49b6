/-
  WALK: hammerpondref.GroupFor, where a rule names the target.
-/
import Derived.Test.YtlkpbpecgdphaaaFields
import Derived.Test.YtlkpbpecgdphaaaRefWords
import Derived.Lib.Strings
import Derived.Test.YtlkpbpecgdphaaaGo
import Derived.Test.YtlkpbpecgdphaaaGl
import Derived.Test.YtlkpbpecgdphaaaGw
import Derived.Test.YtlkpbpecgdphaaaRefGet
namespace Go.Proofs.Ytlkpbpecgdphaaa
open Go.RowKit

set_option maxHeartbeats 1600000 in
set_option maxRecDepth 100000 in
theorem refStem_any (p n : ByteArray) (w : World) (hp : p.size ≤ 1000000) (hn : n.size ≤ 1000000) :
    Calls Try.prog 60 #[.string p, .string n] w fun e w' => e = .returned (.tuple #[.string (stemR p n).1, .bool (stemR p n).2]) ∧ w = w' := by
  obtain ⟨r, hr⟩ : ∃ r, r = stemR p n := ⟨_, rfl⟩
  rw [← hr]
  unfold stemR at hr
  have hF := find_any p ⟨#[37]⟩ 0 w (by decide) (by decide) (Nat.zero_le _) hp
  have hfr : findR p.data.toList [37] 0 = Lib.index p.data.toList [37] := by unfold findR; rw [List.drop_zero]; split; rename_i e; exact e.symm; simp
  have hge := Lib.index_ge p.data.toList [37]
  have hroom := Lib.index_room p.data.toList [37]
  rw [show (⟨#[37]⟩ : ByteArray).data.toList = [37] from rfl, hfr] at hF
  by_cases h1 : Lib.index p.data.toList [37] = -1
  · have hc := cut_none h1
    rw [show cutB p [37] = (p.data.toList, [], false) from hc] at hr
    rw [if_neg (by simp)] at hr
    rw [h1] at hF
    have HF := Lib.hid hF
    have HR := Lib.hid hr
    clear hF hr h1 hc hfr hge hroom
    go_enter Try.func60, Try.ntmps60
    go_wp2_with (go_at_call 38; refine HF.out.mono ?_; rintro e w' ⟨rfl, rfl⟩)
    go_ret2
    exact ⟨by rw [HR.out]; rfl, rfl⟩
  · obtain ⟨i, hi⟩ : ∃ i : Nat, Lib.index p.data.toList [37] = i := ⟨(Lib.index p.data.toList [37]).toNat, by omega⟩
    have hri := hroom (by omega)
    rw [hi] at hri
    have hil : i + 1 ≤ p.size := by have e : p.data.toList.length = p.size := by simp
                                    simp only [List.length_cons, List.length_nil] at hri; omega
    have hc := cut_at hi
    have ea : (p.extract 0 i).data.toList = p.data.toList.take i := by rw [Lib.extract_data]; simp
    have eb : (p.extract (i + 1) p.size).data.toList = p.data.toList.drop (i + 1) := Lib.extract_to_end p (i + 1)
    rw [show cutB p [37] = ((p.extract 0 i).data.toList, (p.extract (i + 1) p.size).data.toList, true) from by rw [ea, eb]; exact hc] at hr
    rw [hi] at hF
    have sa : (p.extract 0 i).size = i := by simp; omega
    have HF := Lib.hid hF
    clear hF h1 hc hfr hge hroom hri hi ea eb
    have za : (p.extract 0 i).size ≤ 1000000 := by simp; omega
    have zb : (p.extract (i + 1) p.size).size ≤ 1000000 := by simp; omega
    generalize hga : p.extract 0 i = a at *
    generalize hgb : p.extract (i + 1) p.size = b at *
    have la : a.data.toList.length = a.size := by simp
    have lb : b.data.toList.length = b.size := by simp
    dsimp only at hr
    rw [la, lb] at hr
    have hpr := Lib.hasPrefix_raw n a
    have hsr := Lib.hasSuffix_raw n b
    clear la lb sa
    by_cases hlt : a.size + b.size < n.size
    · obtain ⟨m, hm⟩ : ∃ m, n.size = a.size + m + b.size := ⟨n.size - a.size - b.size, by omega⟩
      have hmi : (n.size : Int) - (a.size : Int) - (b.size : Int) = (m : Int) := by omega
      have hm1 : decide ((m : Int) < 1) = false := decide_eq_false (by omega)
      have hm2 : ¬ (m : Int) < 1 := by omega
      have hsb : n.size - b.size = a.size + m := by omega
      rw [decide_eq_true (by omega), Bool.true_and] at hpr hsr
      rw [hsb] at hsr hr
      have HM := Lib.hid hm
      have hmn : a.size + m ≤ n.size := by omega
      have han : a.size ≤ n.size := by omega
      clear hm hsb
      cases hpf : Lib.hasPrefix n.data.toList a.data.toList with
      | false =>
        rw [hpf] at hpr hr
        rw [if_neg (by simp)] at hr
        have HR := Lib.hid hr
        have hpn : ((n.extract 0 a.size).toList != a.toList) = true := by rw [bne, hpr]; rfl
        clear hr hsr hpf
        go_enter Try.func60, Try.ntmps60
        go_wp2_with (go_at_call 38; refine HF.out.mono ?_; rintro e w' ⟨rfl, rfl⟩)
        go_ret2
        exact ⟨by rw [HR.out]; rfl, rfl⟩
      | true =>
        have hpn : ((n.extract 0 a.size).toList != a.toList) = false := by rw [bne, hpr, hpf]; rfl
        rw [hpf] at hpr
        cases hsf : Lib.hasSuffix n.data.toList b.data.toList with
        | false =>
          rw [hsf] at hsr hr
          rw [if_neg (by simp)] at hr
          have hsn : ((n.extract (a.size + m) n.size).toList != b.toList) = true := by rw [bne, hsr]; rfl
          have HR := Lib.hid hr
          clear hr hsf hpf
          go_enter Try.func60, Try.ntmps60
          go_wp2_with (go_at_call 38; refine HF.out.mono ?_; rintro e w' ⟨rfl, rfl⟩)
          go_ret2
          exact ⟨by rw [HR.out]; rfl, rfl⟩
        | true =>
          have hsn : ((n.extract (a.size + m) n.size).toList != b.toList) = false := by rw [bne, hsr, hsf]; rfl
          rw [hsf] at hsr
          rw [if_pos ⟨rfl, hpf, hsf, hlt⟩] at hr
          have HR := Lib.hid hr
          clear hr hsf hpf
          go_enter Try.func60, Try.ntmps60
          go_wp2_with (go_at_call 38; refine HF.out.mono ?_; rintro e w' ⟨rfl, rfl⟩)
          go_ret2
          exact ⟨by rw [HR.out]; rfl, rfl⟩
    · rw [if_neg (fun h => hlt h.2.2.2)] at hr
      have hm2 : (n.size : Int) - (a.size : Int) - (b.size : Int) < 1 := by omega
      have hm1 : decide ((n.size : Int) - (a.size : Int) - (b.size : Int) < 1) = true := decide_eq_true hm2
      have HR := Lib.hid hr
      clear hr hpr hsr
      go_enter Try.func60, Try.ntmps60
      go_wp2_with (go_at_call 38; refine HF.out.mono ?_; rintro e w' ⟨rfl, rfl⟩)
      go_ret2
      exact ⟨by rw [HR.out]; rfl, rfl⟩
end Go.Proofs.Ytlkpbpecgdphaaa
namespace Go.Proofs.Ytlkpbpecgdphaaa
open Go.RowKit

theorem gf_boxes (w : World) (a b c : Value) : ∃ W, W = (w.alloc (.cells #[a, b, c] tMa)).alloc (.cells zeroG tGr) ∧ Below w.heap.size w W ∧ Blk W w.heap.size tMa #[a, b, c] ∧ Blk W (w.heap.size + 1) tGr zeroG ∧ W.heap.size = w.heap.size + 2 := by
  have e1 : (w.alloc (.cells #[a, b, c] tMa)).heap.size = w.heap.size + 1 := by simp
  refine ⟨_, rfl, ((Below.refl _ w).alloc (Nat.le_refl _) _).alloc (by simp) _, (Blk.new w tMa _).alloc _, ?_, by simp⟩
  have := Blk.new (w.alloc (.cells #[a, b, c] tMa)) tGr zeroG
  rwa [e1] at this
/-- What the document's group of a rule may hold. -/
theorem grpOf_short {m : Mk} (hL : Lim m) {r : Ru} (hr : r ∈ m.rules) {name stem : ByteArray} (hn : name.size ≤ 1000) (hs : stem.size ≤ 1000) {ph : Bool} {g : Gp} (hg : g = grpOf r (if stem = ⟨#[]⟩ then r.1 else [name]) stem ph) :
    (joinB g.nd).length ≤ 1000000 ∧ ∀ c ∈ r.2.2, (autoT c g.tg g.nd stem).length ≤ 1000000000 := by
  subst hg
  exact grp_short (cm := r.2.2) (tg := if stem = ⟨#[]⟩ then r.1 else [name]) (nd := fillR r.2.1 stem) (hL.csz r hr) (fun x hx => by
    split at hx
    · exact hL.tsz r hr x hx
    · rw [List.mem_singleton.1 hx]; exact hn) (fun x hx => fillR_size (hL.nsz r hr) hs hx) (by unfold fillR; rw [List.length_map]; exact hL.nds r hr) hs
theorem groupOf_lim (m : Mk) (vv vr vp : Value) (R : List Row3) (r : Ru) (x1 x2 x3 : Value) (name stem : ByteArray) (w : World) (h : MkRd w m vv vr vp R) (hr : r ∈ m.rules) (h1 : Sl w x1 r.1) (h2 : Sl w x2 r.2.1) (h3 : Sl w x3 r.2.2) (hL : Lim m) (hn : name.size ≤ 1000) (hs : stem.size ≤ 1000) :
    Calls Try.prog 59 #[.agg #[vv, vr, vp], .agg #[x1, x2, x3], .string name, .string stem] w fun e w' => ∃ A1 c1 A2 c2 A3 c3 n1 n2 n3 ph, e = .returned (.agg #[.slice A1 n1 c1, .slice A2 n2 c2, .slice A3 n3 c3, .bool ph]) ∧ GpOwn w' w.heap.size (.agg #[.slice A1 n1 c1, .slice A2 n2 c2, .slice A3 n3 c3, .bool ph]) (grpOf r (if stem = ⟨#[]⟩ then r.1 else [name]) stem (inT m.phony (headT r.1))) ∧ Below w.heap.size w w' := by
  obtain ⟨j1, j2⟩ := grpOf_short hL hr hn hs (rfl : _ = grpOf r (if stem = ⟨#[]⟩ then r.1 else [name]) stem (inT m.phony (headT r.1)))
  refine (groupOf_any m vv vr vp R r x1 x2 x3 name stem w h h1 h2 h3 ?_ (by have := hL.tgs r hr; omega) (by have := hL.nds r hr; omega) (by have := hL.cms r hr; omega) hL.phony (hL.nsz r hr) hs (hL.csz r hr) _ rfl j1 j2).mono ?_
  · have := hL.ne r hr
    cases hh : r.1 with
    | nil => exact absurd hh this
    | cons a b => simp
  · rintro e w' ⟨v, rfl, hgo, hb⟩
    obtain ⟨a, b, c, rfl, o1, o2, o3⟩ := hgo
    obtain ⟨A1, c1, rfl⟩ := own_shape o1
    obtain ⟨A2, c2, rfl⟩ := own_shape o2
    obtain ⟨A3, c3, rfl⟩ := own_shape o3
    exact ⟨_, _, _, _, _, _, _, _, _, _, rfl, ⟨_, _, _, rfl, o1, o2, o3⟩, hb⟩
set_option maxRecDepth 100000 in
set_option maxHeartbeats 8000000 in
theorem groupFor_exp (m : Mk) (l : List F) (vv vr vp : Value) (R : List Row3) (name : ByteArray) (Af : Option Addr) (cf : Nat) (w : World) (h : MkRd w m vv vr vp R) (hL : Lim m) (hn : name.size ≤ 1000) (k : Nat) (he : explO m.rules name = some k) (hE : ∀ r ∈ m.rules, name ∈ r.1 → fillR r.2.1 ⟨#[]⟩ = r.2.1) :
    Calls Try.prog 41 #[.agg #[vv, vr, vp], .slice Af l.length cf, .string name] w (GrPost m l name w) := by
  obtain ⟨g, hg⟩ : ∃ g, m.rules[k]? = some g := by
    unfold explO at he
    obtain ⟨hi, _, _⟩ := List.findIdx?_eq_some_iff_getElem.1 he
    exact ⟨_, List.getElem?_eq_getElem hi⟩
  have hng : name ∈ g.1 := by
    unfold explO at he
    obtain ⟨hi, h2, _⟩ := List.findIdx?_eq_some_iff_getElem.1 he
    rw [List.getElem?_eq_getElem hi] at hg
    injection hg with hg
    rw [← hg]; exact inT_mem.1 h2
  have hgm := List.mem_of_getElem? hg
  have hgr : grpR m l name = some (grpOf g (if (⟨#[]⟩ : ByteArray) = ⟨#[]⟩ then g.1 else [name]) ⟨#[]⟩ (inT m.phony (headT g.1))) := by
    unfold grpR; rw [he]; dsimp only; rw [hg, if_pos rfl]
    show some (expG m g) = _
    unfold expG grpOf
    rw [hE g hgm hng]
  obtain ⟨W, hW, hbw, hpm, hpz, hWs⟩ := gf_boxes w vv vr vp
  have hR0 := h.rules
  have hM := h.belowS hbw
  have hX := explicit_any m vv vr vp R name W hM hL.rules (fun r hr => Nat.le_trans (hL.tgs r hr) (by omega))
  obtain ⟨Av, cv, rfl, -⟩ := hM.vars
  obtain ⟨Ar, cr, rfl, -⟩ := hM.rules
  obtain ⟨Ap, cp, rfl, -⟩ := hM.phony
  obtain ⟨Ar0, cr0, er0, hR1⟩ := hR0
  injection er0 with er1 er2 er3
  subst er1 er3
  have HR1 := Lib.hid hR1
  clear hR1 er2
  have HX := Lib.hid hX
  have HM := Lib.hid hM
  have HBW := Lib.hid hbw
  have PM := Lib.hid hpm
  have PZ := Lib.hid hpz
  have WS := Lib.hid hWs
  have HW := Lib.hid hW
  have HG := Lib.hid hg
  have HL := Lib.hid hL
  have HGR := Lib.hid hgr
  have m0 := hpm.cell 0
  have m1 := hpm.cell 1
  have m2 := hpm.cell 2
  clear h hM hX hL hg hgr hng hbw hpm hpz hWs hW hE
  go_enter Try.func41, Try.ntmps41
  go_wp2_with fail
  rw [← HW.out]
  refine HX.out.mono ?_
  rintro e w1 ⟨rfl, hb1⟩
  rw [he, show idxV (some k) = (k : Int) from rfl]
  have HM1 := Lib.hid (HM.out.belowS hb1)
  have HB1 := Lib.hid (HBW.out.trans (hb1.mono HBW.out.size))
  have PM1 := Lib.hid (show Blk w1 w.heap.size tMa _ from (hb1.block _ PM.out.lt).trans PM.out)
  have PZ1 := Lib.hid (show Blk w1 (w.heap.size + 1) tGr zeroG from (hb1.block _ PZ.out.lt).trans PZ.out)
  obtain ⟨Ar', cr', er, hrr⟩ := HM1.out.rules
  injection er with er1 er2 er3
  subst er1 er3
  have hkR : k < R.length := by rw [HM1.out.len]; exact (List.getElem?_eq_some_iff.1 HG.out).1
  obtain ⟨x, hx⟩ : ∃ x, R[k]? = some x := ⟨_, List.getElem?_eq_getElem hkR⟩
  obtain ⟨b', off, rfl, hbl, c1, c2, c3⟩ := hrr.at_ hx
  have hbl0 : b' < w.heap.size := by
    obtain ⟨b2, o2, e2, h2, -⟩ := HR1.out.at_ hx
    injection e2 with e2
    injection e2 with e2 _
    rw [e2]; exact h2
  obtain ⟨s1, s2, s3⟩ := HM1.out.each k x g hx HG.out
  obtain ⟨v1, v2, v3⟩ := x
  dsimp only at c1 c2 c3 s1 s2 s3
  have hk0 : (0 : Int) ≤ (k : Int) := by omega
  have hkz : (k : Int) < (R.length : Int) := by omega
  have S1 := Lib.hid s1
  have S2 := Lib.hid s2
  have S3 := Lib.hid s3
  have hS := fun (W' : World) (hb : Below w1.heap.size w1 W') => show W'.cell? ⟨w.heap.size, 0, none⟩ = some (.slice Av m.vars.length cv) ∧ W'.cell? ⟨w.heap.size, 1, none⟩ = some (.slice (some ⟨b', off, none⟩) R.length cr) ∧ W'.cell? ⟨w.heap.size, 2, none⟩ = some (.slice Ap m.phony.length cp) ∧ W'.cell? ⟨b', off + k * 3, none⟩ = some v1 ∧ W'.cell? ⟨b', off + k * 3 + 1, none⟩ = some v2 ∧ W'.cell? ⟨b', off + k * 3 + 2, none⟩ = some v3 from
    ⟨(hb.cell (p := ⟨w.heap.size, 0, none⟩) PM1.out.lt).trans (PM1.out.cell 0), (hb.cell (p := ⟨w.heap.size, 1, none⟩) PM1.out.lt).trans (PM1.out.cell 1), (hb.cell (p := ⟨w.heap.size, 2, none⟩) PM1.out.lt).trans (PM1.out.cell 2), (hb.cell (p := ⟨b', _, none⟩) hbl).trans c1, (hb.cell (p := ⟨b', _, none⟩) hbl).trans c2, (hb.cell (p := ⟨b', _, none⟩) hbl).trans c3⟩
  have HS4 := Lib.hid hS
  have hfour : ∀ (W' : World) (a b c d : Value) (p : Addr), p.block ≠ w.heap.size + 1 → ((((W'.setCell ⟨w.heap.size + 1, 0, none⟩ a).setCell ⟨w.heap.size + 1, 1, none⟩ b).setCell ⟨w.heap.size + 1, 2, none⟩ c).setCell ⟨w.heap.size + 1, 3, none⟩ d).cell? p = W'.cell? p := fun W' a b c d p hp => by
    unfold World.cell?
    rw [Below.heap_setCell _ _ _ _ hp, Below.heap_setCell _ _ _ _ hp, Below.heap_setCell _ _ _ _ hp, Below.heap_setCell _ _ _ _ hp]
  have HS5 := Lib.hid (fun (W' : World) (a b c d : Value) (hb : Below w1.heap.size w1 W') => show ((((W'.setCell ⟨w.heap.size + 1, 0, none⟩ a).setCell ⟨w.heap.size + 1, 1, none⟩ b).setCell ⟨w.heap.size + 1, 2, none⟩ c).setCell ⟨w.heap.size + 1, 3, none⟩ d).cell? ⟨w.heap.size, 0, none⟩ = some (.slice Av m.vars.length cv) ∧ ((((W'.setCell ⟨w.heap.size + 1, 0, none⟩ a).setCell ⟨w.heap.size + 1, 1, none⟩ b).setCell ⟨w.heap.size + 1, 2, none⟩ c).setCell ⟨w.heap.size + 1, 3, none⟩ d).cell? ⟨w.heap.size, 1, none⟩ = some (.slice (some ⟨b', off, none⟩) R.length cr) ∧ ((((W'.setCell ⟨w.heap.size + 1, 0, none⟩ a).setCell ⟨w.heap.size + 1, 1, none⟩ b).setCell ⟨w.heap.size + 1, 2, none⟩ c).setCell ⟨w.heap.size + 1, 3, none⟩ d).cell? ⟨w.heap.size, 2, none⟩ = some (.slice Ap m.phony.length cp) ∧ ((((W'.setCell ⟨w.heap.size + 1, 0, none⟩ a).setCell ⟨w.heap.size + 1, 1, none⟩ b).setCell ⟨w.heap.size + 1, 2, none⟩ c).setCell ⟨w.heap.size + 1, 3, none⟩ d).cell? ⟨b', off + k * 3, none⟩ = some v1 ∧ ((((W'.setCell ⟨w.heap.size + 1, 0, none⟩ a).setCell ⟨w.heap.size + 1, 1, none⟩ b).setCell ⟨w.heap.size + 1, 2, none⟩ c).setCell ⟨w.heap.size + 1, 3, none⟩ d).cell? ⟨b', off + k * 3 + 1, none⟩ = some v2 ∧ ((((W'.setCell ⟨w.heap.size + 1, 0, none⟩ a).setCell ⟨w.heap.size + 1, 1, none⟩ b).setCell ⟨w.heap.size + 1, 2, none⟩ c).setCell ⟨w.heap.size + 1, 3, none⟩ d).cell? ⟨b', off + k * 3 + 2, none⟩ = some v3 from by
    obtain ⟨t0, t1, t2, t3, t4, t5⟩ := hS W' hb
    exact ⟨(hfour W' a b c d _ (by show w.heap.size ≠ w.heap.size + 1; omega)).trans t0, (hfour W' a b c d _ (by show w.heap.size ≠ w.heap.size + 1; omega)).trans t1, (hfour W' a b c d _ (by show w.heap.size ≠ w.heap.size + 1; omega)).trans t2, (hfour W' a b c d _ (by show b' ≠ w.heap.size + 1; omega)).trans t3, (hfour W' a b c d _ (by show b' ≠ w.heap.size + 1; omega)).trans t4, (hfour W' a b c d _ (by show b' ≠ w.heap.size + 1; omega)).trans t5⟩)
  clear hfour
  obtain ⟨t0, t1, t2, t3, t4, t5⟩ := hS w1.drew ((Below.refl _ w1).drew)
  have K1 := Lib.hid (show Below w1.heap.size w1 w1.drew from (Below.refl _ w1).drew)
  have HGO := Lib.hid (fun (W' : World) (hb : Below w1.heap.size w1 W') => groupOf_lim m _ _ _ R g v1 v2 v3 name ⟨#[]⟩ W' (HM1.out.belowS hb) hgm (S1.out.belowS hb) (S2.out.belowS hb) (S3.out.belowS hb) HL.out hn (Nat.zero_le _))
  clear hb1 hx hrr s1 s2 s3 hS c1 c2 c3 m0 m1 m2 HX HM PM PZ
  go_wp2_with fail
  go_region_held3 (fun W' => W'.cell? ⟨w.heap.size, 0, none⟩ = some (.slice Av m.vars.length cv) ∧ W'.cell? ⟨w.heap.size, 1, none⟩ = some (.slice (some ⟨b', off, none⟩) R.length cr) ∧ W'.cell? ⟨w.heap.size, 2, none⟩ = some (.slice Ap m.phony.length cp) ∧ W'.cell? ⟨b', off + k * 3, none⟩ = some v1 ∧ W'.cell? ⟨b', off + k * 3 + 1, none⟩ = some v2 ∧ W'.cell? ⟨b', off + k * 3 + 2, none⟩ = some v3)
    (first | with_reducible exact HS5.out _ _ _ _ _ K2.out | with_reducible exact HS4.out _ K2.out | with_reducible exact HS4.out _ K1.out)
    (first
      | (go_at_call 59; refine (HGO.out _ K1.out).mono ?_; rintro e w2 ⟨A1, d1, A2, d2, A3, d3, n1, n2, n3, ph, rfl, hgo, hb2⟩; have hk2 := K1.out.trans (hb2.mono K1.out.size); have K2 := Lib.hid hk2; have GO := Lib.hid (hgo.mono K1.out.size); have pz2 : Blk w2 (w.heap.size + 1) tGr zeroG := (hk2.block _ PZ1.out.lt).trans PZ1.out; have z0 : w2.cell? ⟨w.heap.size + 1, 0, none⟩ = some (.slice none 0 0) := pz2.cell 0; have z1 : w2.cell? ⟨w.heap.size + 1, 1, none⟩ = some (.slice none 0 0) := pz2.cell 1; have z2 : w2.cell? ⟨w.heap.size + 1, 2, none⟩ = some (.slice none 0 0) := pz2.cell 2; have z3 : w2.cell? ⟨w.heap.size + 1, 3, none⟩ = some (.bool false) := pz2.cell 3; have e0 := pz2.free 0; have e1 := pz2.free 1; have e2 := pz2.free 2; have e3 := pz2.free 3; clear hk2 hb2 hgo pz2)
      | fail)
  go_wp2
  (try simp only [Exit.inBlock, Exit.then])
  have hz1 : w.heap.size + 1 < w1.heap.size := PZ1.out.lt
  have hfo := fun (v a b c d : Value) (t : List ByteArray) (ho : Own1 w2 w1.heap.size v t) => show Own1 ((((w2.setCell ⟨w.heap.size + 1, 0, none⟩ a).setCell ⟨w.heap.size + 1, 1, none⟩ b).setCell ⟨w.heap.size + 1, 2, none⟩ c).setCell ⟨w.heap.size + 1, 3, none⟩ d) w.heap.size v t from by
    have h1 : v.ownBlock ≠ some (w.heap.size + 1) := own_old (_w' := w2) ho hz1
    have h2 : Own1 ((((w2.setCell ⟨w.heap.size + 1, 0, none⟩ a).setCell ⟨w.heap.size + 1, 1, none⟩ b).setCell ⟨w.heap.size + 1, 2, none⟩ c).setCell ⟨w.heap.size + 1, 3, none⟩ d) w1.heap.size v t := own_set (own_set (own_set (own_set ho h1) h1) h1) h1
    exact World.ownsRow.mono h2 (by omega)
  have hfb := fun (a b c d : Value) => show Below w.heap.size w ((((w2.setCell ⟨w.heap.size + 1, 0, none⟩ a).setCell ⟨w.heap.size + 1, 1, none⟩ b).setCell ⟨w.heap.size + 1, 2, none⟩ c).setCell ⟨w.heap.size + 1, 3, none⟩ d) from
    ((((HB1.out.trans (K2.out.mono HB1.out.size)).setCell (p := ⟨w.heap.size + 1, 0, none⟩) (by show w.heap.size ≤ w.heap.size + 1; omega) a).setCell (p := ⟨w.heap.size + 1, 1, none⟩) (by show w.heap.size ≤ w.heap.size + 1; omega) b).setCell (p := ⟨w.heap.size + 1, 2, none⟩) (by show w.heap.size ≤ w.heap.size + 1; omega) c).setCell (p := ⟨w.heap.size + 1, 3, none⟩) (by show w.heap.size ≤ w.heap.size + 1; omega) d
  refine bodyPost_ret (v := .tuple #[.agg #[.slice A1 n1 d1, .slice A2 n2 d2, .slice A3 n3 d3, .bool ph], .bool true]) ?_ rfl ?_
  · rw [results_cell_tmp rfl]
    go_simp
  · refine ⟨.slice A1 n1 d1, .slice A2 n2 d2, .slice A3 n3 d3, ph, by rw [HGR.out]; rfl, fun g' hg' => ?_, hfb _ _ _ _, ⟨_, _, _, rfl⟩, ⟨_, _, _, rfl⟩, _, _, _, rfl⟩
    rw [HGR.out] at hg'
    injection hg' with hg'
    subst hg'
    obtain ⟨a, b, c, e, o1, o2, o3⟩ := GO.out
    simp only [Value.agg.injEq, Array.mk.injEq, List.cons.injEq, and_true] at e
    obtain ⟨rfl, rfl, rfl, e4⟩ := e
    exact ⟨_, _, _, by rw [← e4], hfo _ _ _ _ _ _ o1, hfo _ _ _ _ _ _ o2, hfo _ _ _ _ _ _ o3⟩
end Go.Proofs.Ytlkpbpecgdphaaa
