/-
  WALK: hammerpondref.groupOf: the group that a rule gives for a name.
-/
import Derived.Test.YtlkpbpecgdphaaaParse
import Derived.Test.YtlkpbpecgdphaaaGf
import Derived.Test.YtlkpbpecgdphaaaGl
import Derived.Deep.RegionHeld3
import Derived.Deep.DeepCutAuto
import Derived.Deep.QuietTactic
namespace Go.Proofs.Ytlkpbpecgdphaaa
open Go.RowKit

abbrev tMa : TypeId := 36
abbrev tRd : TypeId := 81
def zero4 : Array Value := #[.slice none 0 0, .slice none 0 0, .slice none 0 0, .bool false]
theorem take_map {α : Type} {f : ByteArray → α} {l : List ByteArray} {k : Nat} {x : ByteArray} (h : l[k]? = some x) : (l.take (k + 1)).map f = (l.take k).map f ++ [f x] := by
  rw [List.take_add_one, h]; simp
def mapG (f : ByteArray → ByteArray) (l : List ByteArray) : List ByteArray := l.map f
theorem mapG_take {f : ByteArray → ByteArray} {l : List ByteArray} {k : Nat} {x : ByteArray} (h : l[k]? = some x) : mapG f (l.take (k + 1)) = mapG f (l.take k) ++ [f x] := take_map h
def GnRel (W : World) (B pg : Nat) (VT : Value) (ph : Bool) (nd : List ByteArray) (stem : ByteArray) (n : Nat) (i : Value) (wr : World) : Prop :=
  ∃ (k : Nat) (V : Value), k ≤ n ∧ i = .int .i64 k ∧ wr.ownsRow B tStr 1 V k (tcells (mapG (onceB · stem) (nd.take k))) ∧ Blk wr pg tGr #[VT, V, .slice none 0 0, .bool ph] ∧ Upd W wr (One pg)
def GcRel (W : World) (B pg : Nat) (VT VN : Value) (ph : Bool) (cm : List ByteArray) (f : ByteArray → ByteArray) (n : Nat) (i : Value) (wr : World) : Prop :=
  ∃ (k : Nat) (V : Value), k ≤ n ∧ i = .int .i64 k ∧ wr.ownsRow B tStr 1 V k (tcells (mapG f (cm.take k))) ∧ Blk wr pg tGr #[VT, VN, V, .bool ph] ∧ Upd W wr (One pg)

set_option maxRecDepth 100000 in
set_option maxHeartbeats 16000000 in
theorem groupOf_any (m : Mk) (vv vr vp : Value) (R : List Row3) (r : Ru) (x1 x2 x3 : Value) (name stem : ByteArray) (w : World) (h : MkRd w m vv vr vp R) (h1 : Sl w x1 r.1) (h2 : Sl w x2 r.2.1) (h3 : Sl w x3 r.2.2)
    (hne : 1 ≤ r.1.length) (l1 : r.1.length ≤ 1000) (l2 : r.2.1.length ≤ 1000) (l3 : r.2.2.length ≤ 1000) (lp : m.phony.length ≤ 1000) (s2 : ∀ x ∈ r.2.1, x.size ≤ 1000) (ss : stem.size ≤ 1000) (s3 : ∀ x ∈ r.2.2, x.size ≤ 1000)
    (g : Gp) (hg : g = grpOf r (if stem = ⟨#[]⟩ then r.1 else [name]) stem (inT m.phony (headT r.1))) (hj : (joinB g.nd).length ≤ 1000000) (ha : ∀ c ∈ r.2.2, (autoT c g.tg g.nd stem).length ≤ 1000000000) :
    Calls Try.prog 59 #[.agg #[vv, vr, vp], .agg #[x1, x2, x3], .string name, .string stem] w fun e w' => ∃ v, e = .returned v ∧ GpOwn w' w.heap.size v g ∧ Below w.heap.size w w' := by
  obtain ⟨i, hi, hz, hsz, hby⟩ := str_parts
  have HI := Lib.hid hi
  have HZ := Lib.hid hz
  have HS := Lib.hid hsz
  have HBY := Lib.hid hby
  obtain ⟨Av, cv, rfl, -⟩ := h.vars
  obtain ⟨Ar, cr, rfl, -⟩ := h.rules
  obtain ⟨Ap, cp, rfl, hp⟩ := h.phony
  obtain ⟨A1, c1, rfl, q1⟩ := h1
  obtain ⟨A2, c2, rfl, q2⟩ := h2
  obtain ⟨A3, c3, rfl, q3⟩ := h3
  obtain ⟨n1, hn1⟩ : ∃ n, n = r.1.length := ⟨_, rfl⟩
  obtain ⟨n2, hn2⟩ : ∃ n, n = r.2.1.length := ⟨_, rfl⟩
  obtain ⟨n3, hn3⟩ : ∃ n, n = r.2.2.length := ⟨_, rfl⟩
  obtain ⟨t0, ht0⟩ : ∃ t, r.1[0]? = some t := ⟨_, List.getElem?_eq_getElem (by omega)⟩
  rw [← hn1] at q1 hne l1
  rw [← hn2] at q2 l2
  rw [← hn3] at q3 l3
  rw [← hn1, ← hn2, ← hn3]
  have HN2 := Lib.hid hn2
  have HN3 := Lib.hid hn3
  have hhd : headT r.1 = t0 := by
    cases hr : r.1 with
    | nil => rw [hr] at ht0; cases ht0
    | cons a b => rw [hr] at ht0; injection ht0 with e
  rw [hhd] at hg
  obtain ⟨W0, hW⟩ : ∃ W0, W0 = ((w.alloc (.cells #[.slice Av m.vars.length cv, .slice Ar R.length cr, .slice Ap m.phony.length cp] tMa)).alloc (.cells #[.slice A1 n1 c1, .slice A2 n2 c2, .slice A3 n3 c3] tRd)).alloc (.cells #[.slice none 0 0, .slice none 0 0, .slice none 0 0, .bool false] tGr) := ⟨_, rfl⟩
  have hbw : Below w.heap.size w W0 := by rw [hW]; exact (((Below.refl _ w).alloc (Nat.le_refl _) _).alloc (by simp) _).alloc (by simp; omega) _
  have e1 : (w.alloc (.cells #[.slice Av m.vars.length cv, .slice Ar R.length cr, .slice Ap m.phony.length cp] tMa)).heap.size = w.heap.size + 1 := by simp
  have e2 : ((w.alloc (.cells #[.slice Av m.vars.length cv, .slice Ar R.length cr, .slice Ap m.phony.length cp] tMa)).alloc (.cells #[.slice A1 n1 c1, .slice A2 n2 c2, .slice A3 n3 c3] tRd)).heap.size = w.heap.size + 2 := by simp
  have pm : Blk W0 w.heap.size tMa #[.slice Av m.vars.length cv, .slice Ar R.length cr, .slice Ap m.phony.length cp] := by rw [hW]; exact ((Blk.new w tMa _).alloc _).alloc _
  have pr : Blk W0 (w.heap.size + 1) tRd #[.slice A1 n1 c1, .slice A2 n2 c2, .slice A3 n3 c3] := by
    rw [hW]
    have := (Blk.new (w.alloc (.cells #[.slice Av m.vars.length cv, .slice Ar R.length cr, .slice Ap m.phony.length cp] tMa)) tRd #[.slice A1 n1 c1, .slice A2 n2 c2, .slice A3 n3 c3]).alloc (.cells #[.slice none 0 0, .slice none 0 0, .slice none 0 0, .bool false] tGr)
    rwa [e1] at this
  have pz : Blk W0 (w.heap.size + 2) tGr zero4 := by
    rw [hW]
    have := Blk.new ((w.alloc (.cells #[.slice Av m.vars.length cv, .slice Ar R.length cr, .slice Ap m.phony.length cp] tMa)).alloc (.cells #[.slice A1 n1 c1, .slice A2 n2 c2, .slice A3 n3 c3] tRd)) tGr zero4
    rwa [e2] at this
  have hs0 : W0.heap.size = w.heap.size + 3 := by rw [hW]; simp
  have HW := Lib.hid hW
  have HBW := Lib.hid hbw
  have PM := Lib.hid pm
  have PR := Lib.hid pr
  have PZ := Lib.hid pz
  have HS0 := Lib.hid hs0
  have Q1 := Lib.hid (q1.belowS hbw)
  have Q2 := Lib.hid (q2.belowS hbw)
  have Q3 := Lib.hid (q3.belowS hbw)
  have QP := Lib.hid (hp.belowS hbw)
  have HJ := Lib.hid hj
  have HA := Lib.hid ha
  have S2 := Lib.hid s2
  have S3 := Lib.hid s3
  obtain ⟨b', off, rfl, hb', hc0⟩ := Q1.out.at_ ht0
  rw [Nat.add_zero] at hc0
  have hS := fun (W : World) (hb : Below W0.heap.size W0 W) => show W.cell? ⟨w.heap.size + 1, 0, none⟩ = some (.slice (some ⟨b', off, none⟩) n1 c1) ∧ W.cell? ⟨w.heap.size, 2, none⟩ = some (.slice Ap m.phony.length cp) ∧ W.cell? ⟨b', off, none⟩ = some (.string t0) from
    ⟨(hb.cell (p := ⟨w.heap.size + 1, 0, none⟩) pr.lt).trans (pr.cell 0), (hb.cell (p := ⟨w.heap.size, 2, none⟩) pm.lt).trans (pm.cell 2), (hb.cell (p := ⟨b', off, none⟩) hb').trans hc0⟩
  have HS4 := Lib.hid hS
  obtain ⟨s1, s2, s3⟩ := hS W0.drew ((Below.refl _ W0).drew)
  have hin := fun (W : World) (hb : Below W0.heap.size W0 W) => in_any Ap m.phony.length cp m.phony t0 W (QP.out.belowS hb) (by omega)
  revert hg hin
  generalize inT m.phony t0 = ph
  intro hg hin
  have HG := Lib.hid hg
  have HIN := Lib.hid hin
  have HX := Lib.hid (fun (W : World) (hb : Below W0.heap.size W0 W) => show RdX W 1 (some ⟨b', off, none⟩) n1 (tcells r.1) from RdS.x (Q1.out.belowS hb))
  have hlr : (0 : Int) < (n1 : Int) := by omega
  have hl0 : 0 < n1 := hne
  have K0 := Lib.hid (show Below W0.heap.size W0 W0.drew from (Below.refl _ W0).drew)
  have KG := Lib.hid (show Below W0.heap.size W0 (W0.alloc (.cells #[.slice none 0 0, .slice none 0 0, .slice none 0 0, .bool false] tGr)).drew from ((Below.refl _ W0).alloc (Nat.le_refl _) _).drew)
  have LR := Lib.hid (show r.1.length = n1 from hn1.symm)
  clear hn1 hn2 hn3 hin hi hz hsz hby h q1 q2 q3 hp hhd hW hbw e1 e2 pm pr pz hs0 hg hj ha s2 s3 ht0 hc0 hS
  go_enter Try.func59, Try.ntmps59
  go_upto_region 1 with fail
  rw [← HW.out]
  clear HW
  go_cut [9] (fun p wx => ∃ (pg : Nat) (V : Value), p = .pointer (some ⟨pg, 0, none⟩) ∧ W0.heap.size ≤ pg ∧ Blk wx pg tGr #[V, .slice none 0 0, .slice none 0 0, .bool ph] ∧ Own1 wx W0.heap.size V r.1 ∧ Below W0.heap.size W0 wx)
  case first =>
    have KS := Lib.hid (fun (W' : World) (pg : Nat) (a b c d : Value) (hb : Below W0.heap.size W0 W') (hp : W0.heap.size ≤ pg) => show Below W0.heap.size W0 ((((W'.setCell ⟨pg, 0, none⟩ a).setCell ⟨pg, 1, none⟩ b).setCell ⟨pg, 2, none⟩ c).setCell ⟨pg, 3, none⟩ d) from
      (((hb.setCell (p := ⟨pg, 0, none⟩) hp a).setCell (p := ⟨pg, 1, none⟩) hp b).setCell (p := ⟨pg, 2, none⟩) hp c).setCell (p := ⟨pg, 3, none⟩) hp d)
    go_region_held3 (fun w' => w'.cell? ⟨w.heap.size + 1, 0, none⟩ = some (.slice (some ⟨b', off, none⟩) n1 c1) ∧ w'.cell? ⟨w.heap.size, 2, none⟩ = some (.slice Ap m.phony.length cp) ∧ w'.cell? ⟨b', off, none⟩ = some (.string t0))
      (first | exact HS4.out _ K5h.out | with_reducible exact HS4.out _ (KS.out _ _ _ _ _ _ K6.out (Nat.le_refl _)) | with_reducible exact HS4.out _ K5g.out | with_reducible exact HS4.out _ K5.out | with_reducible exact HS4.out _ K6.out | with_reducible exact HS4.out _ KG.out | with_reducible exact HS4.out _ K0.out)
      (first
        | (have _g := K5g; go_at_call 37; refine (HIN.out _ K5g.out).mono ?_; rintro e wz ⟨rfl, hwz⟩; subst hwz)
        | (have _g := K5; go_at_call 37; refine (HIN.out _ K5.out).mono ?_; rintro e wz ⟨rfl, hwz⟩; subst hwz)
        | (have _g := K6; go_at_call 37; refine (HIN.out _ K6.out).mono ?_; rintro e wz ⟨rfl, hwz⟩; subst hwz)
        | (have _g := KG; go_at_call 37; refine (HIN.out _ KG.out).mono ?_; rintro e wz ⟨rfl, hwz⟩; subst hwz)
        | (have _g := K0; go_at_call 37; refine (HIN.out _ K0.out).mono ?_; rintro e wz ⟨rfl, hwz⟩; subst hwz)
        | (refine step_append_rd _ (by rfl) (.const (.slice none 0 0)) (.tmp 15) _ (by rfl) W0.heap.size tStr i _ 1 16 Try.underlying27 HI.out HZ.out HS.out HBY.out rfl (by decide) _ 0 [] (by rfl) (World.ownsRow_nil W0.drew W0.heap.size tStr 1) (some ⟨b', off, none⟩) n1 c1 (tcells r.1) (by rfl) (HX.out _ K0.out) (by unfold maxLen; omega) (by omega) (Nat.le_refl _) ?_; intro v5 w5 own5 g5 _; obtain ⟨A5, k5, rfl⟩ := own_shape own5; have hb5 : Below W0.heap.size W0 w5 := (Below.refl _ W0).drew.grown g5 (Nat.le_refl _) (fun k hk => by cases hk); have K5 := Lib.hid hb5; have O5 := Lib.hid own5; have K5h := Lib.hid (show Below W0.heap.size W0 (w5.alloc (.cells #[.slice A5 n1 k5, .slice none 0 0, .slice none 0 0, .bool ph] tGr)) from hb5.alloc hb5.size _); have K5g := Lib.hid (show Below W0.heap.size W0 (w5.alloc (.cells #[.slice none 0 0, .slice none 0 0, .slice none 0 0, .bool false] tGr)) from hb5.alloc hb5.size _); clear hb5 own5 g5)
        | (refine step_append_rd _ (by rfl) (.const (.slice none 0 0)) (.tmp 15) _ (by rfl) W0.heap.size tStr i _ 1 16 Try.underlying27 HI.out HZ.out HS.out HBY.out rfl (by decide) _ 0 [] (by rfl) (World.ownsRow_nil (W0.alloc (.cells #[.slice none 0 0, .slice none 0 0, .slice none 0 0, .bool false] tGr)).drew W0.heap.size tStr 1) (some ⟨b', off, none⟩) n1 c1 (tcells r.1) (by rfl) (HX.out _ KG.out) (by unfold maxLen; omega) (by omega) KG.out.size ?_; intro v5 w6 own5 g5 _; obtain ⟨A5, k5, rfl⟩ := own_shape own5; have hb6 : Below W0.heap.size W0 w6 := KG.out.grown g5 KG.out.size (fun k hk => by cases hk); have K6 := Lib.hid hb6; have O6 := Lib.hid own5; have hpg : Blk w6 W0.heap.size tGr zero4 := (show Blk ((W0.alloc (.cells #[.slice none 0 0, .slice none 0 0, .slice none 0 0, .bool false] tGr)).drew) W0.heap.size tGr zero4 from Blk.new W0 tGr zero4).grown g5 (by intro e; cases e); have v0 : w6.cell? ⟨W0.heap.size, 0, none⟩ = some (.slice none 0 0) := hpg.cell 0; have v1 : w6.cell? ⟨W0.heap.size, 1, none⟩ = some (.slice none 0 0) := hpg.cell 1; have v2 : w6.cell? ⟨W0.heap.size, 2, none⟩ = some (.slice none 0 0) := hpg.cell 2; have v3 : w6.cell? ⟨W0.heap.size, 3, none⟩ = some (.bool false) := hpg.cell 3; have u0 := hpg.free 0; have u1 := hpg.free 1; have u2 := hpg.free 2; have u3 := hpg.free 3; have HPG := Lib.hid hpg; have HN6 := Lib.hid (show (Value.slice A5 n1 k5).ownBlock ≠ some W0.heap.size from by have := row_block_ne own5 hpg (by decide); simpa using this); clear hb6 own5 g5 hpg)
        | fail)
    all_goals (
      go_wp2_with fail
      go_meet
      first
      | exact ⟨w5.heap.size, .slice A5 n1 k5, rfl, K5.out.size, Blk.new w5 tGr _, own1_below (own1_len (by simpa using O5.out) LR.out) ((Below.refl _ _).alloc (Nat.le_refl _) _), by simpa using K5h.out⟩
      | exact ⟨W0.heap.size, .slice A5 n1 k5, rfl, Nat.le_refl _, (((HPG.out.set 0 (.slice A5 n1 k5)).set 1 (.slice none 0 0)).set 2 (.slice none 0 0)).set 3 (.bool ph), own_set (own_set (own_set (own_set (own1_len (by simpa using O6.out) LR.out) HN6.out) HN6.out) HN6.out) HN6.out, KS.out _ _ _ _ _ _ K6.out (Nat.le_refl _)⟩)
  case rest =>
    obtain ⟨pg, V, rfl, hpg, hbk, hown, hbl⟩ := hcut
    generalize wc = w1 at *
    obtain ⟨tg, htg⟩ : ∃ tg, tg = (if stem = ⟨#[]⟩ then r.1 else [name]) := ⟨_, rfl⟩
    rw [← htg] at HG
    have PG := Lib.hid hbk
    have OV := Lib.hid hown
    have BL := Lib.hid hbl
    have HTG := Lib.hid htg
    clear hbk hown hbl htg KG K0 HS4 HIN HX s1 s2 s3
    have hstep : ∀ Q : World → Value → Prop, True := fun _ => trivial
    clear hstep
    by_cases hst : stem = ⟨#[]⟩
    · have t0b : (stem.toList == []) = true := by rw [Lib.toList_data, hst]; rfl
      have t1 : (stem.toList != []) = false := by rw [bne, t0b]; rfl
      obtain ⟨A5, k5, rfl⟩ := own_shape OV.out
      have PW := Lib.hid (show Blk w1 pg tGr #[.slice A5 r.1.length k5, .slice none 0 0, .slice none 0 0, .bool ph] from PG.out)
      have hT : tg = r.1 := by rw [HTG.out, if_pos hst]
      have OWT := Lib.hid (show Own1 w1 W0.heap.size (.slice A5 r.1.length k5) tg by rw [hT]; exact OV.out)
      have BW := Lib.hid BL.out
      have hlT : 1 ≤ r.1.length := by rw [LR.out]; exact hne
      have HTL := Lib.hid (show tg.length = r.1.length by rw [hT])
      clear hT PG OV BL hst
      generalize r.1.length = nT at *
      generalize A5 = AT at *
      generalize k5 = kT at *
      generalize w1 = W at *
      go_wp2

      go_loopw [10] (fun i wr => GnRel W W.heap.size pg (.slice AT nT kT) ph r.2.1 stem n2 i wr) (fun i _ => n2 - (intOf i).toNat)
      case atStart => exact ⟨0, .slice none 0 0, Nat.zero_le _, rfl, World.ownsRow_nil _ _ _ _, PW.out, Upd.refl _ _⟩
      case round =>
        obtain ⟨k, V, hk, rfl, hown, hpr, hu⟩ := hrel
        have HO := Lib.hid hown
        have PG1 := Lib.hid hpr
        have HU := Lib.hid hu
        have hbr : Below W0.heap.size W0 wr := BW.out.trans (hu.below BW.out.size (fun j hj => by rw [show j = pg from hj]; exact hpg))
        have HBR := Lib.hid hbr
        have hszr := hu.size
        have q1 : wr.cell? ⟨w.heap.size + 1, 1, none⟩ = some (.slice A2 n2 c2) := (hbr.cell (p := ⟨w.heap.size + 1, 1, none⟩) PR.out.lt).trans (PR.out.cell 1)
        clear hown hpr hu hbr
        by_cases hlt : k < n2
        · have hkz : (k : Int) < (n2 : Int) := by omega
          obtain ⟨x, hx⟩ : ∃ x, r.2.1[k]? = some x := ⟨_, List.getElem?_eq_getElem (by rw [← HN2.out]; exact hlt)⟩
          obtain ⟨b2, o2, e2, _, hcx⟩ := (Q2.out.belowS HBR.out).at_ hx
          have hxs : x.size ≤ 1000 := S2.out x (List.mem_of_getElem? hx)
          obtain ⟨y, hy⟩ : ∃ y, y = onceB x stem := ⟨_, rfl⟩
          have hc := once_any x stem wr (by omega) (by omega)
          rw [← hy] at hc
          have HC := Lib.hid hc
          have HT := Lib.hid (show mapG (onceB · stem) (r.2.1.take (k + 1)) = mapG (onceB · stem) (r.2.1.take k) ++ [y] by rw [hy]; exact mapG_take (f := (onceB · stem)) hx)
          clear hc hy
          rw [e2] at q1
          clear hx e2
          go_wp2_with fail
          refine HC.out.mono ?_
          rintro e w2 ⟨rfl, q, rfl⟩
          have hb2 := below_drews wr q
          have HB2 := Lib.hid hb2
          have PG2 := Lib.hid ((show Blk (wr.drewN q) pg tGr _ from (hb2.block _ PG1.out.lt).trans PG1.out).alloc (.cells #[.string y] 9))
          have HO2 := Lib.hid ((ownsRow_kept (w' := wr.drewN q) HO.out (fun g hg => hb2.block g (HO.out.lt g hg).2)).alloc (.cells #[.string y] 9))
          have HU2 := Lib.hid (HU.out.two (show Upd wr ((wr.drewN q).alloc (.cells #[.string y] 9)) (One pg) from (Upd.of_below hb2 (One pg)).alloc _))
          have H1 := Lib.hid (RdS_one' (wr.drewN q) y 9)
          obtain ⟨AV, cV, rfl⟩ := own_shape HO.out
          have p1 : (wr.drewN q).cell? ⟨pg, 1, none⟩ = some (.slice AV k cV) := (hb2.cell (p := ⟨pg, 1, none⟩) PG1.out.lt).trans (PG1.out.cell 1)
          have p2 : ((wr.drewN q).alloc (.cells #[.string y] 9)).cell? ⟨pg, 1, none⟩ = some (.slice AV k cV) := PG2.out.cell 1
          have hs2 := HU2.out.size
          clear hb2
          go_wp2_with (at_builtin; refine wpList_append_texts _ rfl (.tmp 45) (.tmp 47) _ rfl W.heap.size 9 i _ 16 Try.underlying27 HI.out HZ.out HS.out HBY.out rfl _ _ _ rfl HO2.out _ _ 1 1 [y] rfl H1.out ?_ ?_ ?_ ?_)
          · unfold maxLen; omega
          · omega
          · exact hs2
          intro v3 w3 hown3 hg3
          obtain ⟨A3', c3', rfl⟩ := own_shape hown3
          have hp3 := PG2.out.grown hg3 (row_block_ne HO2.out PG2.out (by decide))
          have p3 : w3.cell? ⟨pg, 1, none⟩ = some (.slice AV k cV) := hp3.cell 1
          have f3 := hp3.free 1
          have PG3 := Lib.hid (hp3.set 1 (.slice A3' (k + 1) c3'))
          have HO3 := Lib.hid (own_set (i := 1) (u := .slice A3' (k + 1) c3') hown3 (row_block_ne hown3 hp3 (by decide)))
          have HU3 := Lib.hid ((show Upd W w3 (One pg) from ⟨hg3.os.trans HU2.out.os, hg3.tape.trans HU2.out.tape, hg3.output.trans HU2.out.output, Nat.le_trans HU2.out.size hg3.size, fun j hj hn => (hg3.block j (Nat.lt_of_lt_of_le hj HU2.out.size) (fun e => by have := (HO2.out.lt j e.symm).1; omega)).trans (HU2.out.block j hj hn)⟩).setOne 1 (.slice A3' (k + 1) c3'))
          clear hown3 hg3 hp3 HO2 H1
          go_wp2
          go_roundw
          case rel =>
            refine ⟨k + 1, .slice A3' (k + 1) c3', by omega, by go_num, ?_, PG3.out, HU3.out⟩
            have := HO3.out
            rw [HT.out]
            exact this
          case measure => simp [intOf]; omega
        · obtain rfl : k = n2 := by omega
          have hown := HO.out
          rw [List.take_of_length_le (by rw [← HN2.out]; exact Nat.le_refl _)] at hown
          have hfil : (fillR r.2.1 stem).length = k := by unfold fillR; rw [List.length_map]; exact HN2.out.symm
          have hown2 : Own1 wr W.heap.size V (fillR r.2.1 stem) := own1_len hown hfil
          obtain ⟨AV, cV, hvv⟩ := own_shape hown
          subst hvv
          have HON := Lib.hid hown2
          have PG4 := Lib.hid PG1.out
          have HU4 := Lib.hid HU.out
          have HOT := Lib.hid (own_upd OWT.out HU.out (row_block_ne OWT.out PW.out (by decide)))
          have HBR4 := Lib.hid HBR.out
          obtain ⟨W5, hW5⟩ : ∃ W5, W5 = wr := ⟨_, rfl⟩
          clear hown hown2 HO hlt
          subst hW5
          go_wp2
          go_loopw [12] (fun i wr => GcRel W5 W5.heap.size pg (.slice AT nT kT) (.slice AV k cV) ph r.2.2 (fun c => ba (autoT c g.tg g.nd stem)) n3 i wr) (fun i _ => n3 - (intOf i).toNat)
          case atStart => exact ⟨0, .slice none 0 0, Nat.zero_le _, rfl, World.ownsRow_nil _ _ _ _, PG4.out, Upd.refl _ _⟩
          case round =>
            obtain ⟨k2, V2, hk2, rfl, hown, hpr, hu⟩ := hrel
            have HO := Lib.hid hown
            have PG1 := Lib.hid hpr
            have HU := Lib.hid hu
            have hbr : Below W0.heap.size W0 wr := HBR4.out.trans (hu.below HBR4.out.size (fun j hj => by rw [show j = pg from hj]; exact hpg))
            have HBR5 := Lib.hid hbr
            have hszr := hu.size
            have q1 : wr.cell? ⟨w.heap.size + 1, 2, none⟩ = some (.slice A3 n3 c3) := (hbr.cell (p := ⟨w.heap.size + 1, 2, none⟩) PR.out.lt).trans (PR.out.cell 2)
            clear hown hpr hu hbr
            by_cases hlt2 : k2 < n3
            · have hkz : (k2 : Int) < (n3 : Int) := by omega
              obtain ⟨x, hx⟩ : ∃ x, r.2.2[k2]? = some x := ⟨_, List.getElem?_eq_getElem (by rw [← HN3.out]; exact hlt2)⟩
              obtain ⟨b2, o2, e2, _, hcx⟩ := (Q3.out.belowS HBR5.out).at_ hx
              have hxm := List.mem_of_getElem? hx
              have hxs : x.size ≤ 1000 := S3.out x hxm
              have HT := Lib.hid (mapG_take (f := fun c => ba (autoT c g.tg g.nd stem)) hx)
              have hgt : g.tg = tg := by rw [HG.out]; rfl
              have hgn : g.nd = fillR r.2.1 stem := by rw [HG.out]; rfl
              have hal := HA.out x hxm
              have hT1 := own_upd HOT.out HU.out (row_block_ne HOT.out PG4.out (by decide))
              have hN1 := own_upd HON.out HU.out (row_block_ne HON.out PG4.out (by decide))
              obtain ⟨AT', kT', eT, rT⟩ := RdS.of_own hT1
              obtain ⟨AV', cV', eV, rV⟩ := RdS.of_own hN1
              rw [HTL.out] at eT rT
              rw [hfil] at eV rV
              injection eT with eT1 eT2 eT3
              injection eV with eV1 eV2 eV3
              subst eT1 eT3 eV1 eV3
              obtain ⟨y, hy⟩ : ∃ y, y = ba (autoT x g.tg g.nd stem) := ⟨_, rfl⟩
              have hc : ∀ q, Calls Try.prog 71 #[.string x, .slice AT nT kT, .slice AV k cV, .string stem] (wr.drewN q) (fun e w' => e = .returned (.string y) ∧ ∃ m, w' = (wr.drewN q).drewN m) := fun q => by
                rw [hy]
                have h1 := refAuto_any x stem AT AV nT kT k cV g.tg g.nd (wr.drewN q) (by rw [hgt]; exact rT.belowS (below_drews wr q)) (by rw [hgn]; exact rV.belowS (below_drews wr q)) hlT (by omega) (by omega) HJ.out hal
                exact h1.mono (fun e w' ⟨h1, h2⟩ => ⟨h1, 0, h2.symm⟩)
              have HC := Lib.hid hc
              have HT2 := Lib.hid (show mapG (fun c => ba (autoT c g.tg g.nd stem)) (r.2.2.take (k2 + 1)) = mapG (fun c => ba (autoT c g.tg g.nd stem)) (r.2.2.take k2) ++ [y] by rw [hy]; exact HT.out)
              have g0 : wr.cell? ⟨pg, 0, none⟩ = some (.slice AT nT kT) := PG1.out.cell 0
              have g1 : wr.cell? ⟨pg, 1, none⟩ = some (.slice AV k cV) := PG1.out.cell 1
              rw [e2] at q1
              clear hx hxm hal hT1 hN1 rT rV eT2 eV2 hc hy e2 hgt hgn HT
              go_wp2_with fail
              go_quiet (first | (go_at_call 71; exact Calls.quiet_of (HC.out _)))
              have hb2 := below_drews wr nq
              have PG2 := Lib.hid ((show Blk (wr.drewN nq) pg tGr _ from (hb2.block _ PG1.out.lt).trans PG1.out).alloc (.cells #[.string y] 9))
              have HO2 := Lib.hid ((ownsRow_kept (w' := wr.drewN nq) HO.out (fun g hg => hb2.block g (HO.out.lt g hg).2)).alloc (.cells #[.string y] 9))
              have HU2 := Lib.hid (HU.out.two (show Upd wr ((wr.drewN nq).alloc (.cells #[.string y] 9)) (One pg) from (Upd.of_below hb2 (One pg)).alloc _))
              have H1 := Lib.hid (RdS_one' (wr.drewN nq) y 9)
              obtain ⟨AW, cW, rfl⟩ := own_shape HO.out
              have p1 : (wr.drewN nq).cell? ⟨pg, 2, none⟩ = some (.slice AW k2 cW) := (hb2.cell (p := ⟨pg, 2, none⟩) PG1.out.lt).trans (PG1.out.cell 2)
              have p2 : ((wr.drewN nq).alloc (.cells #[.string y] 9)).cell? ⟨pg, 2, none⟩ = some (.slice AW k2 cW) := PG2.out.cell 2
              have hs2 := HU2.out.size
              clear hb2 HC
              go_wp2_with (at_builtin; refine wpList_append_texts _ rfl (.tmp 69) (.tmp 71) _ rfl W5.heap.size 9 i _ 16 Try.underlying27 HI.out HZ.out HS.out HBY.out rfl _ _ _ rfl HO2.out _ _ 1 1 [y] rfl H1.out ?_ ?_ ?_ ?_)
              · unfold maxLen; omega
              · omega
              · exact hs2
              intro v3 w3 hown3 hg3
              obtain ⟨A3', c3', rfl⟩ := own_shape hown3
              have hp3 := PG2.out.grown hg3 (row_block_ne HO2.out PG2.out (by decide))
              have p3 : w3.cell? ⟨pg, 2, none⟩ = some (.slice AW k2 cW) := hp3.cell 2
              have f3 := hp3.free 2
              have PG3 := Lib.hid (hp3.set 2 (.slice A3' (k2 + 1) c3'))
              have HO3 := Lib.hid (own_set (i := 2) (u := .slice A3' (k2 + 1) c3') hown3 (row_block_ne hown3 hp3 (by decide)))
              have HU3 := Lib.hid ((show Upd W5 w3 (One pg) from ⟨hg3.os.trans HU2.out.os, hg3.tape.trans HU2.out.tape, hg3.output.trans HU2.out.output, Nat.le_trans HU2.out.size hg3.size, fun j hj hn => (hg3.block j (Nat.lt_of_lt_of_le hj HU2.out.size) (fun e => by have := (HO2.out.lt j e.symm).1; omega)).trans (HU2.out.block j hj hn)⟩).setOne 2 (.slice A3' (k2 + 1) c3'))
              clear hown3 hg3 hp3 HO2 H1
              go_wp2
              go_roundw
              case rel =>
                refine ⟨k2 + 1, .slice A3' (k2 + 1) c3', by omega, by go_num, ?_, PG3.out, HU3.out⟩
                have := HO3.out
                rw [HT2.out]
                exact this
              case measure => simp [intOf]; omega
            · obtain rfl : k2 = n3 := by omega
              have hown := HO.out
              rw [List.take_of_length_le (by rw [← HN3.out]; exact Nat.le_refl _)] at hown
              obtain ⟨cmx, hcm⟩ : ∃ c, c = mapG (fun c => ba (autoT c g.tg g.nd stem)) r.2.2 := ⟨_, rfl⟩
              rw [← hcm] at hown
              have hcl : cmx.length = k2 := by rw [hcm]; unfold mapG; rw [List.length_map]; exact HN3.out.symm
              have hgt : g.tg = tg := by rw [HG.out]; rfl
              have hgn : g.nd = fillR r.2.1 stem := by rw [HG.out]; rfl
              have hgc : g.cm = cmx := by
                rw [hcm, hgt, hgn, HG.out]; rfl
              have hgp : g.ph = ph := by rw [HG.out]; rfl
              have hC1 : Own1 wr W5.heap.size V2 cmx := own1_len hown hcl
              obtain ⟨AW, cW, hvv⟩ := own_shape hown
              subst hvv
              have hT1 := own_upd HOT.out HU.out (row_block_ne HOT.out PG4.out (by decide))
              have hN1 := own_upd HON.out HU.out (row_block_ne HON.out PG4.out (by decide))
              have hp0 : Blk wr (w.heap.size + 2) tGr zero4 := (HBR5.out.block _ PZ.out.lt).trans PZ.out
              have hz2 : w.heap.size + 2 < W0.heap.size := PZ.out.lt
              have hs54 : W0.heap.size ≤ W5.heap.size := HBR4.out.size
              have hsW : W0.heap.size ≤ W.heap.size := BW.out.size
              have HF := Lib.hid (fun (v a b c d : Value) (t : List ByteArray) (B : Nat) (hB : W0.heap.size ≤ B) (ho : Own1 wr B v t) => show Own1 ((((wr.setCell ⟨w.heap.size + 1 + 1, 0, none⟩ a).setCell ⟨w.heap.size + 1 + 1, 1, none⟩ b).setCell ⟨w.heap.size + 1 + 1, 2, none⟩ c).setCell ⟨w.heap.size + 1 + 1, 3, none⟩ d) w.heap.size v t from by
                have h1 : v.ownBlock ≠ some (w.heap.size + 1 + 1) := own_old (_w' := wr) ho (by omega)
                have h2 : Own1 ((((wr.setCell ⟨w.heap.size + 1 + 1, 0, none⟩ a).setCell ⟨w.heap.size + 1 + 1, 1, none⟩ b).setCell ⟨w.heap.size + 1 + 1, 2, none⟩ c).setCell ⟨w.heap.size + 1 + 1, 3, none⟩ d) B v t := own_set (own_set (own_set (own_set ho h1) h1) h1) h1
                exact World.ownsRow.mono h2 (by omega))
              have HFB := Lib.hid (fun (a b c d : Value) => show Below w.heap.size w ((((wr.setCell ⟨w.heap.size + 1 + 1, 0, none⟩ a).setCell ⟨w.heap.size + 1 + 1, 1, none⟩ b).setCell ⟨w.heap.size + 1 + 1, 2, none⟩ c).setCell ⟨w.heap.size + 1 + 1, 3, none⟩ d) from
                (((((HBW.out.trans (HBR5.out.mono HBW.out.size)).setCell (p := ⟨w.heap.size + 1 + 1, 0, none⟩) (by show w.heap.size ≤ w.heap.size + 1 + 1; omega) a).setCell (p := ⟨w.heap.size + 1 + 1, 1, none⟩) (by show w.heap.size ≤ w.heap.size + 1 + 1; omega) b).setCell (p := ⟨w.heap.size + 1 + 1, 2, none⟩) (by show w.heap.size ≤ w.heap.size + 1 + 1; omega) c).setCell (p := ⟨w.heap.size + 1 + 1, 3, none⟩) (by show w.heap.size ≤ w.heap.size + 1 + 1; omega) d))
              have a0 : wr.cell? ⟨pg, 0, none⟩ = some (.slice AT nT kT) := PG1.out.cell 0
              have a1 : wr.cell? ⟨pg, 1, none⟩ = some (.slice AV k cV) := PG1.out.cell 1
              have a2 : wr.cell? ⟨pg, 2, none⟩ = some (.slice AW k2 cW) := PG1.out.cell 2
              have a3 : wr.cell? ⟨pg, 3, none⟩ = some (.bool ph) := PG1.out.cell 3
              have y0 : wr.cell? ⟨w.heap.size + 1 + 1, 0, none⟩ = some (.slice none 0 0) := hp0.cell 0
              have y1 : wr.cell? ⟨w.heap.size + 1 + 1, 1, none⟩ = some (.slice none 0 0) := hp0.cell 1
              have y2 : wr.cell? ⟨w.heap.size + 1 + 1, 2, none⟩ = some (.slice none 0 0) := hp0.cell 2
              have y3 : wr.cell? ⟨w.heap.size + 1 + 1, 3, none⟩ = some (.bool false) := hp0.cell 3
              have z0 : wr.frozen? ⟨w.heap.size + 1 + 1, 0, none⟩ = false := hp0.free 0
              have z1 : wr.frozen? ⟨w.heap.size + 1 + 1, 1, none⟩ = false := hp0.free 1
              have z2 : wr.frozen? ⟨w.heap.size + 1 + 1, 2, none⟩ = false := hp0.free 2
              have z3 : wr.frozen? ⟨w.heap.size + 1 + 1, 3, none⟩ = false := hp0.free 3
              have T1 := Lib.hid hT1
              have N1 := Lib.hid hN1
              have C1 := Lib.hid hC1
              have EG := Lib.hid (And.intro hgt (And.intro hgn (And.intro hgc hgp)))
              clear hown hC1 hT1 hN1 hp0 hcm hcl hgt hgn hgc hgp HO
              go_wp2
              refine bodyPost_ret (v := .agg #[.slice AT nT kT, .slice AV k cV, .slice AW k2 cW, .bool ph]) ?_ rfl ?_
              · rw [results_cell1 rfl]
                go_simp
              · obtain ⟨e1, e2, e3, e4⟩ := EG.out
                exact ⟨_, rfl, ⟨_, _, _, by rw [e4], by rw [e1]; exact HF.out _ _ _ _ _ _ _ (Nat.le_refl _) T1.out, by rw [e2]; exact HF.out _ _ _ _ _ _ _ hsW N1.out, by rw [e3]; exact HF.out _ _ _ _ _ _ _ hs54 C1.out⟩, HFB.out _ _ _ _⟩
    · have t0b : (stem.toList == []) = false := by
        rw [Lib.toList_data, beq_eq_false_iff_ne]
        intro e
        exact hst (by rw [← ba_of stem, e]; rfl)
      have t1 : (stem.toList != []) = true := by rw [bne, t0b]; rfl
      obtain ⟨A5, k5, rfl⟩ := own_shape OV.out
      have v0 : w1.cell? ⟨pg, 0, none⟩ = some (.slice A5 r.1.length k5) := PG.out.cell 0
      have u0 := PG.out.free 0
      obtain ⟨AT, hAT⟩ : ∃ AT, AT = some (⟨w1.heap.size, 0, none⟩ : Addr) := ⟨_, rfl⟩
      obtain ⟨W, hW⟩ : ∃ W, W = (w1.alloc (.cells #[.string name] tStr)).setCell ⟨pg, 0, none⟩ (.slice (some ⟨w1.heap.size, 0, none⟩) 1 1) := ⟨_, rfl⟩
      have hal : Below w1.heap.size w1 (w1.alloc (.cells #[.string name] tStr)) := (Below.refl _ _).alloc (Nat.le_refl _) _
      have PW := Lib.hid (show Blk W pg tGr #[.slice AT 1 1, .slice none 0 0, .slice none 0 0, .bool ph] from by rw [hW, hAT]; exact (PG.out.alloc _).set 0 _)
      have hT : tg = [name] := by rw [HTG.out, if_neg hst]
      have OWT := Lib.hid (show Own1 W W0.heap.size (.slice AT 1 1) tg by
        rw [hT, hW, hAT]
        have hb1 : Blk (w1.alloc (.cells #[.string name] tStr)) w1.heap.size tStr #[.string name] := Blk.new w1 tStr _
        have this : (w1.alloc (.cells #[.string name] tStr)).ownsRow W0.heap.size tStr 1 (.slice (some ⟨w1.heap.size, 0, none⟩) 1 1) 1 (tcells [name]) :=
          ⟨rfl, .inr ⟨w1.heap.size, 1, #[.string name], rfl, BL.out.size, hb1, Nat.le_refl _, by unfold maxLen; omega, rfl, rfl⟩⟩
        have hpl := PG.out.lt
        exact own_set this (by intro e; have e' : w1.heap.size = pg := Option.some.inj e; rw [e'] at hpl; exact Nat.lt_irrefl _ hpl))
      have BW := Lib.hid (show Below W0.heap.size W0 W by rw [hW]; exact (BL.out.trans (hal.mono BL.out.size)).setCell (p := ⟨pg, 0, none⟩) hpg _)
      have hlT : 1 ≤ 1 := Nat.le_refl _
      have HTL := Lib.hid (show tg.length = 1 by rw [hT]; rfl)
      have HW9 := Lib.hid hW
      have v0' : (w1.alloc (.cells #[.string name] tStr)).cell? ⟨pg, 0, none⟩ = some (.slice A5 r.1.length k5) := (PG.out.alloc _).cell 0
      have u0' : (w1.alloc (.cells #[.string name] tStr)).frozen? ⟨pg, 0, none⟩ = false := (PG.out.alloc _).free 0
      clear hT hal hW hst hAT PG OV BL
      go_wp2
      rw [← HW9.out]
      clear HW9
      go_loopw [10] (fun i wr => GnRel W W.heap.size pg (.slice AT 1 1) ph r.2.1 stem n2 i wr) (fun i _ => n2 - (intOf i).toNat)
      case atStart => exact ⟨0, .slice none 0 0, Nat.zero_le _, rfl, World.ownsRow_nil _ _ _ _, PW.out, Upd.refl _ _⟩
      case round =>
        obtain ⟨k, V, hk, rfl, hown, hpr, hu⟩ := hrel
        have HO := Lib.hid hown
        have PG1 := Lib.hid hpr
        have HU := Lib.hid hu
        have hbr : Below W0.heap.size W0 wr := BW.out.trans (hu.below BW.out.size (fun j hj => by rw [show j = pg from hj]; exact hpg))
        have HBR := Lib.hid hbr
        have hszr := hu.size
        have q1 : wr.cell? ⟨w.heap.size + 1, 1, none⟩ = some (.slice A2 n2 c2) := (hbr.cell (p := ⟨w.heap.size + 1, 1, none⟩) PR.out.lt).trans (PR.out.cell 1)
        clear hown hpr hu hbr
        by_cases hlt : k < n2
        · have hkz : (k : Int) < (n2 : Int) := by omega
          obtain ⟨x, hx⟩ : ∃ x, r.2.1[k]? = some x := ⟨_, List.getElem?_eq_getElem (by rw [← HN2.out]; exact hlt)⟩
          obtain ⟨b2, o2, e2, _, hcx⟩ := (Q2.out.belowS HBR.out).at_ hx
          have hxs : x.size ≤ 1000 := S2.out x (List.mem_of_getElem? hx)
          obtain ⟨y, hy⟩ : ∃ y, y = onceB x stem := ⟨_, rfl⟩
          have hc := once_any x stem wr (by omega) (by omega)
          rw [← hy] at hc
          have HC := Lib.hid hc
          have HT := Lib.hid (show mapG (onceB · stem) (r.2.1.take (k + 1)) = mapG (onceB · stem) (r.2.1.take k) ++ [y] by rw [hy]; exact mapG_take (f := (onceB · stem)) hx)
          clear hc hy
          rw [e2] at q1
          clear hx e2
          go_wp2_with fail
          refine HC.out.mono ?_
          rintro e w2 ⟨rfl, q, rfl⟩
          have hb2 := below_drews wr q
          have HB2 := Lib.hid hb2
          have PG2 := Lib.hid ((show Blk (wr.drewN q) pg tGr _ from (hb2.block _ PG1.out.lt).trans PG1.out).alloc (.cells #[.string y] 9))
          have HO2 := Lib.hid ((ownsRow_kept (w' := wr.drewN q) HO.out (fun g hg => hb2.block g (HO.out.lt g hg).2)).alloc (.cells #[.string y] 9))
          have HU2 := Lib.hid (HU.out.two (show Upd wr ((wr.drewN q).alloc (.cells #[.string y] 9)) (One pg) from (Upd.of_below hb2 (One pg)).alloc _))
          have H1 := Lib.hid (RdS_one' (wr.drewN q) y 9)
          obtain ⟨AV, cV, rfl⟩ := own_shape HO.out
          have p1 : (wr.drewN q).cell? ⟨pg, 1, none⟩ = some (.slice AV k cV) := (hb2.cell (p := ⟨pg, 1, none⟩) PG1.out.lt).trans (PG1.out.cell 1)
          have p2 : ((wr.drewN q).alloc (.cells #[.string y] 9)).cell? ⟨pg, 1, none⟩ = some (.slice AV k cV) := PG2.out.cell 1
          have hs2 := HU2.out.size
          clear hb2
          go_wp2_with (at_builtin; refine wpList_append_texts _ rfl (.tmp 45) (.tmp 47) _ rfl W.heap.size 9 i _ 16 Try.underlying27 HI.out HZ.out HS.out HBY.out rfl _ _ _ rfl HO2.out _ _ 1 1 [y] rfl H1.out ?_ ?_ ?_ ?_)
          · unfold maxLen; omega
          · omega
          · exact hs2
          intro v3 w3 hown3 hg3
          obtain ⟨A3', c3', rfl⟩ := own_shape hown3
          have hp3 := PG2.out.grown hg3 (row_block_ne HO2.out PG2.out (by decide))
          have p3 : w3.cell? ⟨pg, 1, none⟩ = some (.slice AV k cV) := hp3.cell 1
          have f3 := hp3.free 1
          have PG3 := Lib.hid (hp3.set 1 (.slice A3' (k + 1) c3'))
          have HO3 := Lib.hid (own_set (i := 1) (u := .slice A3' (k + 1) c3') hown3 (row_block_ne hown3 hp3 (by decide)))
          have HU3 := Lib.hid ((show Upd W w3 (One pg) from ⟨hg3.os.trans HU2.out.os, hg3.tape.trans HU2.out.tape, hg3.output.trans HU2.out.output, Nat.le_trans HU2.out.size hg3.size, fun j hj hn => (hg3.block j (Nat.lt_of_lt_of_le hj HU2.out.size) (fun e => by have := (HO2.out.lt j e.symm).1; omega)).trans (HU2.out.block j hj hn)⟩).setOne 1 (.slice A3' (k + 1) c3'))
          clear hown3 hg3 hp3 HO2 H1
          go_wp2
          go_roundw
          case rel =>
            refine ⟨k + 1, .slice A3' (k + 1) c3', by omega, by go_num, ?_, PG3.out, HU3.out⟩
            have := HO3.out
            rw [HT.out]
            exact this
          case measure => simp [intOf]; omega
        · obtain rfl : k = n2 := by omega
          have hown := HO.out
          rw [List.take_of_length_le (by rw [← HN2.out]; exact Nat.le_refl _)] at hown
          have hfil : (fillR r.2.1 stem).length = k := by unfold fillR; rw [List.length_map]; exact HN2.out.symm
          have hown2 : Own1 wr W.heap.size V (fillR r.2.1 stem) := own1_len hown hfil
          obtain ⟨AV, cV, hvv⟩ := own_shape hown
          subst hvv
          have HON := Lib.hid hown2
          have PG4 := Lib.hid PG1.out
          have HU4 := Lib.hid HU.out
          have HOT := Lib.hid (own_upd OWT.out HU.out (row_block_ne OWT.out PW.out (by decide)))
          have HBR4 := Lib.hid HBR.out
          obtain ⟨W5, hW5⟩ : ∃ W5, W5 = wr := ⟨_, rfl⟩
          clear hown hown2 HO hlt
          subst hW5
          go_wp2
          go_loopw [12] (fun i wr => GcRel W5 W5.heap.size pg (.slice AT 1 1) (.slice AV k cV) ph r.2.2 (fun c => ba (autoT c g.tg g.nd stem)) n3 i wr) (fun i _ => n3 - (intOf i).toNat)
          case atStart => exact ⟨0, .slice none 0 0, Nat.zero_le _, rfl, World.ownsRow_nil _ _ _ _, PG4.out, Upd.refl _ _⟩
          case round =>
            obtain ⟨k2, V2, hk2, rfl, hown, hpr, hu⟩ := hrel
            have HO := Lib.hid hown
            have PG1 := Lib.hid hpr
            have HU := Lib.hid hu
            have hbr : Below W0.heap.size W0 wr := HBR4.out.trans (hu.below HBR4.out.size (fun j hj => by rw [show j = pg from hj]; exact hpg))
            have HBR5 := Lib.hid hbr
            have hszr := hu.size
            have q1 : wr.cell? ⟨w.heap.size + 1, 2, none⟩ = some (.slice A3 n3 c3) := (hbr.cell (p := ⟨w.heap.size + 1, 2, none⟩) PR.out.lt).trans (PR.out.cell 2)
            clear hown hpr hu hbr
            by_cases hlt2 : k2 < n3
            · have hkz : (k2 : Int) < (n3 : Int) := by omega
              obtain ⟨x, hx⟩ : ∃ x, r.2.2[k2]? = some x := ⟨_, List.getElem?_eq_getElem (by rw [← HN3.out]; exact hlt2)⟩
              obtain ⟨b2, o2, e2, _, hcx⟩ := (Q3.out.belowS HBR5.out).at_ hx
              have hxm := List.mem_of_getElem? hx
              have hxs : x.size ≤ 1000 := S3.out x hxm
              have HT := Lib.hid (mapG_take (f := fun c => ba (autoT c g.tg g.nd stem)) hx)
              have hgt : g.tg = tg := by rw [HG.out]; rfl
              have hgn : g.nd = fillR r.2.1 stem := by rw [HG.out]; rfl
              have hal := HA.out x hxm
              have hT1 := own_upd HOT.out HU.out (row_block_ne HOT.out PG4.out (by decide))
              have hN1 := own_upd HON.out HU.out (row_block_ne HON.out PG4.out (by decide))
              obtain ⟨AT', kT', eT, rT⟩ := RdS.of_own hT1
              obtain ⟨AV', cV', eV, rV⟩ := RdS.of_own hN1
              rw [HTL.out] at eT rT
              rw [hfil] at eV rV
              injection eT with eT1 eT2 eT3
              injection eV with eV1 eV2 eV3
              subst eT1 eT3 eV1 eV3
              obtain ⟨y, hy⟩ : ∃ y, y = ba (autoT x g.tg g.nd stem) := ⟨_, rfl⟩
              have hc : ∀ q, Calls Try.prog 71 #[.string x, .slice AT 1 1, .slice AV k cV, .string stem] (wr.drewN q) (fun e w' => e = .returned (.string y) ∧ ∃ m, w' = (wr.drewN q).drewN m) := fun q => by
                rw [hy]
                have h1 := refAuto_any x stem AT AV 1 1 k cV g.tg g.nd (wr.drewN q) (by rw [hgt]; exact rT.belowS (below_drews wr q)) (by rw [hgn]; exact rV.belowS (below_drews wr q)) hlT (by omega) (by omega) HJ.out hal
                exact h1.mono (fun e w' ⟨h1, h2⟩ => ⟨h1, 0, h2.symm⟩)
              have HC := Lib.hid hc
              have HT2 := Lib.hid (show mapG (fun c => ba (autoT c g.tg g.nd stem)) (r.2.2.take (k2 + 1)) = mapG (fun c => ba (autoT c g.tg g.nd stem)) (r.2.2.take k2) ++ [y] by rw [hy]; exact HT.out)
              have g0 : wr.cell? ⟨pg, 0, none⟩ = some (.slice AT 1 1) := PG1.out.cell 0
              have g1 : wr.cell? ⟨pg, 1, none⟩ = some (.slice AV k cV) := PG1.out.cell 1
              rw [e2] at q1
              clear hx hxm hal hT1 hN1 rT rV eT2 eV2 hc hy e2 hgt hgn HT
              go_wp2_with fail
              go_quiet (first | (go_at_call 71; exact Calls.quiet_of (HC.out _)))
              have hb2 := below_drews wr nq
              have PG2 := Lib.hid ((show Blk (wr.drewN nq) pg tGr _ from (hb2.block _ PG1.out.lt).trans PG1.out).alloc (.cells #[.string y] 9))
              have HO2 := Lib.hid ((ownsRow_kept (w' := wr.drewN nq) HO.out (fun g hg => hb2.block g (HO.out.lt g hg).2)).alloc (.cells #[.string y] 9))
              have HU2 := Lib.hid (HU.out.two (show Upd wr ((wr.drewN nq).alloc (.cells #[.string y] 9)) (One pg) from (Upd.of_below hb2 (One pg)).alloc _))
              have H1 := Lib.hid (RdS_one' (wr.drewN nq) y 9)
              obtain ⟨AW, cW, rfl⟩ := own_shape HO.out
              have p1 : (wr.drewN nq).cell? ⟨pg, 2, none⟩ = some (.slice AW k2 cW) := (hb2.cell (p := ⟨pg, 2, none⟩) PG1.out.lt).trans (PG1.out.cell 2)
              have p2 : ((wr.drewN nq).alloc (.cells #[.string y] 9)).cell? ⟨pg, 2, none⟩ = some (.slice AW k2 cW) := PG2.out.cell 2
              have hs2 := HU2.out.size
              clear hb2 HC
              go_wp2_with (at_builtin; refine wpList_append_texts _ rfl (.tmp 69) (.tmp 71) _ rfl W5.heap.size 9 i _ 16 Try.underlying27 HI.out HZ.out HS.out HBY.out rfl _ _ _ rfl HO2.out _ _ 1 1 [y] rfl H1.out ?_ ?_ ?_ ?_)
              · unfold maxLen; omega
              · omega
              · exact hs2
              intro v3 w3 hown3 hg3
              obtain ⟨A3', c3', rfl⟩ := own_shape hown3
              have hp3 := PG2.out.grown hg3 (row_block_ne HO2.out PG2.out (by decide))
              have p3 : w3.cell? ⟨pg, 2, none⟩ = some (.slice AW k2 cW) := hp3.cell 2
              have f3 := hp3.free 2
              have PG3 := Lib.hid (hp3.set 2 (.slice A3' (k2 + 1) c3'))
              have HO3 := Lib.hid (own_set (i := 2) (u := .slice A3' (k2 + 1) c3') hown3 (row_block_ne hown3 hp3 (by decide)))
              have HU3 := Lib.hid ((show Upd W5 w3 (One pg) from ⟨hg3.os.trans HU2.out.os, hg3.tape.trans HU2.out.tape, hg3.output.trans HU2.out.output, Nat.le_trans HU2.out.size hg3.size, fun j hj hn => (hg3.block j (Nat.lt_of_lt_of_le hj HU2.out.size) (fun e => by have := (HO2.out.lt j e.symm).1; omega)).trans (HU2.out.block j hj hn)⟩).setOne 2 (.slice A3' (k2 + 1) c3'))
              clear hown3 hg3 hp3 HO2 H1
              go_wp2
              go_roundw
              case rel =>
                refine ⟨k2 + 1, .slice A3' (k2 + 1) c3', by omega, by go_num, ?_, PG3.out, HU3.out⟩
                have := HO3.out
                rw [HT2.out]
                exact this
              case measure => simp [intOf]; omega
            · obtain rfl : k2 = n3 := by omega
              have hown := HO.out
              rw [List.take_of_length_le (by rw [← HN3.out]; exact Nat.le_refl _)] at hown
              obtain ⟨cmx, hcm⟩ : ∃ c, c = mapG (fun c => ba (autoT c g.tg g.nd stem)) r.2.2 := ⟨_, rfl⟩
              rw [← hcm] at hown
              have hcl : cmx.length = k2 := by rw [hcm]; unfold mapG; rw [List.length_map]; exact HN3.out.symm
              have hgt : g.tg = tg := by rw [HG.out]; rfl
              have hgn : g.nd = fillR r.2.1 stem := by rw [HG.out]; rfl
              have hgc : g.cm = cmx := by
                rw [hcm, hgt, hgn, HG.out]; rfl
              have hgp : g.ph = ph := by rw [HG.out]; rfl
              have hC1 : Own1 wr W5.heap.size V2 cmx := own1_len hown hcl
              obtain ⟨AW, cW, hvv⟩ := own_shape hown
              subst hvv
              have hT1 := own_upd HOT.out HU.out (row_block_ne HOT.out PG4.out (by decide))
              have hN1 := own_upd HON.out HU.out (row_block_ne HON.out PG4.out (by decide))
              have hp0 : Blk wr (w.heap.size + 2) tGr zero4 := (HBR5.out.block _ PZ.out.lt).trans PZ.out
              have hz2 : w.heap.size + 2 < W0.heap.size := PZ.out.lt
              have hs54 : W0.heap.size ≤ W5.heap.size := HBR4.out.size
              have hsW : W0.heap.size ≤ W.heap.size := BW.out.size
              have HF := Lib.hid (fun (v a b c d : Value) (t : List ByteArray) (B : Nat) (hB : W0.heap.size ≤ B) (ho : Own1 wr B v t) => show Own1 ((((wr.setCell ⟨w.heap.size + 1 + 1, 0, none⟩ a).setCell ⟨w.heap.size + 1 + 1, 1, none⟩ b).setCell ⟨w.heap.size + 1 + 1, 2, none⟩ c).setCell ⟨w.heap.size + 1 + 1, 3, none⟩ d) w.heap.size v t from by
                have h1 : v.ownBlock ≠ some (w.heap.size + 1 + 1) := own_old (_w' := wr) ho (by omega)
                have h2 : Own1 ((((wr.setCell ⟨w.heap.size + 1 + 1, 0, none⟩ a).setCell ⟨w.heap.size + 1 + 1, 1, none⟩ b).setCell ⟨w.heap.size + 1 + 1, 2, none⟩ c).setCell ⟨w.heap.size + 1 + 1, 3, none⟩ d) B v t := own_set (own_set (own_set (own_set ho h1) h1) h1) h1
                exact World.ownsRow.mono h2 (by omega))
              have HFB := Lib.hid (fun (a b c d : Value) => show Below w.heap.size w ((((wr.setCell ⟨w.heap.size + 1 + 1, 0, none⟩ a).setCell ⟨w.heap.size + 1 + 1, 1, none⟩ b).setCell ⟨w.heap.size + 1 + 1, 2, none⟩ c).setCell ⟨w.heap.size + 1 + 1, 3, none⟩ d) from
                (((((HBW.out.trans (HBR5.out.mono HBW.out.size)).setCell (p := ⟨w.heap.size + 1 + 1, 0, none⟩) (by show w.heap.size ≤ w.heap.size + 1 + 1; omega) a).setCell (p := ⟨w.heap.size + 1 + 1, 1, none⟩) (by show w.heap.size ≤ w.heap.size + 1 + 1; omega) b).setCell (p := ⟨w.heap.size + 1 + 1, 2, none⟩) (by show w.heap.size ≤ w.heap.size + 1 + 1; omega) c).setCell (p := ⟨w.heap.size + 1 + 1, 3, none⟩) (by show w.heap.size ≤ w.heap.size + 1 + 1; omega) d))
              have a0 : wr.cell? ⟨pg, 0, none⟩ = some (.slice AT 1 1) := PG1.out.cell 0
              have a1 : wr.cell? ⟨pg, 1, none⟩ = some (.slice AV k cV) := PG1.out.cell 1
              have a2 : wr.cell? ⟨pg, 2, none⟩ = some (.slice AW k2 cW) := PG1.out.cell 2
              have a3 : wr.cell? ⟨pg, 3, none⟩ = some (.bool ph) := PG1.out.cell 3
              have y0 : wr.cell? ⟨w.heap.size + 1 + 1, 0, none⟩ = some (.slice none 0 0) := hp0.cell 0
              have y1 : wr.cell? ⟨w.heap.size + 1 + 1, 1, none⟩ = some (.slice none 0 0) := hp0.cell 1
              have y2 : wr.cell? ⟨w.heap.size + 1 + 1, 2, none⟩ = some (.slice none 0 0) := hp0.cell 2
              have y3 : wr.cell? ⟨w.heap.size + 1 + 1, 3, none⟩ = some (.bool false) := hp0.cell 3
              have z0 : wr.frozen? ⟨w.heap.size + 1 + 1, 0, none⟩ = false := hp0.free 0
              have z1 : wr.frozen? ⟨w.heap.size + 1 + 1, 1, none⟩ = false := hp0.free 1
              have z2 : wr.frozen? ⟨w.heap.size + 1 + 1, 2, none⟩ = false := hp0.free 2
              have z3 : wr.frozen? ⟨w.heap.size + 1 + 1, 3, none⟩ = false := hp0.free 3
              have T1 := Lib.hid hT1
              have N1 := Lib.hid hN1
              have C1 := Lib.hid hC1
              have EG := Lib.hid (And.intro hgt (And.intro hgn (And.intro hgc hgp)))
              clear hown hC1 hT1 hN1 hp0 hcm hcl hgt hgn hgc hgp HO
              go_wp2
              refine bodyPost_ret (v := .agg #[.slice AT 1 1, .slice AV k cV, .slice AW k2 cW, .bool ph]) ?_ rfl ?_
              · rw [results_cell1 rfl]
                go_simp
              · obtain ⟨e1, e2, e3, e4⟩ := EG.out
                exact ⟨_, rfl, ⟨_, _, _, by rw [e4], by rw [e1]; exact HF.out _ _ _ _ _ _ _ (Nat.le_refl _) T1.out, by rw [e2]; exact HF.out _ _ _ _ _ _ _ hsW N1.out, by rw [e3]; exact HF.out _ _ _ _ _ _ _ hs54 C1.out⟩, HFB.out _ _ _ _⟩
end Go.Proofs.Ytlkpbpecgdphaaa
