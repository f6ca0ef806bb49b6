/-
  THE WALK OF hammerpondlaw.RecordSays: for every group, files, records and text it returns true, and nothing that was there has turned.
-/
import Derived.Test.YtpghfefiifhbiaaGreatDoorRcSa
import Derived.Deep.RegionHeld3
namespace Go.Proofs.YtpghfefiifhbiaaGreatDoor
open Go.RowKit Go.Sort

set_option maxRecDepth 100000 in
set_option maxHeartbeats 32000000 in
theorem recordSays_any (d : Rsx) (s : ByteArray) (w : World) (h : RsR d w) :
    Calls Tryz.prog 3 #[.agg #[.slice d.At d.nt d.ct, .slice d.An d.nn d.cn, .slice d.Ac d.nc d.cc, .bool d.ph], .slice d.AL d.nL d.cL, .slice d.AO d.nO d.cO, .agg #[.slice d.A0 d.n0 d.c0, .slice d.A1 d.n1 d.c1, .slice d.A2 d.n2 d.c2], .agg #[.slice d.B0 d.m0 d.e0, .slice d.B1 d.m1 d.e1, .slice d.B2 d.m2 d.e2], .string s] w (TuP w) := by
  have k0 := RsW.start h
  have b0 : Below w.heap.size w (((w.alloc (.cells d.gv tGr)).alloc (.cells d.av tRec)).alloc (.cells d.bv tRec)) := (((Below.refl _ w).alloc (Nat.le_refl _) _).alloc (by simp) _).alloc (by simp; omega) _
  unfold Rsx.gv Rsx.av Rsx.bv at k0 b0
  have K0 := Lib.hid k0
  have B0 := Lib.hid b0
  clear k0 b0 h
  go_enter Tryz.func3, Tryz.ntmps3
  go_wp2_with fail
  generalize ((w.alloc (.cells #[.slice d.At d.nt d.ct, .slice d.An d.nn d.cn, .slice d.Ac d.nc d.cc, .bool d.ph] tGr)).alloc (.cells #[.slice d.A0 d.n0 d.c0, .slice d.A1 d.n1 d.c1, .slice d.A2 d.n2 d.c2] tRec)).alloc (.cells #[.slice d.B0 d.m0 d.e0, .slice d.B1 d.m1 d.e1, .slice d.B2 d.m2 d.e2] tRec) = w0 at *
  refine (records_any w0 K0.out.env).mono ?_
  rintro e w1 ⟨rfl, hb⟩
  have K1 := Lib.hid (K0.out.below hb)
  have B1 := Lib.hid (B0.out.trans (hb.mono B0.out.size))
  clear hb K0 B0
  obtain ⟨z0, z1, z2, z3, -⟩ := K1.out.ten
  go_wp2_with fail
  refine (lightGroup_any d.ph d.An d.At d.Ac d.nn d.cn d.nt d.ct d.nc d.cc d.nd d.tg d.cm w1 K1.out.nd K1.out.tg K1.out.cm).mono ?_
  rintro e w2 ⟨b, rfl, hl, hb⟩
  have K2 := Lib.hid (K1.out.below hb)
  have B2 := Lib.hid (B1.out.trans (hb.mono B1.out.size))
  have HG := Lib.hid hl
  clear hb hl K1 B1 z0 z1 z2 z3
  cases b with
  | false =>
    go_wp2
    go_ret
    exact ⟨rfl, B2.out⟩
  | true =>
  go_wp2_with fail
  refine (light_any d.AL d.nL d.cL d.l w2 K2.out.l).mono ?_
  rintro e w3 ⟨b, rfl, hl, q, rfl⟩
  have K3 := Lib.hid (K2.out.drewN q)
  have B3 := Lib.hid (B2.out.trans ((below_drews' w2 q).mono B2.out.size))
  have HL := Lib.hid hl
  clear hl K2 B2
  generalize w2.drewN q = w3 at *
  cases b with
  | false =>
    go_wp2
    go_ret
    exact ⟨rfl, B3.out⟩
  | true =>
  go_wp2_with fail
  refine (light_any d.AO d.nO d.cO d.out w3 K3.out.out).mono ?_
  rintro e w4 ⟨b, rfl, hl, q2, rfl⟩
  have K4 := Lib.hid (K3.out.drewN q2)
  have B4 := Lib.hid (B3.out.trans ((below_drews' w3 q2).mono B3.out.size))
  have HO := Lib.hid hl
  clear hl K3 B3
  generalize w3.drewN q2 = w4 at *
  cases b with
  | false =>
    go_wp2
    go_ret
    exact ⟨rfl, B4.out⟩
  | true =>
  obtain ⟨-, -, -, -, z4, z5, z6, -⟩ := K4.out.ten
  go_wp2_with fail
  refine (lightR_any d.A0 d.A1 d.A2 d.n0 d.n1 d.n2 d.c0 d.c1 d.c2 d.a.1 d.a.2.1 d.a.2.2 w4 K4.out.a0 K4.out.a1 K4.out.a2).mono ?_
  rintro e w5 ⟨b, rfl, hl, hb⟩
  have K5 := Lib.hid (K4.out.below hb)
  have B5 := Lib.hid (B4.out.trans (hb.mono B4.out.size))
  have HA := Lib.hid hl
  clear hl hb K4 B4 z4 z5 z6
  cases b with
  | false =>
    go_wp2
    go_ret
    exact ⟨rfl, B5.out⟩
  | true =>
  obtain ⟨-, -, -, -, -, -, -, z7, z8, z9⟩ := K5.out.ten
  go_wp2_with fail
  refine (lightR_any d.B0 d.B1 d.B2 d.m0 d.m1 d.m2 d.e0 d.e1 d.e2 d.b.1 d.b.2.1 d.b.2.2 w5 K5.out.b0 K5.out.b1 K5.out.b2).mono ?_
  rintro e w6 ⟨b, rfl, -, hb⟩
  have K6 := Lib.hid (K5.out.below hb)
  have B6 := Lib.hid (B5.out.trans (hb.mono B5.out.size))
  clear hb K5 B5 z7 z8 z9
  cases b with
  | false =>
    go_wp2
    go_ret
    exact ⟨rfl, B6.out⟩
  | true =>
  by_cases hlen : 1500 < s.size
  · have t1 : (1500 : Int) < (s.size : Int) := by omega
    go_wp2
    go_ret
    exact ⟨rfl, B6.out⟩
  have t1 : decide ((1500 : Int) < (s.size : Int)) = false := decide_eq_false (by omega)
  have hlit : Rsl d := ⟨(HG.out trivial).2.1, (HG.out trivial).2.2, HL.out trivial, HO.out trivial, HA.out trivial⟩
  have HLIT := Lib.hid hlit
  have KD := Lib.hid (K6.out.below ((Below.refl _ w6).drew))
  have BD := Lib.hid (B6.out.trans (((Below.refl _ w6).drew).mono B6.out.size))
  have HLEN := Lib.hid hlen
  clear hlit HG HL HO HA hlen
  obtain ⟨sb, hsb⟩ : ∃ sb, sb = decide (d.a = d.b) := ⟨_, rfl⟩
  have HSB := Lib.hid hsb
  have hsq : (sb != sb) = false := by simp
  obtain ⟨tx, htx⟩ : ∃ tx, tx = ba (recL d.a) := ⟨_, rfl⟩
  have HTX := Lib.hid htx
  have htq : (tx.toList != tx.toList) = false := by simp
  obtain ⟨z0, z1, z2, z3, z4, z5, z6, z7, z8, z9⟩ := KD.out.ten
  clear hsb htx
  go_wp2_with fail
  go_region_held3 (fun w' => w'.cell? ⟨w.heap.size, 0, none⟩ = some (.slice d.At d.nt d.ct) ∧ w'.cell? ⟨w.heap.size, 1, none⟩ = some (.slice d.An d.nn d.cn) ∧ w'.cell? ⟨w.heap.size, 2, none⟩ = some (.slice d.Ac d.nc d.cc) ∧ w'.cell? ⟨w.heap.size, 3, none⟩ = some (.bool d.ph) ∧ w'.cell? ⟨w.heap.size + 1, 0, none⟩ = some (.slice d.A0 d.n0 d.c0) ∧ w'.cell? ⟨w.heap.size + 1, 1, none⟩ = some (.slice d.A1 d.n1 d.c1) ∧ w'.cell? ⟨w.heap.size + 1, 2, none⟩ = some (.slice d.A2 d.n2 d.c2) ∧ w'.cell? ⟨w.heap.size + 2, 0, none⟩ = some (.slice d.B0 d.m0 d.e0) ∧ w'.cell? ⟨w.heap.size + 2, 1, none⟩ = some (.slice d.B1 d.m1 d.e1) ∧ w'.cell? ⟨w.heap.size + 2, 2, none⟩ = some (.slice d.B2 d.m2 d.e2))
    (first | with_reducible exact KH.out.ten | with_reducible exact KG.out.ten | with_reducible exact KF.out.ten | with_reducible exact KE.out.ten | with_reducible exact KC.out.ten | with_reducible exact KB.out.ten | with_reducible exact KA.out.ten | with_reducible exact KD.out.ten)
    (first
      | (have _g := KG; go_at_call 13; refine (KG.out.rtext HLIT.out).mono ?_; rintro e w8 ⟨rfl, hb⟩; have KH := Lib.hid (KG.out.below hb); have BH := Lib.hid (BG.out.trans (hb.mono BG.out.size)); rw [← HTX.out]; clear hb)
      | (have _g := KF; go_at_call 12; refine (KF.out.text HLIT.out).mono ?_; rintro e w8 ⟨rfl, hb⟩; have KG := Lib.hid (KF.out.below hb); have BG := Lib.hid (BF.out.trans (hb.mono BF.out.size)); rw [← HTX.out]; clear hb)
      | (have _g := KE; go_at_call 8; refine (sameR_V KE.out.ra KE.out.rb).mono ?_; rintro e w8 ⟨rfl, hb⟩; have KF := Lib.hid (KE.out.below hb); have BF := Lib.hid (BE.out.trans (hb.mono BE.out.size)); rw [← HSB.out]; clear hb)
      | (have _g := KC; go_at_call 11; refine (recSame_V KC.out.ra KC.out.rb).mono ?_; rintro e w8 ⟨rfl, hb⟩; have KE := Lib.hid (KC.out.below hb); have BE := Lib.hid (BC.out.trans (hb.mono BC.out.size)); rw [← HSB.out]; clear hb)
      | (have _g := KB; go_at_call 8; refine (sameR_V VA2.out VB.out).mono ?_; rintro e w8 ⟨rfl, hb⟩; have KC := Lib.hid (KB.out.below hb); have BC := Lib.hid (BB.out.trans (hb.mono BB.out.size)); rw [decide_eq_true rfl]; clear hb)
      | (have _g := KA; go_at_call 10; refine (KA.out.rof HLIT.out).mono ?_; rintro e w8 ⟨vb, rfl, hv, hb⟩; have KB := Lib.hid (KA.out.below hb); have BB := Lib.hid (BA.out.trans (hb.mono BA.out.size)); have VA2 := Lib.hid (VA.out.below hb); have VB := Lib.hid hv; clear hb hv)
      | (go_at_call 9; refine (KD.out.of HLIT.out).mono ?_; rintro e w8 ⟨va, rfl, hv, hb⟩; have KA := Lib.hid (KD.out.below hb); have BA := Lib.hid (BD.out.trans (hb.mono BD.out.size)); have VA := Lib.hid hv; clear hb hv))
  have KZ := KH
  have BZ := BH
  clear KA KB KC KE KF KG KH BA BB BC BE BF BG BH VA VA2 VB KD BD HSB HTX K6 B6 z0 z1 z2 z3 z4 z5 z6 z7 z8 z9
  have HPA := Lib.hid (parse_any s _ KZ.out.env (by have := HLEN.out; omega))
  go_wp2_with fail
  refine HPA.out.mono ?_
  rintro e u1 ⟨hb, P0, p0, d0, P1, p1, d1, P2, p2, d2, rfl, r0, r1, r2⟩
  have B1 := Lib.hid (BZ.out.trans (hb.mono BZ.out.size))
  have V1 := Lib.hid (show RcV u1 (.agg #[.slice P0 p0 d0, .slice P1 p1 d1, .slice P2 p2 d2]) ((recO nameB s.data.toList).getD ([], [], [])) from ⟨_, _, _, _, _, _, _, _, _, rfl, r0, r1, r2⟩)
  obtain ⟨nr, hnr⟩ : ∃ nr, nr = recN (recO nameB s.data.toList) := ⟨_, rfl⟩
  have hn0 : 0 ≤ nr := by rw [hnr]; unfold recN; split <;> omega
  rw [← hnr]
  have HNR := Lib.hid hnr
  have hb2 : Below u1.heap.size u1 (u1.alloc (.cells #[.slice P0 p0 d0, .slice P1 p1 d1, .slice P2 p2 d2] tRec)) := (Below.refl _ _).alloc (Nat.le_refl _) _
  have q1 := Blk.new u1 tRec #[.slice P0 p0 d0, .slice P1 p1 d1, .slice P2 p2 d2]
  have B2 := Lib.hid (B1.out.trans (hb2.mono B1.out.size))
  have V2 := Lib.hid (V1.out.below hb2)
  have HRI := Lib.hid (recIn_any s (u1.alloc (.cells #[.slice P0 p0 d0, .slice P1 p1 d1, .slice P2 p2 d2] tRec)) (by have := HLEN.out; omega))
  have Q1 := Lib.hid q1
  clear hb r0 r1 r2 HPA hb2 q1 hnr B1 V1 KZ BZ
  go_wp2_with fail
  refine HRI.out.mono ?_
  rintro e u3 ⟨hb, R0, m0, f0, R1, m1, f1, R2, m2, f2, rfl, r0, r1, r2⟩
  rw [← HNR.out]
  have B3 := Lib.hid (B2.out.trans (hb.mono B2.out.size))
  have V3 := Lib.hid (V2.out.below hb)
  have Q3 : Blk u3 u1.heap.size tRec #[.slice P0 p0 d0, .slice P1 p1 d1, .slice P2 p2 d2] := (hb.block _ Q1.out.lt).trans Q1.out
  have X3 := Lib.hid (show RcV u3 (.agg #[.slice R0 m0 f0, .slice R1 m1 f1, .slice R2 m2 f2]) ((recO nameB s.data.toList).getD ([], [], [])) from ⟨_, _, _, _, _, _, _, _, _, rfl, r0, r1, r2⟩)
  have hb2 : Below u3.heap.size u3 (u3.alloc (.cells #[.slice R0 m0 f0, .slice R1 m1 f1, .slice R2 m2 f2] tRec)) := (Below.refl _ _).alloc (Nat.le_refl _) _
  have q2 := Blk.new u3 tRec #[.slice R0 m0 f0, .slice R1 m1 f1, .slice R2 m2 f2]
  have q3 := Q3.alloc (.cells #[.slice R0 m0 f0, .slice R1 m1 f1, .slice R2 m2 f2] tRec)
  have B4 := Lib.hid (B3.out.trans (hb2.mono B3.out.size))
  have V4 := Lib.hid (V3.out.below hb2)
  have X4 := Lib.hid (X3.out.below hb2)
  have y0 : (u3.alloc (.cells #[.slice R0 m0 f0, .slice R1 m1 f1, .slice R2 m2 f2] tRec)).cell? ⟨u1.heap.size, 0, none⟩ = some (.slice P0 p0 d0) := q3.cell 0
  have y1 : (u3.alloc (.cells #[.slice R0 m0 f0, .slice R1 m1 f1, .slice R2 m2 f2] tRec)).cell? ⟨u1.heap.size, 1, none⟩ = some (.slice P1 p1 d1) := q3.cell 1
  have y2 : (u3.alloc (.cells #[.slice R0 m0 f0, .slice R1 m1 f1, .slice R2 m2 f2] tRec)).cell? ⟨u1.heap.size, 2, none⟩ = some (.slice P2 p2 d2) := q3.cell 2
  have HSM := Lib.hid (sameR_V V4.out X4.out)
  rw [decide_eq_true rfl] at HSM
  clear hb r0 r1 r2 HRI hb2 q2 q3 Q3 Q1 B2 B3 V2 V3 X3 V4 X4
  go_wp2_with fail
  refine (same_errV nr hn0 _).mono ?_
  rintro e u5 ⟨rfl, rfl⟩
  go_wp2_with fail
  refine HSM.out.mono ?_
  rintro e u6 ⟨rfl, hb6⟩
  have B6 := Lib.hid (B4.out.trans (hb6.mono B4.out.size))
  clear hb6 HSM y0 y1 y2 B4
  go_wp2
  go_ret
  exact ⟨rfl, B6.out⟩
end Go.Proofs.YtpghfefiifhbiaaGreatDoor
