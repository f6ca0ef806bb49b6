/-
  WALK: hammerpondref.lined at a command's line.
-/
import Derived.Test.YtlkpbpecgdphaaaLinedCmd
namespace Go.Proofs.Ytlkpbpecgdphaaa
open Go.RowKit

set_option maxHeartbeats 4000000 in
set_option maxRecDepth 100000 in
theorem lined_cmd (m : Mk) (vv vr vp : Value) (R : List Row3) (s : ByteArray) (w : World) (h : MkRd w m vv vr vp R) (hs : Sane m 700) (hf : Few m) (hz : s.size ≤ 600) (hnote : noteB s = false) (htab : Lib.hasPrefix s.data.toList [9] = true) :
    Calls Try.prog 19 #[.agg #[vv, vr, vp], .string s] w (LnPost (lineR m s) m vv vr vp R w) := by
  obtain ⟨Av, cv, rfl, hrv⟩ := h.vars
  obtain ⟨Ar, cr, rfl, hrr⟩ := h.rules
  obtain ⟨Ap, cp, rfl, hrp⟩ := h.phony
  obtain ⟨r, hr⟩ : ∃ r, r = lineR m s := ⟨_, rfl⟩
  rw [← hr]
  have HR := Lib.hid hr
  have hlr := h.len
  have hnr : R.length ≤ 10 := by rw [hlr]; exact hf.rules
  have HL := Lib.hid hlr
  have HF := Lib.hid hf
  have HSA := Lib.hid hs
  have hnv6 : m.vars.length ≤ 6 := hf.vars
  have hnp7 : m.phony.length ≤ 700 := hs.phony
  have HM := Lib.hid h
  clear hr hlr hs hf h
  generalize hnr0 : R.length = nr at *
  have HNR := Lib.hid hnr0
  generalize hnp0 : m.phony.length = np at *
  have HNP := Lib.hid hnp0
  generalize hnv0 : m.vars.length = nv at *
  have HNV := Lib.hid hnv0
  clear hnr0 hnp0 hnv0
  have hH := Hd.start w (.slice Av nv cv) (.slice Ar nr cr) (.slice Ap np cp)
  have HH := Lib.hid hH
  have HRV := Lib.hid (hrv.belowS hH.bel)
  have HRR := Lib.hid (hrr.belowS hH.bel)
  have HRP := Lib.hid (hrp.belowS hH.bel)
  obtain ⟨c0, c1, c2, d0, d1, d2, f0, f1, f2⟩ := hH.cells
  have hlt0 := hH.lt
  have hw2 := hH.bel.size
  clear hH hrv hrr hrp
  have hpos : 0 < s.size := by
    rcases Nat.eq_zero_or_pos s.size with h | h
    · rw [noteB_nil' h] at hnote; cases hnote
    · exact h
  have hx := HR.out
  unfold lineR at hx
  rw [if_neg (by rw [hnote]; simp), if_pos htab] at hx
  have hposz : (0 : Int) < (s.size : Int) := by omega
  have h1z : (1 : Int) ≤ (s.size : Int) := by omega
  have t1 := toList_ne hpos
  have t2 : ((s[0].toNat : Int) == 35) = false := by rw [byte_eqk (k := 35) (z := 35) rfl, ← noteB_cons hpos]; exact hnote
  have t3 : ((s[0].toNat : Int) == 9) = true := by rw [byte_eqk (k := 9) (z := 9) rfl, ← tab_cons hpos]; exact htab
  generalize hse : s.extract 1 s.size = sx at *
  have hsz : sx.size ≤ 600 := by rw [← hse, ByteArray.size_extract]; omega
  unfold cmdR at hx
  rw [← HL.out] at hx
  have HX1 := Lib.hid hx
  clear hx hnote htab
  have HT := Lib.hid (fun v hv => Nat.le_trans (HSA.out.texts v hv) (by omega : 600 ≤ 1000))
  by_cases hn0 : nr = 0
  · have t5 : ((nr : Int) == 0) = true := by rw [beq_iff_eq]; omega
    have HX := Lib.hid (HX1.out.trans (if_pos hn0))
    clear hn0
    go_enter Try.func19, Try.ntmps19
    go_upto_region 1 with fail
    generalize (w.alloc (.cells #[.slice Av nv cv, .slice Ar nr cr, .slice Ap np cp] 36)).alloc (.cells #[.slice none 0 0, .slice none 0 0, .slice none 0 0] 36) = w2 at *
    obtain ⟨g0, g1, g2, gb⟩ := HH.out.ret
    have HGB := Lib.hid gb
    clear gb
    go_wp2
    refine bodyPost_ret (v := .tuple #[.agg #[.slice Av nv cv, .slice Ar nr cr, .slice Ap np cp], .int .i64 4]) ?_ rfl ?_
    · simp [results, Try.f19, go_sem, g0, g1, g2]
    · exact LnPost.same (k := 4) HX.out HGB.out
  obtain ⟨p, rfl⟩ : ∃ p, nr = p + 1 := ⟨nr - 1, by omega⟩
  obtain ⟨R0, x, hR, hR0⟩ := snoc_len R p HNR.out
  obtain ⟨r0, u, hm, hr0⟩ := snoc_len m.rules p HL.out.symm
  subst hR
  have hx := HX1.out
  rw [if_neg hn0] at hx
  obtain ⟨ev, hev⟩ : ∃ ev, ev = expR m.vars 5 sx.data.toList := ⟨_, rfl⟩
  rw [← hev] at hx
  have hll : lastCmds m.rules = u.2.2.length := by rw [hm, lastCmds_snoc]
  rw [hll] at hx
  have HX2 := Lib.hid hx
  have HEV := Lib.hid hev
  have HMR := Lib.hid hm
  have HR0 := Lib.hid hR0
  have hnc3 : u.2.2.length ≤ 3 := (HSA.out.cmds u (by rw [hm]; simp)).2.2
  obtain ⟨sT, sN, sC⟩ := HM.out.each p x u (by rw [← hR0]; simp) (by rw [hm, ← hr0]; simp)
  obtain ⟨Ac, cc, eC, hC⟩ := sC
  have HC := Lib.hid hC
  have HX3 := Lib.hid (show (R0 ++ [x])[p]? = some x by rw [← hR0]; simp)
  obtain ⟨x0, x1, x2⟩ := x
  simp only at eC
  subst eC
  generalize hnc0 : u.2.2.length = nc at *
  have HNC := Lib.hid hnc0
  clear hx hev hll hm hR0 hr0 hC sT sN hn0 HX1 hnc0
  have t5 : (((p + 1 : Nat) : Int) == 0) = false := by rw [beq_eq_false_iff_ne]; omega
  go_enter Try.func19, Try.ntmps19
  go_upto_region 1 with fail
  generalize (w.alloc (.cells #[.slice Av nv cv, .slice Ar (p + 1) cr, .slice Ap np cp] 36)).alloc (.cells #[.slice none 0 0, .slice none 0 0, .slice none 0 0] 36) = w2 at *
  go_wp2
  go_quiet (first | (go_at_call 36; refine quiet_eq (rexp_any m.vars HT.out Av nv cv sx _ ?_ ?_ ?_); exact HRV.out; omega; omega))
  rw [← HEV.out]
  have hb3 := below_drewN w2 nq
  have HB3 := Lib.hid hb3
  have HH3 := Lib.hid (HH.out.below hb3)
  have HRR3 := Lib.hid (HRR.out.belowS hb3)
  clear c0 c1 c2 d0 d1 d2 f0 f1 f2 hb3
  generalize w2.drewN nq = w3 at *
  have hlen600 : ev.1 = 0 → ev.2.length ≤ 600 := by
    rw [HEV.out]
    intro h
    exact expL_len _ _ _ _ (Prod.ext h rfl)
  have HLEN := Lib.hid hlen600
  clear hlen600 HEV
  obtain ⟨e, t⟩ := ev
  dsimp only at HLEN HX2 ⊢
  cases e with
  | succ e =>
    have hx := HX2.out
    rw [if_pos (by omega)] at hx
    have HX := Lib.hid hx
    clear hx HX2 HLEN
    have hpos2 : (0 : Int) < ((e + 1 : Nat) : Int) := by omega
    obtain ⟨z, hze⟩ : ∃ z : Int, z = ((e + 1 : Nat) : Int) := ⟨_, rfl⟩
    rw [← hze] at hpos2 ⊢
    have HZE := Lib.hid hze
    clear hze
    obtain ⟨c0, c1, c2, d0, d1, d2, f0, f1, f2⟩ := HH3.out.cells
    obtain ⟨g0, g1, g2, gb⟩ := HH3.out.ret
    have HGB := Lib.hid gb
    clear gb
    go_wp2
    refine bodyPost_ret (v := .tuple #[.agg #[.slice Av nv cv, .slice Ar (p + 1) cr, .slice Ap np cp], .int .i64 z]) ?_ rfl ?_
    · simp [results, Try.f19, go_sem, g0, g1, g2]
    · rw [HZE.out]; exact LnPost.same (k := e + 1) HX.out HGB.out
  | zero =>
    have htl := HLEN.out rfl
    have hx := HX2.out
    rw [if_neg (by simp)] at hx
    have HX4 := Lib.hid hx
    clear hx HX2 HLEN
    have htz : (ba t).size ≤ 600 := by rw [ba_size]; exact htl
    simp only [Int.ofNat_zero]
    obtain ⟨c0, c1, c2, d0, d1, d2, f0, f1, f2⟩ := HH3.out.cells
    obtain ⟨br, ofr, rfl, _, q0, q1, q2⟩ := HRR3.out.at_ HX3.out
    simp only at q0 q1 q2
    have hpz : (p : Int) < ((p + 1 : Nat) : Int) := by omega
    by_cases h3 : 3 ≤ nc
    · have t6 : ((nc : Int) == 3) = true := by rw [beq_iff_eq]; omega
      have HX := Lib.hid (HX4.out.trans (if_pos (.inl h3)))
      clear h3
      obtain ⟨g0, g1, g2, gb⟩ := HH3.out.ret
      have HGB := Lib.hid gb
      clear gb
      go_wp2
      refine bodyPost_ret (v := .tuple #[.agg #[.slice Av nv cv, .slice (some ⟨br, ofr, none⟩) (p + 1) cr, .slice Ap np cp], .int .i64 2]) ?_ rfl ?_
      · simp [results, Try.f19, go_sem, g0, g1, g2]
      · exact LnPost.same (k := 2) HX.out HGB.out
    have t6 : ((nc : Int) == 3) = false := by rw [beq_eq_false_iff_ne]; omega
    by_cases h28 : 28 < t.length
    · have t7 : (28 : Int) < ((ba t).size : Int) := by rw [ba_size]; omega
      have HX := Lib.hid (HX4.out.trans (if_pos (.inr h28)))
      clear h28
      obtain ⟨g0, g1, g2, gb⟩ := HH3.out.ret
      have HGB := Lib.hid gb
      clear gb
      go_wp2
      refine bodyPost_ret (v := .tuple #[.agg #[.slice Av nv cv, .slice (some ⟨br, ofr, none⟩) (p + 1) cr, .slice Ap np cp], .int .i64 2]) ?_ rfl ?_
      · simp [results, Try.f19, go_sem, g0, g1, g2]
      · exact LnPost.same (k := 2) HX.out HGB.out
    have t7 : decide ((28 : Int) < ((ba t).size : Int)) = false := decide_eq_false (by rw [ba_size]; omega)
    have HX := Lib.hid (HX4.out.trans (if_neg (by omega)))
    clear HX4 h28 h3
    obtain ⟨ti, hti, htz, hts, htb⟩ := text_parts
    have TI := Lib.hid hti
    have TZ := Lib.hid htz
    have TS := Lib.hid hts
    have TB := Lib.hid htb
    obtain ⟨ri, hri, hrz, hrs, hrb⟩ := rule_parts
    have RI := Lib.hid hri
    have RZ := Lib.hid hrz
    have RS := Lib.hid hrs
    have RB := Lib.hid hrb
    clear hti htz hts htb hri hrz hrs hrb
    have HXR := Lib.hid (HRR3.out.x HM.out.one)
    have HCR := Lib.hid (HC.out.belowS HH3.out.bel)
    have HK0 := Lib.hid (Below.refl w3.heap.size w3)
    have hw3 : w.heap.size + 1 < w3.heap.size := HH3.out.lt
    go_wp2_with (at_builtin; refine wpList_append_rd _ rfl (.const (.slice none 0 0)) (.tmp 60) _ rfl w3.heap.size 81 ri _ 3 72 Try.underlying34 RI.out RZ.out RS.out RB.out rfl (by decide) (.slice none 0 0) 0 [] rfl (World.ownsRow_nil _ _ _ _) _ (p + 1) cr _ rfl HXR.out ?_ ?_ ?_ ?_)
    · unfold maxLen; omega
    · omega
    · exact Nat.le_refl _
    intro v5 w5 own5 g5 loc5
    try rw [Nat.zero_add, List.nil_append] at own5
    have HB5 := Lib.hid (HK0.out.grown g5 (Nat.le_refl _) (fun k hk => by cases hk))
    obtain ⟨A5, c5, rfl⟩ := own_slice own5
    obtain ⟨gr, rfl⟩ : ∃ gr, A5 = some ⟨gr, 0, none⟩ := by
      rcases own5.2 with ⟨_, h0⟩ | ⟨g, cap, cur, e, _⟩
      · omega
      · injection e with e; exact ⟨g, e⟩
    have y2 : w5.cell? ⟨gr, p * 3 + 2, none⟩ = some (.slice Ac nc cc) := by
      have := own5.cells (g := gr) rfl _ _ (rcells_at HX3.out).2.2
      rwa [Go.WideShapes.add_plain, Nat.zero_add] at this
    have hgr : w3.heap.size ≤ gr := (own5.lt gr rfl).1
    have HO5 := Lib.hid own5
    have HXC := Lib.hid (HCR.out.belowS HB5.out).x
    clear own5 g5 loc5 c0 c1 c2 d0 d1 d2 f0 f1 f2 q0 q1 q2
    go_wp2_with (at_builtin; refine wpList_append_rd _ rfl (.const (.slice none 0 0)) (.tmp 70) _ rfl w3.heap.size 9 ti _ 1 16 Try.underlying27 TI.out TZ.out TS.out TB.out rfl (by decide) (.slice none 0 0) 0 [] rfl (World.ownsRow_nil _ _ _ _) _ nc cc _ rfl HXC.out ?_ ?_ ?_ ?_)
    · unfold maxLen; omega
    · omega
    · exact HB5.out.size
    intro v6 w6 own6 g6 loc6
    try rw [Nat.zero_add, List.nil_append] at own6
    have hb56 : Below w5.heap.size w5 w6 := (Below.refl _ _).grown g6 (Nat.le_refl _) (fun k hk => by cases hk)
    have hb56a : Below w5.heap.size w5 (w6.alloc (.cells #[.string (ba t)] 9)) := hb56.alloc hb56.size _
    have HO5a := Lib.hid (HO5.out.kept (grown_of_below hb56a) (by simp [Value.ownBlock]))
    have HB6a := Lib.hid (HB5.out.trans (hb56a.mono HB5.out.size))
    have HO6a := Lib.hid (own6.alloc (.cells #[.string (ba t)] 9))
    have HXN := Lib.hid (RdX.new w6 1 #[.string (ba t)] 9 rfl (by simp [Value.oneCell']))
    have HO6 := Lib.hid own6
    clear own6 g6 loc6 hb56 hb56a
    go_wp2_with (at_builtin; refine wpList_append_rd _ rfl (.tmp 71) (.tmp 73) _ rfl w3.heap.size 9 ti _ 1 16 Try.underlying27 TI.out TZ.out TS.out TB.out rfl (by decide) _ nc _ rfl HO6a.out _ 1 1 _ rfl HXN.out ?_ ?_ ?_ ?_)
    · unfold maxLen; omega
    · omega
    · simpa using HB6a.out.size
    intro v7 w7 own7 g7 loc7
    have HB7 := Lib.hid (HB6a.out.grown g7 HB6a.out.size (fun k hk => (HO6.out.lt k hk).1))
    have own5b := HO5a.out.kept g7 (rows_ne HO5a.out HO6a.out (by decide))
    obtain ⟨A7, c7, rfl⟩ := own_slice own7
    have z2 : w7.cell? ⟨gr, p * 3 + 2, none⟩ = some (.slice Ac nc cc) := by
      have := own5b.cells (g := gr) rfl _ _ (rcells_at HX3.out).2.2
      rwa [Go.WideShapes.add_plain, Nat.zero_add] at this
    have zf : w7.frozen? ⟨gr, p * 3 + 2, none⟩ = false := own5b.frozenAt _
    obtain ⟨own8, g8⟩ := own5b.stored (p * 3 + 2) (.slice A7 (nc + 1) c7)
    have hset : (rcells (R0 ++ [(x0, x1, Value.slice Ac nc cc)])).set (p * 3 + 2) (.slice A7 (nc + 1) c7) = rcells (R0 ++ [(x0, x1, .slice A7 (nc + 1) c7)]) := by
      have := rcells_set R0 (x0, x1, Value.slice Ac nc cc) (.slice A7 (nc + 1) c7)
      rwa [HR0.out] at this
    rw [hset] at own8
    have own78 := own7.kept g8 (rows_ne own7 own5b (by decide))
    have hH7 := HH3.out.below HB7.out
    have hH8 := hH7.grow g8 (by omega)
    have r0 := hH8.cells.2.1
    have r1 : (w7.setCell ⟨gr, p * 3 + 2, none⟩ (.slice A7 (nc + 1) c7)).frozen? ⟨w.heap.size, 1, none⟩ = false := by have kx := hH8.kx; simp [World.frozen?, kx]
    have hH9 := hH8.setR (.slice (some ⟨gr, 0, none⟩) (p + 1) c5)
    have HO9 := Lib.hid (hH8.own 1 (.slice (some ⟨gr, 0, none⟩) (p + 1) c5) own8 (by decide))
    have HT9 := Lib.hid (hH8.own 1 (.slice (some ⟨gr, 0, none⟩) (p + 1) c5) own78 (by decide))
    have HH9 := Lib.hid hH9
    obtain ⟨m0, m1, m2, n0, n1, n2, o0, o1, o2⟩ := hH9.cells
    have hw3' : w.heap.size ≤ w3.heap.size := by omega
    clear own7 g7 loc7 own5b own8 g8 hset own78 hH7 hH8 hH9
    obtain ⟨g0, g1, g2, gb⟩ := HH9.out.ret
    have HGB := Lib.hid gb
    clear gb
    go_wp2
    refine bodyPost_ret (v := .tuple #[.agg #[.slice Av nv cv, .slice (some ⟨gr, 0, none⟩) (p + 1) c5, .slice Ap np cp], .int .i64 0]) ?_ rfl ?_
    · simp [results, Try.f19, go_sem, g0, g1, g2]
    · exact LnPost.cmd HX.out HMR.out hw3' HGB.out (by have := HH9.out.ownRet HO9.out (by decide); rw [HNR.out]; exact this) (by have := HH9.out.ownRet HT9.out (by decide); unfold Own1; rw [List.length_append, HNC.out, tcells, List.map_append]; exact this)
end Go.Proofs.Ytlkpbpecgdphaaa
