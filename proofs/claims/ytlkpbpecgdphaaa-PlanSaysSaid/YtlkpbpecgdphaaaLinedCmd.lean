/-
  WORDS FOR MEMORY: one command more for the last rule, in a copy of the rules.
-/
import Derived.Test.YtlkpbpecgdphaaaLinedA
namespace Go.Proofs.Ytlkpbpecgdphaaa
open Go.RowKit


set_option maxHeartbeats 4000000 in
set_option maxRecDepth 100000 in
theorem lined_var (m : Mk) (vv vr vp : Value) (R : List Row3) (s : ByteArray) (w : World) (h : MkRd w m vv vr vp R) (hs : Sane m 700) (hf : Few m) (hz : s.size ≤ 600) (hnote : noteB s = false) (htab : Lib.hasPrefix s.data.toList [9] = false) (hph : Lib.hasPrefix s.data.toList phB = false) (hcut : (Lib.cut s.data.toList [32, 61, 32]).2.2 = true) :
    Calls Try.prog 19 #[.agg #[vv, vr, vp], .string s] w (LnPost (lineR m s) m vv vr vp R w) := by
  obtain ⟨Av, cv, rfl, hrv⟩ := h.vars
  obtain ⟨Ar, cr, rfl, hrr⟩ := h.rules
  obtain ⟨Ap, cp, rfl, hrp⟩ := h.phony
  obtain ⟨r, hr⟩ : ∃ r, r = lineR m s := ⟨_, rfl⟩
  rw [← hr]
  have HR := Lib.hid hr
  have hlr := h.len
  have hnr : R.length ≤ 10 := by rw [hlr]; exact hf.rules
  have HL := Lib.hid hlr
  have HF := Lib.hid hf
  have HSA := Lib.hid hs
  have hnv6 : m.vars.length ≤ 6 := hf.vars
  have hnp7 : m.phony.length ≤ 700 := hs.phony
  have HM := Lib.hid h
  clear hr hlr hs hf h
  generalize hnr0 : R.length = nr at *
  have HNR := Lib.hid hnr0
  generalize hnp0 : m.phony.length = np at *
  have HNP := Lib.hid hnp0
  generalize hnv0 : m.vars.length = nv at *
  have HNV := Lib.hid hnv0
  clear hnr0 hnp0 hnv0
  have hH := Hd.start w (.slice Av nv cv) (.slice Ar nr cr) (.slice Ap np cp)
  have HH := Lib.hid hH
  have HRV := Lib.hid (hrv.belowS hH.bel)
  have HRR := Lib.hid (hrr.belowS hH.bel)
  have HRP := Lib.hid (hrp.belowS hH.bel)
  obtain ⟨c0, c1, c2, d0, d1, d2, f0, f1, f2⟩ := hH.cells
  have hlt0 := hH.lt
  have hw2 := hH.bel.size
  clear hH hrv hrr hrp
  have hpos : 0 < s.size := by
    rcases Nat.eq_zero_or_pos s.size with h | h
    · rw [noteB_nil' h] at hnote; cases hnote
    · exact h
  obtain ⟨vi, hvi, hvz, hvs, hvb⟩ := var_parts
  have VI := Lib.hid hvi
  have VZ := Lib.hid hvz
  have VS := Lib.hid hvs
  have VB := Lib.hid hvb
  clear hvi hvz hvs hvb
  obtain ⟨i, ei, hil, ec⟩ := cut_hit hcut
  have hx := HR.out
  unfold lineR at hx
  rw [if_neg (by rw [hnote]; simp), if_neg (by rw [htab]; simp), if_neg (by show ¬ Lib.hasPrefix s.data.toList phB = true; rw [hph]; simp), if_pos hcut, ec] at hx
  simp only [List.length_cons, List.length_nil, Nat.zero_add] at hx hil
  have hil' : i + 3 ≤ s.size := by simp at hil; omega
  have HFI := Lib.hid (show findR s.data.toList [32, 61, 32] 0 = (i : Int) by unfold findR; rw [List.drop_zero, ei, if_neg (by omega)]; simp)
  have e1 : ba (s.data.toList.take i) = s.extract 0 i := by rw [← ba_of (s.extract 0 i), Lib.extract_data]; simp
  have e2 : ba (s.data.toList.drop (i + 3)) = s.extract (i + 3) s.size := by rw [← ba_of (s.extract (i + 3) s.size), Lib.extract_data, List.take_of_length_le (by simp)]
  rw [show i + (1 + 1 + 1) = i + 3 by omega, e1, e2] at hx
  clear ei ec e1 e2 hcut hil
  have hposz : (0 : Int) < (s.size : Int) := by omega
  have t1 := toList_ne hpos
  have t2 : ((s[0].toNat : Int) == 35) = false := by rw [byte_eqk (k := 35) (z := 35) rfl, ← noteB_cons hpos]; exact hnote
  have t3 : ((s[0].toNat : Int) == 9) = false := by rw [byte_eqk (k := 9) (z := 9) rfl, ← tab_cons hpos]; exact htab
  have hi0 : (0 : Int) ≤ (i : Int) := by omega
  have hi1 : (i : Int) ≤ (s.size : Int) := by omega
  have hwr : IntKind.i64.wrap ((i : Int) + 3) = (i : Int) + 3 := by rw [IntKind.wrap_i64]; omega
  have h03 : (0 : Int) ≤ (i : Int) + 3 := by omega
  have hi3 : (i : Int) + 3 ≤ (s.size : Int) := by omega
  generalize hne : s.extract 0 i = nB at *
  generalize hte : s.extract (i + 3) s.size = tB at *
  have hte2 : s.extract ((i : Int) + 3).toNat s.size = tB := by rw [show ((i : Int) + 3).toNat = i + 3 by omega]; exact hte
  have hnz : nB.size ≤ 600 := by rw [← hne, ByteArray.size_extract]; omega
  unfold varR at hx
  have HX1 := Lib.hid hx
  clear hx hnote htab
  by_cases h5 : 5 < s.size
  · have h5z : (5 : Int) < (s.size : Int) := by omega
    have h6z : (6 : Int) ≤ (s.size : Int) := by omega
    have t4 : ((s.extract 0 6).toList == [112, 104, 111, 110, 121, 32]) = false := (ph_long h5).trans hph
    clear hph
    go_enter Try.func19, Try.ntmps19
    go_upto_region 1 with fail
    generalize (w.alloc (.cells #[.slice Av nv cv, .slice Ar nr cr, .slice Ap np cp] 36)).alloc (.cells #[.slice none 0 0, .slice none 0 0, .slice none 0 0] 36) = w2 at *
    go_wp2_with fail
    refine (find_any s ⟨#[32, 61, 32]⟩ 0 w2 (by decide) (by decide) (by omega) (by omega)).mono ?_
    rintro e w' ⟨rfl, rfl⟩
    rw [show (⟨#[32, 61, 32]⟩ : ByteArray).data.toList = [32, 61, 32] from rfl, HFI.out]
    go_wp2_with fail
    refine (varMay_any nB w2 (by omega)).mono ?_
    rintro e w' ⟨rfl, rfl⟩
    cases hvo : varOk nB with
    | false =>
      have HX := Lib.hid (HX1.out.trans (if_pos hvo))
      obtain ⟨g0, g1, g2, gb⟩ := HH.out.ret
      have HGB := Lib.hid gb
      clear gb
      go_wp2
      refine bodyPost_ret (v := .tuple #[.agg #[.slice Av nv cv, .slice Ar nr cr, .slice Ap np cp], .int .i64 3]) ?_ rfl ?_
      · simp [results, Try.f19, go_sem, g0, g1, g2]
      · exact LnPost.same (k := 3) HX.out HGB.out
    | true =>
      have hx := HX1.out
      rw [if_neg (by rw [hvo]; simp), HNV.out] at hx
      have HX2 := Lib.hid hx
      clear hx
      by_cases h6 : 6 ≤ nv
      · have t6 : ((nv : Int) == 6) = true := by rw [beq_iff_eq]; omega
        have HX := Lib.hid (HX2.out.trans (if_pos h6))
        clear h6
        obtain ⟨g0, g1, g2, gb⟩ := HH.out.ret
        have HGB := Lib.hid gb
        clear gb
        go_wp2
        refine bodyPost_ret (v := .tuple #[.agg #[.slice Av nv cv, .slice Ar nr cr, .slice Ap np cp], .int .i64 2]) ?_ rfl ?_
        · simp [results, Try.f19, go_sem, g0, g1, g2]
        · exact LnPost.same (k := 2) HX.out HGB.out
      · have t6 : ((nv : Int) == 6) = false := by rw [beq_eq_false_iff_ne]; omega
        have HX := Lib.hid (HX2.out.trans (if_neg h6))
        have k1 : Below w2.heap.size w2 w2.drew := (Below.refl _ _).drew
        have k2 : Below w2.heap.size w2 ((w2.alloc (.cells #[.string nB, .string tB] 84)).drew) := ((Below.refl _ _).alloc (Nat.le_refl _) _).drew
        have hbx : w.heap.size < w2.heap.size := World.block_lt_of_cell? _ _ c0
        have HK1 := Lib.hid k1
        have HK2 := Lib.hid k2
        have q3 : w2.drew.cell? ⟨w.heap.size, 0, none⟩ = some (.slice Av nv cv) := c0
        have q3a : ((w2.alloc (.cells #[.string nB, .string tB] 84)).drew).cell? ⟨w.heap.size, 0, none⟩ = some (.slice Av nv cv) := (k2.cell (p := ⟨w.heap.size, 0, none⟩) hbx).trans c0
        have HXR := Lib.hid (show RdX w2.drew 2 Av nv (fcells m.vars) from HRV.out.x)
        have HXR2 := Lib.hid (show RdX ((w2.alloc (.cells #[.string nB, .string tB] 84)).drew) 2 Av nv (fcells m.vars) from (HRV.out.belowS k2).x)
        have HXN2 := Lib.hid (show RdX ((w2.alloc (.cells #[.string nB, .string tB] 84)).drew) 2 (some ⟨w2.heap.size, 0, none⟩) 1 [.string nB, .string tB] from RdX.new w2 2 #[.string nB, .string tB] 84 rfl (by simp [Value.oneCell']))
        clear k1 k2
        go_upto_region 31 with fail
        go_region_law
          (first
            | (refine step_append_rd _ (by rfl) (.const (.slice none 0 0)) (.tmp 127) _ (by rfl) w2.heap.size 84 vi _ 2 32 Try.underlying33 VI.out VZ.out VS.out VB.out rfl (by decide) (.slice none 0 0) 0 [] (by rfl) (World.ownsRow_nil w2.drew _ _ _) Av nv cv (fcells m.vars) (by rfl) HXR.out (by unfold maxLen; omega) (by omega) HK1.out.size ?_; intro v5 w5 own5 g5 loc5; have HB5 := Lib.hid (HK1.out.grown g5 HK1.out.size (fun k hk => by cases hk)); have HO5 := Lib.hid own5; clear own5 g5 loc5)
            | (refine step_append_rd _ (by rfl) (.const (.slice none 0 0)) (.tmp 127) _ (by rfl) w2.heap.size 84 vi _ 2 32 Try.underlying33 VI.out VZ.out VS.out VB.out rfl (by decide) (.slice none 0 0) 0 [] (by rfl) (World.ownsRow_nil ((w2.alloc (.cells #[.string nB, .string tB] 84)).drew) _ _ _) Av nv cv (fcells m.vars) (by rfl) HXR2.out (by unfold maxLen; omega) (by omega) HK2.out.size ?_; intro v5b w5b own5 g5 loc5; have HB5b := Lib.hid (HK2.out.grown g5 HK2.out.size (fun k hk => by cases hk)); have HXN5 := Lib.hid (HXN2.out.keep (fun b hb => by obtain ⟨off, e⟩ := hb; injection e with e; injection e with e _; subst e; exact g5.block _ (by show w2.heap.size < (w2.alloc (.cells #[.string nB, .string tB] 84)).heap.size; simp) (by simp [Value.ownBlock]))); have HO5b := Lib.hid own5; clear own5 g5 loc5)
            | (refine step_append_rd _ (by rfl) (.tmp 128) (.tmp 137) _ (by rfl) w2.heap.size 84 vi _ 2 32 Try.underlying33 VI.out VZ.out VS.out VB.out rfl (by decide) v5 (0 + nv) _ (by rfl) (HO5.out.alloc (.cells #[.string nB, .string tB] 84)) (some ⟨w5.heap.size, 0, none⟩) 1 1 [.string nB, .string tB] (by rfl) (RdX.new w5 2 #[.string nB, .string tB] 84 rfl (by simp [Value.oneCell'])) (by unfold maxLen; omega) (by omega) (HB5.out.alloc HB5.out.size _).size ?_; intro v6 w6 own6 g6 loc6; rw [Nat.zero_add, List.nil_append] at own6; obtain ⟨A6, c6, rfl⟩ := own_slice own6; have HB6 := Lib.hid ((HB5.out.alloc HB5.out.size (.cells #[.string nB, .string tB] 84)).grown g6 (HB5.out.alloc HB5.out.size _).size (fun k hk => (HO5.out.lt k hk).1)); have HO6 := Lib.hid own6; have hH6 := HH.out.below HB6.out; have r0 := hH6.cells.1; have r1 : w6.frozen? ⟨w.heap.size, 0, none⟩ = false := (by have kx := hH6.kx; simp [World.frozen?, kx]); clear own6 g6 loc6 hH6)
            | (refine step_append_rd _ (by rfl) (.tmp 128) (.tmp 137) _ (by rfl) w2.heap.size 84 vi _ 2 32 Try.underlying33 VI.out VZ.out VS.out VB.out rfl (by decide) v5b (0 + nv) _ (by rfl) HO5b.out (some ⟨w2.heap.size, 0, none⟩) 1 1 [.string nB, .string tB] (by rfl) HXN5.out (by unfold maxLen; omega) (by omega) HB5b.out.size ?_; intro v6 w6 own6 g6 loc6; rw [Nat.zero_add, List.nil_append] at own6; obtain ⟨A6, c6, rfl⟩ := own_slice own6; have HB6 := Lib.hid (HB5b.out.grown g6 HB5b.out.size (fun k hk => (HO5b.out.lt k hk).1)); have HO6 := Lib.hid own6; have hH6 := HH.out.below HB6.out; have r0 := hH6.cells.1; have r1 : w6.frozen? ⟨w.heap.size, 0, none⟩ = false := (by have kx := hH6.kx; simp [World.frozen?, kx]); clear own6 g6 loc6 hH6))
        all_goals (
          have hH7 := (HH.out.below HB6.out).setV (.slice A6 (nv + 1) c6)
          have HO7 := Lib.hid ((HH.out.below HB6.out).own 0 (.slice A6 (nv + 1) c6) HO6.out (by decide))
          have HH7 := Lib.hid hH7
          obtain ⟨m0, m1, m2, n0, n1, n2, o0, o1, o2⟩ := hH7.cells
          clear hH7
          obtain ⟨g0, g1, g2, gb⟩ := HH7.out.ret
          have HGB := Lib.hid gb
          clear gb
          go_wp2
          refine bodyPost_ret (v := .tuple #[.agg #[.slice A6 (nv + 1) c6, .slice Ar nr cr, .slice Ap np cp], .int .i64 0]) ?_ rfl ?_
          · simp [results, Try.f19, go_sem, g0, g1, g2]
          · exact LnPost.var HX.out hw2 HGB.out (by have := HH7.out.ownRet HO7.out (by decide); rw [List.length_append, HNV.out, fcells_append]; exact this))
  · have h5z : decide ((5 : Int) < (s.size : Int)) = false := decide_eq_false (by omega)
    clear hph
    go_enter Try.func19, Try.ntmps19
    go_upto_region 1 with fail
    generalize (w.alloc (.cells #[.slice Av nv cv, .slice Ar nr cr, .slice Ap np cp] 36)).alloc (.cells #[.slice none 0 0, .slice none 0 0, .slice none 0 0] 36) = w2 at *
    go_wp2_with fail
    refine (find_any s ⟨#[32, 61, 32]⟩ 0 w2 (by decide) (by decide) (by omega) (by omega)).mono ?_
    rintro e w' ⟨rfl, rfl⟩
    rw [show (⟨#[32, 61, 32]⟩ : ByteArray).data.toList = [32, 61, 32] from rfl, HFI.out]
    go_wp2_with fail
    refine (varMay_any nB w2 (by omega)).mono ?_
    rintro e w' ⟨rfl, rfl⟩
    cases hvo : varOk nB with
    | false =>
      have HX := Lib.hid (HX1.out.trans (if_pos hvo))
      obtain ⟨g0, g1, g2, gb⟩ := HH.out.ret
      have HGB := Lib.hid gb
      clear gb
      go_wp2
      refine bodyPost_ret (v := .tuple #[.agg #[.slice Av nv cv, .slice Ar nr cr, .slice Ap np cp], .int .i64 3]) ?_ rfl ?_
      · simp [results, Try.f19, go_sem, g0, g1, g2]
      · exact LnPost.same (k := 3) HX.out HGB.out
    | true =>
      have hx := HX1.out
      rw [if_neg (by rw [hvo]; simp), HNV.out] at hx
      have HX2 := Lib.hid hx
      clear hx
      by_cases h6 : 6 ≤ nv
      · have t6 : ((nv : Int) == 6) = true := by rw [beq_iff_eq]; omega
        have HX := Lib.hid (HX2.out.trans (if_pos h6))
        clear h6
        obtain ⟨g0, g1, g2, gb⟩ := HH.out.ret
        have HGB := Lib.hid gb
        clear gb
        go_wp2
        refine bodyPost_ret (v := .tuple #[.agg #[.slice Av nv cv, .slice Ar nr cr, .slice Ap np cp], .int .i64 2]) ?_ rfl ?_
        · simp [results, Try.f19, go_sem, g0, g1, g2]
        · exact LnPost.same (k := 2) HX.out HGB.out
      · have t6 : ((nv : Int) == 6) = false := by rw [beq_eq_false_iff_ne]; omega
        have HX := Lib.hid (HX2.out.trans (if_neg h6))
        have k1 : Below w2.heap.size w2 w2.drew := (Below.refl _ _).drew
        have k2 : Below w2.heap.size w2 ((w2.alloc (.cells #[.string nB, .string tB] 84)).drew) := ((Below.refl _ _).alloc (Nat.le_refl _) _).drew
        have hbx : w.heap.size < w2.heap.size := World.block_lt_of_cell? _ _ c0
        have HK1 := Lib.hid k1
        have HK2 := Lib.hid k2
        have q3 : w2.drew.cell? ⟨w.heap.size, 0, none⟩ = some (.slice Av nv cv) := c0
        have q3a : ((w2.alloc (.cells #[.string nB, .string tB] 84)).drew).cell? ⟨w.heap.size, 0, none⟩ = some (.slice Av nv cv) := (k2.cell (p := ⟨w.heap.size, 0, none⟩) hbx).trans c0
        have HXR := Lib.hid (show RdX w2.drew 2 Av nv (fcells m.vars) from HRV.out.x)
        have HXR2 := Lib.hid (show RdX ((w2.alloc (.cells #[.string nB, .string tB] 84)).drew) 2 Av nv (fcells m.vars) from (HRV.out.belowS k2).x)
        have HXN2 := Lib.hid (show RdX ((w2.alloc (.cells #[.string nB, .string tB] 84)).drew) 2 (some ⟨w2.heap.size, 0, none⟩) 1 [.string nB, .string tB] from RdX.new w2 2 #[.string nB, .string tB] 84 rfl (by simp [Value.oneCell']))
        clear k1 k2
        go_upto_region 31 with fail
        go_region_law
          (first
            | (refine step_append_rd _ (by rfl) (.const (.slice none 0 0)) (.tmp 127) _ (by rfl) w2.heap.size 84 vi _ 2 32 Try.underlying33 VI.out VZ.out VS.out VB.out rfl (by decide) (.slice none 0 0) 0 [] (by rfl) (World.ownsRow_nil w2.drew _ _ _) Av nv cv (fcells m.vars) (by rfl) HXR.out (by unfold maxLen; omega) (by omega) HK1.out.size ?_; intro v5 w5 own5 g5 loc5; have HB5 := Lib.hid (HK1.out.grown g5 HK1.out.size (fun k hk => by cases hk)); have HO5 := Lib.hid own5; clear own5 g5 loc5)
            | (refine step_append_rd _ (by rfl) (.const (.slice none 0 0)) (.tmp 127) _ (by rfl) w2.heap.size 84 vi _ 2 32 Try.underlying33 VI.out VZ.out VS.out VB.out rfl (by decide) (.slice none 0 0) 0 [] (by rfl) (World.ownsRow_nil ((w2.alloc (.cells #[.string nB, .string tB] 84)).drew) _ _ _) Av nv cv (fcells m.vars) (by rfl) HXR2.out (by unfold maxLen; omega) (by omega) HK2.out.size ?_; intro v5b w5b own5 g5 loc5; have HB5b := Lib.hid (HK2.out.grown g5 HK2.out.size (fun k hk => by cases hk)); have HXN5 := Lib.hid (HXN2.out.keep (fun b hb => by obtain ⟨off, e⟩ := hb; injection e with e; injection e with e _; subst e; exact g5.block _ (by show w2.heap.size < (w2.alloc (.cells #[.string nB, .string tB] 84)).heap.size; simp) (by simp [Value.ownBlock]))); have HO5b := Lib.hid own5; clear own5 g5 loc5)
            | (refine step_append_rd _ (by rfl) (.tmp 128) (.tmp 137) _ (by rfl) w2.heap.size 84 vi _ 2 32 Try.underlying33 VI.out VZ.out VS.out VB.out rfl (by decide) v5 (0 + nv) _ (by rfl) (HO5.out.alloc (.cells #[.string nB, .string tB] 84)) (some ⟨w5.heap.size, 0, none⟩) 1 1 [.string nB, .string tB] (by rfl) (RdX.new w5 2 #[.string nB, .string tB] 84 rfl (by simp [Value.oneCell'])) (by unfold maxLen; omega) (by omega) (HB5.out.alloc HB5.out.size _).size ?_; intro v6 w6 own6 g6 loc6; rw [Nat.zero_add, List.nil_append] at own6; obtain ⟨A6, c6, rfl⟩ := own_slice own6; have HB6 := Lib.hid ((HB5.out.alloc HB5.out.size (.cells #[.string nB, .string tB] 84)).grown g6 (HB5.out.alloc HB5.out.size _).size (fun k hk => (HO5.out.lt k hk).1)); have HO6 := Lib.hid own6; have hH6 := HH.out.below HB6.out; have r0 := hH6.cells.1; have r1 : w6.frozen? ⟨w.heap.size, 0, none⟩ = false := (by have kx := hH6.kx; simp [World.frozen?, kx]); clear own6 g6 loc6 hH6)
            | (refine step_append_rd _ (by rfl) (.tmp 128) (.tmp 137) _ (by rfl) w2.heap.size 84 vi _ 2 32 Try.underlying33 VI.out VZ.out VS.out VB.out rfl (by decide) v5b (0 + nv) _ (by rfl) HO5b.out (some ⟨w2.heap.size, 0, none⟩) 1 1 [.string nB, .string tB] (by rfl) HXN5.out (by unfold maxLen; omega) (by omega) HB5b.out.size ?_; intro v6 w6 own6 g6 loc6; rw [Nat.zero_add, List.nil_append] at own6; obtain ⟨A6, c6, rfl⟩ := own_slice own6; have HB6 := Lib.hid (HB5b.out.grown g6 HB5b.out.size (fun k hk => (HO5b.out.lt k hk).1)); have HO6 := Lib.hid own6; have hH6 := HH.out.below HB6.out; have r0 := hH6.cells.1; have r1 : w6.frozen? ⟨w.heap.size, 0, none⟩ = false := (by have kx := hH6.kx; simp [World.frozen?, kx]); clear own6 g6 loc6 hH6))
        all_goals (
          have hH7 := (HH.out.below HB6.out).setV (.slice A6 (nv + 1) c6)
          have HO7 := Lib.hid ((HH.out.below HB6.out).own 0 (.slice A6 (nv + 1) c6) HO6.out (by decide))
          have HH7 := Lib.hid hH7
          obtain ⟨m0, m1, m2, n0, n1, n2, o0, o1, o2⟩ := hH7.cells
          clear hH7
          obtain ⟨g0, g1, g2, gb⟩ := HH7.out.ret
          have HGB := Lib.hid gb
          clear gb
          go_wp2
          refine bodyPost_ret (v := .tuple #[.agg #[.slice A6 (nv + 1) c6, .slice Ar nr cr, .slice Ap np cp], .int .i64 0]) ?_ rfl ?_
          · simp [results, Try.f19, go_sem, g0, g1, g2]
          · exact LnPost.var HX.out hw2 HGB.out (by have := HH7.out.ownRet HO7.out (by decide); rw [List.length_append, HNV.out, fcells_append]; exact this))
end Go.Proofs.Ytlkpbpecgdphaaa
namespace Go.Proofs.Ytlkpbpecgdphaaa
open Go.RowKit

theorem snoc_len {α : Type} (l : List α) (p : Nat) (h : l.length = p + 1) : ∃ l0 x, l = l0 ++ [x] ∧ l0.length = p := by
  have hne : l ≠ [] := fun e => by rw [e] at h; simp at h
  exact ⟨l.dropLast, l.getLast hne, (List.dropLast_concat_getLast hne).symm, by rw [List.length_dropLast]; omega⟩
theorem rcells_set (R : List Row3) (x : Row3) (c' : Value) : (rcells (R ++ [x])).set (R.length * 3 + 2) c' = rcells (R ++ [(x.1, x.2.1, c')]) := by
  rw [rcells_append, rcells_append, List.set_append_right _ _ (by rw [rcells_len]; omega), rcells_len]
  rw [show R.length * 3 + 2 - R.length * 3 = 2 by omega]
  rfl
theorem MkRd.cmd {W : World} {m : Mk} {vv vr vp v' c' : Value} {R0 : List Row3} {x : Row3} {r0 : List Ru} {u : Ru} {t : ByteArray} {B B7 : Nat} (h : MkRd W m vv vr vp (R0 ++ [x])) (hm : m.rules = r0 ++ [u])
    (ho : W.ownsRow B 81 3 v' (R0 ++ [x]).length (rcells (R0 ++ [(x.1, x.2.1, c')]))) (h7 : Own1 W B7 c' (u.2.2 ++ [t])) : MkRd W { m with rules := moreCmd m.rules t } vv v' vp (R0 ++ [(x.1, x.2.1, c')]) := by
  have hlen : R0.length = r0.length := by have := h.len; rw [hm] at this; simpa using this
  have hml : (R0 ++ [(x.1, x.2.1, c')]).length = (R0 ++ [x]).length := by simp
  refine ⟨h.vars, ?_, ?_, fun i y v hy hv => ?_, h.phony⟩
  · have := RdR.of_own (R := R0 ++ [(x.1, x.2.1, c')]) (by rw [hml]; exact ho)
    exact this
  · rw [hm, moreCmd_snoc]; simp [hlen]
  · rw [hm, moreCmd_snoc] at hv
    rcases Nat.lt_or_ge i R0.length with hi | hi
    · rw [List.getElem?_append_left hi] at hy
      rw [List.getElem?_append_left (by rw [← hlen]; exact hi)] at hv
      exact h.each i y v (by rw [List.getElem?_append_left hi]; exact hy) (by rw [hm, List.getElem?_append_left (by rw [← hlen]; exact hi)]; exact hv)
    · rw [List.getElem?_append_right hi] at hy
      rw [List.getElem?_append_right (by rw [← hlen]; exact hi)] at hv
      rw [← hlen] at hv
      cases hk : i - R0.length with
      | zero =>
        rw [hk] at hy hv
        simp at hy hv
        subst hy
        subst hv
        obtain ⟨a, b, _⟩ := h.each R0.length x u (by simp) (by rw [hm, hlen]; simp)
        exact ⟨a, b, Sl.own h7⟩
      | succ k => rw [hk] at hy; simp at hy
theorem LnPost.cmd {m : Mk} {vv vr vp v' c' : Value} {R0 : List Row3} {x : Row3} {r0 : List Ru} {u : Ru} {t : ByteArray} {w w' : World} {B : Nat} {r : Nat × Mk} (hr : r = (0, { m with rules := moreCmd m.rules t })) (hm : m.rules = r0 ++ [u]) (hB : w.heap.size ≤ B) (hb : Below w.heap.size w w')
    (ho : w'.ownsRow B 81 3 v' (R0 ++ [x]).length (rcells (R0 ++ [(x.1, x.2.1, c')]))) (h7 : Own1 w' B c' (u.2.2 ++ [t])) : LnPost r m vv vr vp (R0 ++ [x]) w (.returned (.tuple #[.agg #[vv, v', vp], .int .i64 0])) w' :=
  ⟨vv, v', vp, _, by rw [hr]; rfl, hb, fun X hX h W hs hk => by
    have hk' : ∀ b, B ≤ b → b < w'.heap.size → W.heap[b]? = w'.heap[b]? := fun b h1 h2 => hk b h2 (fun hx => by have := hX b hx; omega)
    rw [hr]
    exact (h.below hb W hs hk).cmd hm (own_far ho hk') (own_far h7 hk')⟩
theorem Hd.grow {w W W' : World} {vv vr vp : Value} {g : Nat} (h : Hd w W vv vr vp) (hg : W.grownBy W' (some g)) (hne : w.heap.size + 1 < g) : Hd w W' vv vr vp :=
  ⟨(hg.block _ (by have := h.lt; omega) (fun e => by injection e with e; omega)).trans h.kx, (hg.block _ h.lt (fun e => by injection e with e; omega)).trans h.ky, h.bel.grown hg h.bel.size (fun k hk => by injection hk with hk; omega)⟩
end Go.Proofs.Ytlkpbpecgdphaaa
