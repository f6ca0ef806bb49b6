/-
  WALK: hammerpondref.lined at a command's line.
-/
import Derived.Test.YtlkpbpecgdphaaaGreatDoorHd
import Derived.Deep.DeepCutAuto
namespace Go.Proofs.YtlkpbpecgdphaaaGreatDoor
open Go.RowKit

theorem head_cons (s : ByteArray) (h : 0 < s.size) : s.data.toList = s[0] :: s.data.toList.drop 1 := by
  have := drop_at s h
  rwa [List.drop_zero] at this
theorem noteB_nil' {s : ByteArray} (h : s.size = 0) : noteB s = true := by
  have : s.data.toList = [] := List.eq_nil_of_length_eq_zero (by simpa using h)
  unfold noteB
  rw [this]
theorem noteB_cons {s : ByteArray} (h : 0 < s.size) : noteB s = decide (s[0] = 35) := by
  unfold noteB
  rw [head_cons s h]
theorem tab_cons {s : ByteArray} (h : 0 < s.size) : Lib.hasPrefix s.data.toList [9] = decide (s[0] = 9) := by
  unfold Lib.hasPrefix
  rw [head_cons s h]
  simp [List.isPrefixOf]
  rw [Bool.eq_iff_iff]
  simp
  exact eq_comm
def phB : Bs := [112, 104, 111, 110, 121, 32]
theorem ph_short {s : ByteArray} (h : ¬ 5 < s.size) : Lib.hasPrefix s.data.toList phB = false := by
  unfold Lib.hasPrefix
  rw [Bool.eq_false_iff]
  intro e
  rw [List.isPrefixOf_iff_prefix] at e
  have := e.length_le
  simp [phB] at this
  omega
theorem ph_long {s : ByteArray} (_h : 5 < s.size) : ((s.extract 0 6).toList == phB) = Lib.hasPrefix s.data.toList phB := by
  unfold Lib.hasPrefix
  rw [Lib.extract_toList, Bool.eq_iff_iff, beq_iff_eq, List.isPrefixOf_iff_prefix, List.prefix_iff_eq_take]
  simp [phB]
  exact eq_comm
theorem byte_eqk {b k : UInt8} {z : Int} (hz : (k.toNat : Int) = z) : ((b.toNat : Int) == z) = decide (b = k) := by
  rw [← hz, Bool.eq_iff_iff, beq_iff_eq, decide_eq_true_iff]
  constructor
  · intro h; exact UInt8.toNat_inj.1 (by omega)
  · rintro rfl; rfl
theorem toList_e {s : ByteArray} (h : s.size = 0) : (s.toList == []) = true := by
  have : s.toList.length = 0 := by rw [Lib.toList_data]; simpa using h
  rw [List.eq_nil_of_length_eq_zero this]; rfl
theorem toList_ne {s : ByteArray} (h : 0 < s.size) : (s.toList == []) = false := by
  rw [beq_eq_false_iff_ne, Lib.toList_data]
  intro e
  have h1 : s.data.toList.length = s.size := by simp
  rw [e] at h1
  simp at h1
  omega
theorem LnPost.phony {m : Mk} {vv vr vp v' : Value} {R : List Row3} {x : ByteArray} {w w' : World} {B : Nat} {r : Nat × Mk} (hr : r = (0, { m with phony := m.phony ++ [x] })) (hB : w.heap.size ≤ B) (hb : Below w.heap.size w w')
    (ho : Own1 w' B v' (m.phony ++ [x])) : LnPost r m vv vr vp R w (.returned (.tuple #[.agg #[vv, vr, v'], .int .i64 0])) w' :=
  ⟨vv, vr, v', R, by rw [hr]; rfl, hb, fun X hX h W hs hk => by
    have hk' : ∀ b, B ≤ b → b < w'.heap.size → W.heap[b]? = w'.heap[b]? := fun b h1 h2 => hk b h2 (fun hx => by have := hX b hx; omega)
    have h1 := h.below hb W hs hk
    rw [hr]
    exact ⟨h1.vars, h1.rules, h1.len, h1.each, Sl.own (own_far ho hk')⟩⟩
theorem LnPost.var {m : Mk} {vv vr vp v' : Value} {R : List Row3} {x : F} {w w' : World} {B : Nat} {r : Nat × Mk} (hr : r = (0, { m with vars := m.vars ++ [x] })) (hB : w.heap.size ≤ B) (hb : Below w.heap.size w w')
    (ho : w'.ownsRow B 117 2 v' (m.vars ++ [x]).length (fcells (m.vars ++ [x]))) : LnPost r m vv vr vp R w (.returned (.tuple #[.agg #[v', vr, vp], .int .i64 0])) w' :=
  ⟨v', vr, vp, R, by rw [hr]; rfl, hb, fun X hX h W hs hk => by
    have hk' : ∀ b, B ≤ b → b < w'.heap.size → W.heap[b]? = w'.heap[b]? := fun b h1 h2 => hk b h2 (fun hx => by have := hX b hx; omega)
    have h1 := h.below hb W hs hk
    rw [hr]
    exact ⟨RdF.of_own (own_far ho hk'), h1.rules, h1.len, h1.each, h1.phony⟩⟩

set_option maxHeartbeats 4000000 in
set_option maxRecDepth 100000 in
theorem lined_note (m : Mk) (vv vr vp : Value) (R : List Row3) (s : ByteArray) (w : World) (h : MkRd w m vv vr vp R) (hs : Sane m 700) (hf : Few m) (hz : s.size ≤ 600) (hnote : noteB s = true) :
    Calls Tryz.prog 34 #[.agg #[vv, vr, vp], .string s] w (LnPost (lineR m s) m vv vr vp R w) := by
  obtain ⟨Av, cv, rfl, hrv⟩ := h.vars
  obtain ⟨Ar, cr, rfl, hrr⟩ := h.rules
  obtain ⟨Ap, cp, rfl, hrp⟩ := h.phony
  obtain ⟨r, hr⟩ : ∃ r, r = lineR m s := ⟨_, rfl⟩
  rw [← hr]
  have HR := Lib.hid hr
  have hlr := h.len
  have hnr : R.length ≤ 10 := by rw [hlr]; exact hf.rules
  have HL := Lib.hid hlr
  have HF := Lib.hid hf
  have HSA := Lib.hid hs
  have hnv6 : m.vars.length ≤ 6 := hf.vars
  have hnp7 : m.phony.length ≤ 700 := hs.phony
  have HM := Lib.hid h
  clear hr hlr hs hf h
  generalize hnr0 : R.length = nr at *
  have HNR := Lib.hid hnr0
  generalize hnp0 : m.phony.length = np at *
  have HNP := Lib.hid hnp0
  generalize hnv0 : m.vars.length = nv at *
  have HNV := Lib.hid hnv0
  clear hnr0 hnp0 hnv0
  have hH := Hd.start w (.slice Av nv cv) (.slice Ar nr cr) (.slice Ap np cp)
  have HH := Lib.hid hH
  have HRV := Lib.hid (hrv.belowS hH.bel)
  have HRR := Lib.hid (hrr.belowS hH.bel)
  have HRP := Lib.hid (hrp.belowS hH.bel)
  obtain ⟨c0, c1, c2, d0, d1, d2, f0, f1, f2⟩ := hH.cells
  have hlt0 := hH.lt
  have hw2 := hH.bel.size
  clear hH hrv hrr hrp
  have HX := Lib.hid (show r = (0, m) by rw [HR.out]; exact lineR_note m s hnote)
  by_cases hs0 : s.size = 0
  · have t1 := toList_e hs0
    clear hnote
    have HS0 := Lib.hid hs0
    clear hs0
    go_enter Tryz.func34, Tryz.ntmps34
    go_upto_region 1 with fail
    generalize (w.alloc (.cells #[.slice Av nv cv, .slice Ar nr cr, .slice Ap np cp] 29)).alloc (.cells #[.slice none 0 0, .slice none 0 0, .slice none 0 0] 29) = w2 at *
    obtain ⟨g0, g1, g2, gb⟩ := HH.out.ret
    have HGB := Lib.hid gb
    clear gb
    go_wp2
    refine bodyPost_ret (v := .tuple #[.agg #[.slice Av nv cv, .slice Ar nr cr, .slice Ap np cp], .int .i64 0]) ?_ rfl ?_
    · simp [results, Tryz.f34, go_sem, g0, g1, g2]
    · exact LnPost.same (k := 0) HX.out HGB.out
  · have hpos : 0 < s.size := by omega
    have hposz : (0 : Int) < (s.size : Int) := by omega
    have t1 := toList_ne hpos
    have t2 : ((s[0].toNat : Int) == 35) = true := by rw [byte_eqk (k := 35) (z := 35) rfl, ← noteB_cons hpos]; exact hnote
    clear hnote
    go_enter Tryz.func34, Tryz.ntmps34
    go_upto_region 1 with fail
    generalize (w.alloc (.cells #[.slice Av nv cv, .slice Ar nr cr, .slice Ap np cp] 29)).alloc (.cells #[.slice none 0 0, .slice none 0 0, .slice none 0 0] 29) = w2 at *
    obtain ⟨g0, g1, g2, gb⟩ := HH.out.ret
    have HGB := Lib.hid gb
    clear gb
    go_wp2
    refine bodyPost_ret (v := .tuple #[.agg #[.slice Av nv cv, .slice Ar nr cr, .slice Ap np cp], .int .i64 0]) ?_ rfl ?_
    · simp [results, Tryz.f34, go_sem, g0, g1, g2]
    · exact LnPost.same (k := 0) HX.out HGB.out

set_option maxHeartbeats 4000000 in
set_option maxRecDepth 100000 in
theorem lined_phony (m : Mk) (vv vr vp : Value) (R : List Row3) (s : ByteArray) (w : World) (h : MkRd w m vv vr vp R) (hs : Sane m 700) (hf : Few m) (hz : s.size ≤ 600) (hnote : noteB s = false) (htab : Lib.hasPrefix s.data.toList [9] = false) (hph : Lib.hasPrefix s.data.toList phB = true) :
    Calls Tryz.prog 34 #[.agg #[vv, vr, vp], .string s] w (LnPost (lineR m s) m vv vr vp R w) := by
  obtain ⟨Av, cv, rfl, hrv⟩ := h.vars
  obtain ⟨Ar, cr, rfl, hrr⟩ := h.rules
  obtain ⟨Ap, cp, rfl, hrp⟩ := h.phony
  obtain ⟨r, hr⟩ : ∃ r, r = lineR m s := ⟨_, rfl⟩
  rw [← hr]
  have HR := Lib.hid hr
  have hlr := h.len
  have hnr : R.length ≤ 10 := by rw [hlr]; exact hf.rules
  have HL := Lib.hid hlr
  have HF := Lib.hid hf
  have HSA := Lib.hid hs
  have hnv6 : m.vars.length ≤ 6 := hf.vars
  have hnp7 : m.phony.length ≤ 700 := hs.phony
  have HM := Lib.hid h
  clear hr hlr hs hf h
  generalize hnr0 : R.length = nr at *
  have HNR := Lib.hid hnr0
  generalize hnp0 : m.phony.length = np at *
  have HNP := Lib.hid hnp0
  generalize hnv0 : m.vars.length = nv at *
  have HNV := Lib.hid hnv0
  clear hnr0 hnp0 hnv0
  have hH := Hd.start w (.slice Av nv cv) (.slice Ar nr cr) (.slice Ap np cp)
  have HH := Lib.hid hH
  have HRV := Lib.hid (hrv.belowS hH.bel)
  have HRR := Lib.hid (hrr.belowS hH.bel)
  have HRP := Lib.hid (hrp.belowS hH.bel)
  obtain ⟨c0, c1, c2, d0, d1, d2, f0, f1, f2⟩ := hH.cells
  have hlt0 := hH.lt
  have hw2 := hH.bel.size
  clear hH hrv hrr hrp
  have hpos : 0 < s.size := by
    rcases Nat.eq_zero_or_pos s.size with h | h
    · rw [noteB_nil' h] at hnote; cases hnote
    · exact h
  have hx := HR.out
  unfold lineR at hx
  rw [if_neg (by rw [hnote]; simp), if_neg (by rw [htab]; simp), if_pos (show Lib.hasPrefix s.data.toList [112, 104, 111, 110, 121, 32] = true from hph)] at hx
  have HX := Lib.hid hx
  clear hx
  have hposz : (0 : Int) < (s.size : Int) := by omega
  have h5 : 5 < s.size := by
    rcases Nat.lt_or_ge 5 s.size with h | h
    · exact h
    · rw [ph_short (by omega)] at hph; cases hph
  have h5z : (5 : Int) < (s.size : Int) := by omega
  have h6z : (6 : Int) ≤ (s.size : Int) := by omega
  have t1 := toList_ne hpos
  have t2 : ((s[0].toNat : Int) == 35) = false := by rw [byte_eqk (k := 35) (z := 35) rfl, ← noteB_cons hpos]; exact hnote
  have t3 : ((s[0].toNat : Int) == 9) = false := by rw [byte_eqk (k := 9) (z := 9) rfl, ← tab_cons hpos]; exact htab
  have t4 : ((s.extract 0 6).toList == [112, 104, 111, 110, 121, 32]) = true := (ph_long h5).trans hph
  clear hnote htab hph
  generalize hne : s.extract 6 s.size = nm at *
  have hnz : nm.size ≤ 600 := by rw [← hne, ByteArray.size_extract]; omega
  go_enter Tryz.func34, Tryz.ntmps34
  go_upto_region 1 with fail
  generalize (w.alloc (.cells #[.slice Av nv cv, .slice Ar nr cr, .slice Ap np cp] 29)).alloc (.cells #[.slice none 0 0, .slice none 0 0, .slice none 0 0] 29) = w2 at *
  go_wp2_with fail
  refine (nameMay_any nm w2 (by omega)).mono ?_
  rintro e w' ⟨rfl, rfl⟩
  go_wp2_with fail
  refine (in_any Ap np cp m.phony nm w2 HRP.out (by omega)).mono ?_
  rintro e w' ⟨rfl, rfl⟩
  have hx := HX.out
  unfold phonyR at hx
  have HX1 := Lib.hid hx
  clear hx HX
  cases hn1 : nameB nm with
  | false =>
    have HX := Lib.hid (HX1.out.trans (if_pos (.inl hn1)))
    obtain ⟨g0, g1, g2, gb⟩ := HH.out.ret
    have HGB := Lib.hid gb
    clear gb
    go_wp2
    refine bodyPost_ret (v := .tuple #[.agg #[.slice Av nv cv, .slice Ar nr cr, .slice Ap np cp], .int .i64 3]) ?_ rfl ?_
    · simp [results, Tryz.f34, go_sem, g0, g1, g2]
    · exact LnPost.same (k := 3) HX.out HGB.out
  | true =>
    cases hn2 : inT m.phony nm with
    | true =>
      have HX := Lib.hid (HX1.out.trans (if_pos (.inr hn2)))
      obtain ⟨g0, g1, g2, gb⟩ := HH.out.ret
      have HGB := Lib.hid gb
      clear gb
      go_wp2
      refine bodyPost_ret (v := .tuple #[.agg #[.slice Av nv cv, .slice Ar nr cr, .slice Ap np cp], .int .i64 3]) ?_ rfl ?_
      · simp [results, Tryz.f34, go_sem, g0, g1, g2]
      · exact LnPost.same (k := 3) HX.out HGB.out
    | false =>
      have HX := Lib.hid (HX1.out.trans (if_neg (by rw [hn1, hn2]; simp)))
      obtain ⟨ti, hti, htz, hts, htb⟩ := text_parts
      have TI := Lib.hid hti
      have TZ := Lib.hid htz
      have TS := Lib.hid hts
      have TB := Lib.hid htb
      have HXP := Lib.hid HRP.out.x
      have k0 : Below w2.heap.size w2 w2 := Below.refl _ _
      have HK0 := Lib.hid k0
      have hbx2 : w.heap.size < w2.heap.size := World.block_lt_of_cell? _ _ c0
      clear hti htz hts htb k0
      go_wp2_with (at_builtin; refine wpList_append_rd _ rfl (.const (.slice none 0 0)) (.tmp 103) _ rfl w2.heap.size 9 ti _ 1 16 Tryz.underlying27 TI.out TZ.out TS.out TB.out rfl (by decide) (.slice none 0 0) 0 [] rfl (World.ownsRow_nil _ _ _ _) Ap np cp (tcells m.phony) rfl HXP.out ?_ ?_ ?_ ?_)
      · unfold maxLen; omega
      · omega
      · exact Nat.le_refl _
      intro v5 w5 own5 g5 loc5
      try rw [Nat.zero_add, List.nil_append] at own5
      have HB5 := Lib.hid (HK0.out.grown g5 (Nat.le_refl _) (fun k hk => by cases hk))
      have HO5 := Lib.hid own5
      have HO5a := Lib.hid (own5.alloc (.cells #[.string nm] 9))
      have HB5a := Lib.hid (HB5.out.alloc HB5.out.size (.cells #[.string nm] 9))
      have HXN := Lib.hid (RdX.new w5 1 #[.string nm] 9 rfl (by simp [Value.oneCell']))
      clear own5 g5 loc5
      go_wp2_with (at_builtin; refine wpList_append_rd _ rfl (.tmp 104) (.tmp 106) _ rfl w2.heap.size 9 ti _ 1 16 Tryz.underlying27 TI.out TZ.out TS.out TB.out rfl (by decide) _ np _ rfl HO5a.out _ 1 1 _ rfl HXN.out ?_ ?_ ?_ ?_)
      · unfold maxLen; omega
      · omega
      · simpa using HB5a.out.size
      intro v6 w6 own6 g6 loc6
      have HB6 := Lib.hid (HB5a.out.grown g6 HB5a.out.size (fun k hk => (HO5.out.lt k hk).1))
      obtain ⟨A6, c6, rfl⟩ := own_slice own6
      have HO6 := Lib.hid own6
      have hH6 := HH.out.below HB6.out
      have r0 := hH6.cells.2.2.1
      have r1 : w6.frozen? ⟨w.heap.size, 2, none⟩ = false := by have kx := hH6.kx; simp [World.frozen?, kx]
      have hH7 := hH6.setP (.slice A6 (np + 1) c6)
      have HO7 := Lib.hid (hH6.own 2 (.slice A6 (np + 1) c6) own6 (by decide))
      have HH7 := Lib.hid hH7
      obtain ⟨m0, m1, m2, n0, n1, n2, o0, o1, o2⟩ := hH7.cells
      clear own6 g6 loc6 hH6 hH7
      obtain ⟨g0, g1, g2, gb⟩ := HH7.out.ret
      have HGB := Lib.hid gb
      clear gb
      go_wp2
      refine bodyPost_ret (v := .tuple #[.agg #[.slice Av nv cv, .slice Ar nr cr, .slice A6 (np + 1) c6], .int .i64 0]) ?_ rfl ?_
      · simp [results, Tryz.f34, go_sem, g0, g1, g2]
      · exact LnPost.phony HX.out hw2 HGB.out (by have := HH7.out.ownRet HO7.out (by decide); unfold Own1; rw [List.length_append, HNP.out, tcells, List.map_append]; exact this)
end Go.Proofs.YtlkpbpecgdphaaaGreatDoor
namespace Go.Proofs.YtlkpbpecgdphaaaGreatDoor
open Go.RowKit


set_option maxHeartbeats 4000000 in
set_option maxRecDepth 100000 in
theorem lined_var (m : Mk) (vv vr vp : Value) (R : List Row3) (s : ByteArray) (w : World) (h : MkRd w m vv vr vp R) (hs : Sane m 700) (hf : Few m) (hz : s.size ≤ 600) (hnote : noteB s = false) (htab : Lib.hasPrefix s.data.toList [9] = false) (hph : Lib.hasPrefix s.data.toList phB = false) (hcut : (Lib.cut s.data.toList [32, 61, 32]).2.2 = true) :
    Calls Tryz.prog 34 #[.agg #[vv, vr, vp], .string s] w (LnPost (lineR m s) m vv vr vp R w) := by
  obtain ⟨Av, cv, rfl, hrv⟩ := h.vars
  obtain ⟨Ar, cr, rfl, hrr⟩ := h.rules
  obtain ⟨Ap, cp, rfl, hrp⟩ := h.phony
  obtain ⟨r, hr⟩ : ∃ r, r = lineR m s := ⟨_, rfl⟩
  rw [← hr]
  have HR := Lib.hid hr
  have hlr := h.len
  have hnr : R.length ≤ 10 := by rw [hlr]; exact hf.rules
  have HL := Lib.hid hlr
  have HF := Lib.hid hf
  have HSA := Lib.hid hs
  have hnv6 : m.vars.length ≤ 6 := hf.vars
  have hnp7 : m.phony.length ≤ 700 := hs.phony
  have HM := Lib.hid h
  clear hr hlr hs hf h
  generalize hnr0 : R.length = nr at *
  have HNR := Lib.hid hnr0
  generalize hnp0 : m.phony.length = np at *
  have HNP := Lib.hid hnp0
  generalize hnv0 : m.vars.length = nv at *
  have HNV := Lib.hid hnv0
  clear hnr0 hnp0 hnv0
  have hH := Hd.start w (.slice Av nv cv) (.slice Ar nr cr) (.slice Ap np cp)
  have HH := Lib.hid hH
  have HRV := Lib.hid (hrv.belowS hH.bel)
  have HRR := Lib.hid (hrr.belowS hH.bel)
  have HRP := Lib.hid (hrp.belowS hH.bel)
  obtain ⟨c0, c1, c2, d0, d1, d2, f0, f1, f2⟩ := hH.cells
  have hlt0 := hH.lt
  have hw2 := hH.bel.size
  clear hH hrv hrr hrp
  have hpos : 0 < s.size := by
    rcases Nat.eq_zero_or_pos s.size with h | h
    · rw [noteB_nil' h] at hnote; cases hnote
    · exact h
  obtain ⟨vi, hvi, hvz, hvs, hvb⟩ := var_parts
  have VI := Lib.hid hvi
  have VZ := Lib.hid hvz
  have VS := Lib.hid hvs
  have VB := Lib.hid hvb
  clear hvi hvz hvs hvb
  obtain ⟨i, ei, hil, ec⟩ := cut_hit hcut
  have hx := HR.out
  unfold lineR at hx
  rw [if_neg (by rw [hnote]; simp), if_neg (by rw [htab]; simp), if_neg (by show ¬ Lib.hasPrefix s.data.toList phB = true; rw [hph]; simp), if_pos hcut, ec] at hx
  simp only [List.length_cons, List.length_nil, Nat.zero_add] at hx hil
  have hil' : i + 3 ≤ s.size := by simp at hil; omega
  have HFI := Lib.hid (show findR s.data.toList [32, 61, 32] 0 = (i : Int) by unfold findR; rw [List.drop_zero, ei, if_neg (by omega)]; simp)
  have e1 : ba (s.data.toList.take i) = s.extract 0 i := by rw [← ba_of (s.extract 0 i), Lib.extract_data]; simp
  have e2 : ba (s.data.toList.drop (i + 3)) = s.extract (i + 3) s.size := by rw [← ba_of (s.extract (i + 3) s.size), Lib.extract_data, List.take_of_length_le (by simp)]
  rw [show i + (1 + 1 + 1) = i + 3 by omega, e1, e2] at hx
  clear ei ec e1 e2 hcut hil
  have hposz : (0 : Int) < (s.size : Int) := by omega
  have t1 := toList_ne hpos
  have t2 : ((s[0].toNat : Int) == 35) = false := by rw [byte_eqk (k := 35) (z := 35) rfl, ← noteB_cons hpos]; exact hnote
  have t3 : ((s[0].toNat : Int) == 9) = false := by rw [byte_eqk (k := 9) (z := 9) rfl, ← tab_cons hpos]; exact htab
  have hi0 : (0 : Int) ≤ (i : Int) := by omega
  have hi1 : (i : Int) ≤ (s.size : Int) := by omega
  have hwr : IntKind.i64.wrap ((i : Int) + 3) = (i : Int) + 3 := by rw [IntKind.wrap_i64]; omega
  have h03 : (0 : Int) ≤ (i : Int) + 3 := by omega
  have hi3 : (i : Int) + 3 ≤ (s.size : Int) := by omega
  generalize hne : s.extract 0 i = nB at *
  generalize hte : s.extract (i + 3) s.size = tB at *
  have hte2 : s.extract ((i : Int) + 3).toNat s.size = tB := by rw [show ((i : Int) + 3).toNat = i + 3 by omega]; exact hte
  have hnz : nB.size ≤ 600 := by rw [← hne, ByteArray.size_extract]; omega
  unfold varR at hx
  have HX1 := Lib.hid hx
  clear hx hnote htab
  by_cases h5 : 5 < s.size
  · have h5z : (5 : Int) < (s.size : Int) := by omega
    have h6z : (6 : Int) ≤ (s.size : Int) := by omega
    have t4 : ((s.extract 0 6).toList == [112, 104, 111, 110, 121, 32]) = false := (ph_long h5).trans hph
    clear hph
    go_enter Tryz.func34, Tryz.ntmps34
    go_upto_region 1 with fail
    generalize (w.alloc (.cells #[.slice Av nv cv, .slice Ar nr cr, .slice Ap np cp] 29)).alloc (.cells #[.slice none 0 0, .slice none 0 0, .slice none 0 0] 29) = w2 at *
    go_wp2_with fail
    refine (find_any s ⟨#[32, 61, 32]⟩ 0 w2 (by decide) (by decide) (by omega) (by omega)).mono ?_
    rintro e w' ⟨rfl, rfl⟩
    rw [show (⟨#[32, 61, 32]⟩ : ByteArray).data.toList = [32, 61, 32] from rfl, HFI.out]
    go_wp2_with fail
    refine (varMay_any nB w2 (by omega)).mono ?_
    rintro e w' ⟨rfl, rfl⟩
    cases hvo : varOk nB with
    | false =>
      have HX := Lib.hid (HX1.out.trans (if_pos hvo))
      obtain ⟨g0, g1, g2, gb⟩ := HH.out.ret
      have HGB := Lib.hid gb
      clear gb
      go_wp2
      refine bodyPost_ret (v := .tuple #[.agg #[.slice Av nv cv, .slice Ar nr cr, .slice Ap np cp], .int .i64 3]) ?_ rfl ?_
      · simp [results, Tryz.f34, go_sem, g0, g1, g2]
      · exact LnPost.same (k := 3) HX.out HGB.out
    | true =>
      have hx := HX1.out
      rw [if_neg (by rw [hvo]; simp), HNV.out] at hx
      have HX2 := Lib.hid hx
      clear hx
      by_cases h6 : 6 ≤ nv
      · have t6 : ((nv : Int) == 6) = true := by rw [beq_iff_eq]; omega
        have HX := Lib.hid (HX2.out.trans (if_pos h6))
        clear h6
        obtain ⟨g0, g1, g2, gb⟩ := HH.out.ret
        have HGB := Lib.hid gb
        clear gb
        go_wp2
        refine bodyPost_ret (v := .tuple #[.agg #[.slice Av nv cv, .slice Ar nr cr, .slice Ap np cp], .int .i64 2]) ?_ rfl ?_
        · simp [results, Tryz.f34, go_sem, g0, g1, g2]
        · exact LnPost.same (k := 2) HX.out HGB.out
      · have t6 : ((nv : Int) == 6) = false := by rw [beq_eq_false_iff_ne]; omega
        have HX := Lib.hid (HX2.out.trans (if_neg h6))
        have k1 : Below w2.heap.size w2 w2.drew := (Below.refl _ _).drew
        have k2 : Below w2.heap.size w2 ((w2.alloc (.cells #[.string nB, .string tB] 117)).drew) := ((Below.refl _ _).alloc (Nat.le_refl _) _).drew
        have hbx : w.heap.size < w2.heap.size := World.block_lt_of_cell? _ _ c0
        have HK1 := Lib.hid k1
        have HK2 := Lib.hid k2
        have q3 : w2.drew.cell? ⟨w.heap.size, 0, none⟩ = some (.slice Av nv cv) := c0
        have q3a : ((w2.alloc (.cells #[.string nB, .string tB] 117)).drew).cell? ⟨w.heap.size, 0, none⟩ = some (.slice Av nv cv) := (k2.cell (p := ⟨w.heap.size, 0, none⟩) hbx).trans c0
        have HXR := Lib.hid (show RdX w2.drew 2 Av nv (fcells m.vars) from HRV.out.x)
        have HXR2 := Lib.hid (show RdX ((w2.alloc (.cells #[.string nB, .string tB] 117)).drew) 2 Av nv (fcells m.vars) from (HRV.out.belowS k2).x)
        have HXN2 := Lib.hid (show RdX ((w2.alloc (.cells #[.string nB, .string tB] 117)).drew) 2 (some ⟨w2.heap.size, 0, none⟩) 1 [.string nB, .string tB] from RdX.new w2 2 #[.string nB, .string tB] 117 rfl (by simp [Value.oneCell']))
        clear k1 k2
        go_upto_region 31 with fail
        go_region_law
          (first
            | (refine step_append_rd _ (by rfl) (.const (.slice none 0 0)) (.tmp 127) _ (by rfl) w2.heap.size 117 vi _ 2 32 Tryz.underlying25 VI.out VZ.out VS.out VB.out rfl (by decide) (.slice none 0 0) 0 [] (by rfl) (World.ownsRow_nil w2.drew _ _ _) Av nv cv (fcells m.vars) (by rfl) HXR.out (by unfold maxLen; omega) (by omega) HK1.out.size ?_; intro v5 w5 own5 g5 loc5; have HB5 := Lib.hid (HK1.out.grown g5 HK1.out.size (fun k hk => by cases hk)); have HO5 := Lib.hid own5; clear own5 g5 loc5)
            | (refine step_append_rd _ (by rfl) (.const (.slice none 0 0)) (.tmp 127) _ (by rfl) w2.heap.size 117 vi _ 2 32 Tryz.underlying25 VI.out VZ.out VS.out VB.out rfl (by decide) (.slice none 0 0) 0 [] (by rfl) (World.ownsRow_nil ((w2.alloc (.cells #[.string nB, .string tB] 117)).drew) _ _ _) Av nv cv (fcells m.vars) (by rfl) HXR2.out (by unfold maxLen; omega) (by omega) HK2.out.size ?_; intro v5b w5b own5 g5 loc5; have HB5b := Lib.hid (HK2.out.grown g5 HK2.out.size (fun k hk => by cases hk)); have HXN5 := Lib.hid (HXN2.out.keep (fun b hb => by obtain ⟨off, e⟩ := hb; injection e with e; injection e with e _; subst e; exact g5.block _ (by show w2.heap.size < (w2.alloc (.cells #[.string nB, .string tB] 117)).heap.size; simp) (by simp [Value.ownBlock]))); have HO5b := Lib.hid own5; clear own5 g5 loc5)
            | (refine step_append_rd _ (by rfl) (.tmp 128) (.tmp 137) _ (by rfl) w2.heap.size 117 vi _ 2 32 Tryz.underlying25 VI.out VZ.out VS.out VB.out rfl (by decide) v5 (0 + nv) _ (by rfl) (HO5.out.alloc (.cells #[.string nB, .string tB] 117)) (some ⟨w5.heap.size, 0, none⟩) 1 1 [.string nB, .string tB] (by rfl) (RdX.new w5 2 #[.string nB, .string tB] 117 rfl (by simp [Value.oneCell'])) (by unfold maxLen; omega) (by omega) (HB5.out.alloc HB5.out.size _).size ?_; intro v6 w6 own6 g6 loc6; rw [Nat.zero_add, List.nil_append] at own6; obtain ⟨A6, c6, rfl⟩ := own_slice own6; have HB6 := Lib.hid ((HB5.out.alloc HB5.out.size (.cells #[.string nB, .string tB] 117)).grown g6 (HB5.out.alloc HB5.out.size _).size (fun k hk => (HO5.out.lt k hk).1)); have HO6 := Lib.hid own6; have hH6 := HH.out.below HB6.out; have r0 := hH6.cells.1; have r1 : w6.frozen? ⟨w.heap.size, 0, none⟩ = false := (by have kx := hH6.kx; simp [World.frozen?, kx]); clear own6 g6 loc6 hH6)
            | (refine step_append_rd _ (by rfl) (.tmp 128) (.tmp 137) _ (by rfl) w2.heap.size 117 vi _ 2 32 Tryz.underlying25 VI.out VZ.out VS.out VB.out rfl (by decide) v5b (0 + nv) _ (by rfl) HO5b.out (some ⟨w2.heap.size, 0, none⟩) 1 1 [.string nB, .string tB] (by rfl) HXN5.out (by unfold maxLen; omega) (by omega) HB5b.out.size ?_; intro v6 w6 own6 g6 loc6; rw [Nat.zero_add, List.nil_append] at own6; obtain ⟨A6, c6, rfl⟩ := own_slice own6; have HB6 := Lib.hid (HB5b.out.grown g6 HB5b.out.size (fun k hk => (HO5b.out.lt k hk).1)); have HO6 := Lib.hid own6; have hH6 := HH.out.below HB6.out; have r0 := hH6.cells.1; have r1 : w6.frozen? ⟨w.heap.size, 0, none⟩ = false := (by have kx := hH6.kx; simp [World.frozen?, kx]); clear own6 g6 loc6 hH6))
        all_goals (
          have hH7 := (HH.out.below HB6.out).setV (.slice A6 (nv + 1) c6)
          have HO7 := Lib.hid ((HH.out.below HB6.out).own 0 (.slice A6 (nv + 1) c6) HO6.out (by decide))
          have HH7 := Lib.hid hH7
          obtain ⟨m0, m1, m2, n0, n1, n2, o0, o1, o2⟩ := hH7.cells
          clear hH7
          obtain ⟨g0, g1, g2, gb⟩ := HH7.out.ret
          have HGB := Lib.hid gb
          clear gb
          go_wp2
          refine bodyPost_ret (v := .tuple #[.agg #[.slice A6 (nv + 1) c6, .slice Ar nr cr, .slice Ap np cp], .int .i64 0]) ?_ rfl ?_
          · simp [results, Tryz.f34, go_sem, g0, g1, g2]
          · exact LnPost.var HX.out hw2 HGB.out (by have := HH7.out.ownRet HO7.out (by decide); rw [List.length_append, HNV.out, fcells_append]; exact this))
  · have h5z : decide ((5 : Int) < (s.size : Int)) = false := decide_eq_false (by omega)
    clear hph
    go_enter Tryz.func34, Tryz.ntmps34
    go_upto_region 1 with fail
    generalize (w.alloc (.cells #[.slice Av nv cv, .slice Ar nr cr, .slice Ap np cp] 29)).alloc (.cells #[.slice none 0 0, .slice none 0 0, .slice none 0 0] 29) = w2 at *
    go_wp2_with fail
    refine (find_any s ⟨#[32, 61, 32]⟩ 0 w2 (by decide) (by decide) (by omega) (by omega)).mono ?_
    rintro e w' ⟨rfl, rfl⟩
    rw [show (⟨#[32, 61, 32]⟩ : ByteArray).data.toList = [32, 61, 32] from rfl, HFI.out]
    go_wp2_with fail
    refine (varMay_any nB w2 (by omega)).mono ?_
    rintro e w' ⟨rfl, rfl⟩
    cases hvo : varOk nB with
    | false =>
      have HX := Lib.hid (HX1.out.trans (if_pos hvo))
      obtain ⟨g0, g1, g2, gb⟩ := HH.out.ret
      have HGB := Lib.hid gb
      clear gb
      go_wp2
      refine bodyPost_ret (v := .tuple #[.agg #[.slice Av nv cv, .slice Ar nr cr, .slice Ap np cp], .int .i64 3]) ?_ rfl ?_
      · simp [results, Tryz.f34, go_sem, g0, g1, g2]
      · exact LnPost.same (k := 3) HX.out HGB.out
    | true =>
      have hx := HX1.out
      rw [if_neg (by rw [hvo]; simp), HNV.out] at hx
      have HX2 := Lib.hid hx
      clear hx
      by_cases h6 : 6 ≤ nv
      · have t6 : ((nv : Int) == 6) = true := by rw [beq_iff_eq]; omega
        have HX := Lib.hid (HX2.out.trans (if_pos h6))
        clear h6
        obtain ⟨g0, g1, g2, gb⟩ := HH.out.ret
        have HGB := Lib.hid gb
        clear gb
        go_wp2
        refine bodyPost_ret (v := .tuple #[.agg #[.slice Av nv cv, .slice Ar nr cr, .slice Ap np cp], .int .i64 2]) ?_ rfl ?_
        · simp [results, Tryz.f34, go_sem, g0, g1, g2]
        · exact LnPost.same (k := 2) HX.out HGB.out
      · have t6 : ((nv : Int) == 6) = false := by rw [beq_eq_false_iff_ne]; omega
        have HX := Lib.hid (HX2.out.trans (if_neg h6))
        have k1 : Below w2.heap.size w2 w2.drew := (Below.refl _ _).drew
        have k2 : Below w2.heap.size w2 ((w2.alloc (.cells #[.string nB, .string tB] 117)).drew) := ((Below.refl _ _).alloc (Nat.le_refl _) _).drew
        have hbx : w.heap.size < w2.heap.size := World.block_lt_of_cell? _ _ c0
        have HK1 := Lib.hid k1
        have HK2 := Lib.hid k2
        have q3 : w2.drew.cell? ⟨w.heap.size, 0, none⟩ = some (.slice Av nv cv) := c0
        have q3a : ((w2.alloc (.cells #[.string nB, .string tB] 117)).drew).cell? ⟨w.heap.size, 0, none⟩ = some (.slice Av nv cv) := (k2.cell (p := ⟨w.heap.size, 0, none⟩) hbx).trans c0
        have HXR := Lib.hid (show RdX w2.drew 2 Av nv (fcells m.vars) from HRV.out.x)
        have HXR2 := Lib.hid (show RdX ((w2.alloc (.cells #[.string nB, .string tB] 117)).drew) 2 Av nv (fcells m.vars) from (HRV.out.belowS k2).x)
        have HXN2 := Lib.hid (show RdX ((w2.alloc (.cells #[.string nB, .string tB] 117)).drew) 2 (some ⟨w2.heap.size, 0, none⟩) 1 [.string nB, .string tB] from RdX.new w2 2 #[.string nB, .string tB] 117 rfl (by simp [Value.oneCell']))
        clear k1 k2
        go_upto_region 31 with fail
        go_region_law
          (first
            | (refine step_append_rd _ (by rfl) (.const (.slice none 0 0)) (.tmp 127) _ (by rfl) w2.heap.size 117 vi _ 2 32 Tryz.underlying25 VI.out VZ.out VS.out VB.out rfl (by decide) (.slice none 0 0) 0 [] (by rfl) (World.ownsRow_nil w2.drew _ _ _) Av nv cv (fcells m.vars) (by rfl) HXR.out (by unfold maxLen; omega) (by omega) HK1.out.size ?_; intro v5 w5 own5 g5 loc5; have HB5 := Lib.hid (HK1.out.grown g5 HK1.out.size (fun k hk => by cases hk)); have HO5 := Lib.hid own5; clear own5 g5 loc5)
            | (refine step_append_rd _ (by rfl) (.const (.slice none 0 0)) (.tmp 127) _ (by rfl) w2.heap.size 117 vi _ 2 32 Tryz.underlying25 VI.out VZ.out VS.out VB.out rfl (by decide) (.slice none 0 0) 0 [] (by rfl) (World.ownsRow_nil ((w2.alloc (.cells #[.string nB, .string tB] 117)).drew) _ _ _) Av nv cv (fcells m.vars) (by rfl) HXR2.out (by unfold maxLen; omega) (by omega) HK2.out.size ?_; intro v5b w5b own5 g5 loc5; have HB5b := Lib.hid (HK2.out.grown g5 HK2.out.size (fun k hk => by cases hk)); have HXN5 := Lib.hid (HXN2.out.keep (fun b hb => by obtain ⟨off, e⟩ := hb; injection e with e; injection e with e _; subst e; exact g5.block _ (by show w2.heap.size < (w2.alloc (.cells #[.string nB, .string tB] 117)).heap.size; simp) (by simp [Value.ownBlock]))); have HO5b := Lib.hid own5; clear own5 g5 loc5)
            | (refine step_append_rd _ (by rfl) (.tmp 128) (.tmp 137) _ (by rfl) w2.heap.size 117 vi _ 2 32 Tryz.underlying25 VI.out VZ.out VS.out VB.out rfl (by decide) v5 (0 + nv) _ (by rfl) (HO5.out.alloc (.cells #[.string nB, .string tB] 117)) (some ⟨w5.heap.size, 0, none⟩) 1 1 [.string nB, .string tB] (by rfl) (RdX.new w5 2 #[.string nB, .string tB] 117 rfl (by simp [Value.oneCell'])) (by unfold maxLen; omega) (by omega) (HB5.out.alloc HB5.out.size _).size ?_; intro v6 w6 own6 g6 loc6; rw [Nat.zero_add, List.nil_append] at own6; obtain ⟨A6, c6, rfl⟩ := own_slice own6; have HB6 := Lib.hid ((HB5.out.alloc HB5.out.size (.cells #[.string nB, .string tB] 117)).grown g6 (HB5.out.alloc HB5.out.size _).size (fun k hk => (HO5.out.lt k hk).1)); have HO6 := Lib.hid own6; have hH6 := HH.out.below HB6.out; have r0 := hH6.cells.1; have r1 : w6.frozen? ⟨w.heap.size, 0, none⟩ = false := (by have kx := hH6.kx; simp [World.frozen?, kx]); clear own6 g6 loc6 hH6)
            | (refine step_append_rd _ (by rfl) (.tmp 128) (.tmp 137) _ (by rfl) w2.heap.size 117 vi _ 2 32 Tryz.underlying25 VI.out VZ.out VS.out VB.out rfl (by decide) v5b (0 + nv) _ (by rfl) HO5b.out (some ⟨w2.heap.size, 0, none⟩) 1 1 [.string nB, .string tB] (by rfl) HXN5.out (by unfold maxLen; omega) (by omega) HB5b.out.size ?_; intro v6 w6 own6 g6 loc6; rw [Nat.zero_add, List.nil_append] at own6; obtain ⟨A6, c6, rfl⟩ := own_slice own6; have HB6 := Lib.hid (HB5b.out.grown g6 HB5b.out.size (fun k hk => (HO5b.out.lt k hk).1)); have HO6 := Lib.hid own6; have hH6 := HH.out.below HB6.out; have r0 := hH6.cells.1; have r1 : w6.frozen? ⟨w.heap.size, 0, none⟩ = false := (by have kx := hH6.kx; simp [World.frozen?, kx]); clear own6 g6 loc6 hH6))
        all_goals (
          have hH7 := (HH.out.below HB6.out).setV (.slice A6 (nv + 1) c6)
          have HO7 := Lib.hid ((HH.out.below HB6.out).own 0 (.slice A6 (nv + 1) c6) HO6.out (by decide))
          have HH7 := Lib.hid hH7
          obtain ⟨m0, m1, m2, n0, n1, n2, o0, o1, o2⟩ := hH7.cells
          clear hH7
          obtain ⟨g0, g1, g2, gb⟩ := HH7.out.ret
          have HGB := Lib.hid gb
          clear gb
          go_wp2
          refine bodyPost_ret (v := .tuple #[.agg #[.slice A6 (nv + 1) c6, .slice Ar nr cr, .slice Ap np cp], .int .i64 0]) ?_ rfl ?_
          · simp [results, Tryz.f34, go_sem, g0, g1, g2]
          · exact LnPost.var HX.out hw2 HGB.out (by have := HH7.out.ownRet HO7.out (by decide); rw [List.length_append, HNV.out, fcells_append]; exact this))
end Go.Proofs.YtlkpbpecgdphaaaGreatDoor
namespace Go.Proofs.YtlkpbpecgdphaaaGreatDoor
open Go.RowKit

theorem snoc_len {α : Type} (l : List α) (p : Nat) (h : l.length = p + 1) : ∃ l0 x, l = l0 ++ [x] ∧ l0.length = p := by
  have hne : l ≠ [] := fun e => by rw [e] at h; simp at h
  exact ⟨l.dropLast, l.getLast hne, (List.dropLast_concat_getLast hne).symm, by rw [List.length_dropLast]; omega⟩
theorem rcells_set (R : List Row3) (x : Row3) (c' : Value) : (rcells (R ++ [x])).set (R.length * 3 + 2) c' = rcells (R ++ [(x.1, x.2.1, c')]) := by
  rw [rcells_append, rcells_append, List.set_append_right _ _ (by rw [rcells_len]; omega), rcells_len]
  rw [show R.length * 3 + 2 - R.length * 3 = 2 by omega]
  rfl
theorem MkRd.cmd {W : World} {m : Mk} {vv vr vp v' c' : Value} {R0 : List Row3} {x : Row3} {r0 : List Ru} {u : Ru} {t : ByteArray} {B B7 : Nat} (h : MkRd W m vv vr vp (R0 ++ [x])) (hm : m.rules = r0 ++ [u])
    (ho : W.ownsRow B 115 3 v' (R0 ++ [x]).length (rcells (R0 ++ [(x.1, x.2.1, c')]))) (h7 : Own1 W B7 c' (u.2.2 ++ [t])) : MkRd W { m with rules := moreCmd m.rules t } vv v' vp (R0 ++ [(x.1, x.2.1, c')]) := by
  have hlen : R0.length = r0.length := by have := h.len; rw [hm] at this; simpa using this
  have hml : (R0 ++ [(x.1, x.2.1, c')]).length = (R0 ++ [x]).length := by simp
  refine ⟨h.vars, ?_, ?_, fun i y v hy hv => ?_, h.phony⟩
  · have := RdR.of_own (R := R0 ++ [(x.1, x.2.1, c')]) (by rw [hml]; exact ho)
    exact this
  · rw [hm, moreCmd_snoc]; simp [hlen]
  · rw [hm, moreCmd_snoc] at hv
    rcases Nat.lt_or_ge i R0.length with hi | hi
    · rw [List.getElem?_append_left hi] at hy
      rw [List.getElem?_append_left (by rw [← hlen]; exact hi)] at hv
      exact h.each i y v (by rw [List.getElem?_append_left hi]; exact hy) (by rw [hm, List.getElem?_append_left (by rw [← hlen]; exact hi)]; exact hv)
    · rw [List.getElem?_append_right hi] at hy
      rw [List.getElem?_append_right (by rw [← hlen]; exact hi)] at hv
      rw [← hlen] at hv
      cases hk : i - R0.length with
      | zero =>
        rw [hk] at hy hv
        simp at hy hv
        subst hy
        subst hv
        obtain ⟨a, b, _⟩ := h.each R0.length x u (by simp) (by rw [hm, hlen]; simp)
        exact ⟨a, b, Sl.own h7⟩
      | succ k => rw [hk] at hy; simp at hy
theorem LnPost.cmd {m : Mk} {vv vr vp v' c' : Value} {R0 : List Row3} {x : Row3} {r0 : List Ru} {u : Ru} {t : ByteArray} {w w' : World} {B : Nat} {r : Nat × Mk} (hr : r = (0, { m with rules := moreCmd m.rules t })) (hm : m.rules = r0 ++ [u]) (hB : w.heap.size ≤ B) (hb : Below w.heap.size w w')
    (ho : w'.ownsRow B 115 3 v' (R0 ++ [x]).length (rcells (R0 ++ [(x.1, x.2.1, c')]))) (h7 : Own1 w' B c' (u.2.2 ++ [t])) : LnPost r m vv vr vp (R0 ++ [x]) w (.returned (.tuple #[.agg #[vv, v', vp], .int .i64 0])) w' :=
  ⟨vv, v', vp, _, by rw [hr]; rfl, hb, fun X hX h W hs hk => by
    have hk' : ∀ b, B ≤ b → b < w'.heap.size → W.heap[b]? = w'.heap[b]? := fun b h1 h2 => hk b h2 (fun hx => by have := hX b hx; omega)
    rw [hr]
    exact (h.below hb W hs hk).cmd hm (own_far ho hk') (own_far h7 hk')⟩
theorem Hd.grow {w W W' : World} {vv vr vp : Value} {g : Nat} (h : Hd w W vv vr vp) (hg : W.grownBy W' (some g)) (hne : w.heap.size + 1 < g) : Hd w W' vv vr vp :=
  ⟨(hg.block _ (by have := h.lt; omega) (fun e => by injection e with e; omega)).trans h.kx, (hg.block _ h.lt (fun e => by injection e with e; omega)).trans h.ky, h.bel.grown hg h.bel.size (fun k hk => by injection hk with hk; omega)⟩
end Go.Proofs.YtlkpbpecgdphaaaGreatDoor
namespace Go.Proofs.YtlkpbpecgdphaaaGreatDoor
open Go.RowKit

set_option maxHeartbeats 4000000 in
set_option maxRecDepth 100000 in
theorem lined_cmd (m : Mk) (vv vr vp : Value) (R : List Row3) (s : ByteArray) (w : World) (h : MkRd w m vv vr vp R) (hs : Sane m 700) (hf : Few m) (hz : s.size ≤ 600) (hnote : noteB s = false) (htab : Lib.hasPrefix s.data.toList [9] = true) :
    Calls Tryz.prog 34 #[.agg #[vv, vr, vp], .string s] w (LnPost (lineR m s) m vv vr vp R w) := by
  obtain ⟨Av, cv, rfl, hrv⟩ := h.vars
  obtain ⟨Ar, cr, rfl, hrr⟩ := h.rules
  obtain ⟨Ap, cp, rfl, hrp⟩ := h.phony
  obtain ⟨r, hr⟩ : ∃ r, r = lineR m s := ⟨_, rfl⟩
  rw [← hr]
  have HR := Lib.hid hr
  have hlr := h.len
  have hnr : R.length ≤ 10 := by rw [hlr]; exact hf.rules
  have HL := Lib.hid hlr
  have HF := Lib.hid hf
  have HSA := Lib.hid hs
  have hnv6 : m.vars.length ≤ 6 := hf.vars
  have hnp7 : m.phony.length ≤ 700 := hs.phony
  have HM := Lib.hid h
  clear hr hlr hs hf h
  generalize hnr0 : R.length = nr at *
  have HNR := Lib.hid hnr0
  generalize hnp0 : m.phony.length = np at *
  have HNP := Lib.hid hnp0
  generalize hnv0 : m.vars.length = nv at *
  have HNV := Lib.hid hnv0
  clear hnr0 hnp0 hnv0
  have hH := Hd.start w (.slice Av nv cv) (.slice Ar nr cr) (.slice Ap np cp)
  have HH := Lib.hid hH
  have HRV := Lib.hid (hrv.belowS hH.bel)
  have HRR := Lib.hid (hrr.belowS hH.bel)
  have HRP := Lib.hid (hrp.belowS hH.bel)
  obtain ⟨c0, c1, c2, d0, d1, d2, f0, f1, f2⟩ := hH.cells
  have hlt0 := hH.lt
  have hw2 := hH.bel.size
  clear hH hrv hrr hrp
  have hpos : 0 < s.size := by
    rcases Nat.eq_zero_or_pos s.size with h | h
    · rw [noteB_nil' h] at hnote; cases hnote
    · exact h
  have hx := HR.out
  unfold lineR at hx
  rw [if_neg (by rw [hnote]; simp), if_pos htab] at hx
  have hposz : (0 : Int) < (s.size : Int) := by omega
  have h1z : (1 : Int) ≤ (s.size : Int) := by omega
  have t1 := toList_ne hpos
  have t2 : ((s[0].toNat : Int) == 35) = false := by rw [byte_eqk (k := 35) (z := 35) rfl, ← noteB_cons hpos]; exact hnote
  have t3 : ((s[0].toNat : Int) == 9) = true := by rw [byte_eqk (k := 9) (z := 9) rfl, ← tab_cons hpos]; exact htab
  generalize hse : s.extract 1 s.size = sx at *
  have hsz : sx.size ≤ 600 := by rw [← hse, ByteArray.size_extract]; omega
  unfold cmdR at hx
  rw [← HL.out] at hx
  have HX1 := Lib.hid hx
  clear hx hnote htab
  have HT := Lib.hid (fun v hv => Nat.le_trans (HSA.out.texts v hv) (by omega : 600 ≤ 1000))
  by_cases hn0 : nr = 0
  · have t5 : ((nr : Int) == 0) = true := by rw [beq_iff_eq]; omega
    have HX := Lib.hid (HX1.out.trans (if_pos hn0))
    clear hn0
    go_enter Tryz.func34, Tryz.ntmps34
    go_upto_region 1 with fail
    generalize (w.alloc (.cells #[.slice Av nv cv, .slice Ar nr cr, .slice Ap np cp] 29)).alloc (.cells #[.slice none 0 0, .slice none 0 0, .slice none 0 0] 29) = w2 at *
    obtain ⟨g0, g1, g2, gb⟩ := HH.out.ret
    have HGB := Lib.hid gb
    clear gb
    go_wp2
    refine bodyPost_ret (v := .tuple #[.agg #[.slice Av nv cv, .slice Ar nr cr, .slice Ap np cp], .int .i64 4]) ?_ rfl ?_
    · simp [results, Tryz.f34, go_sem, g0, g1, g2]
    · exact LnPost.same (k := 4) HX.out HGB.out
  obtain ⟨p, rfl⟩ : ∃ p, nr = p + 1 := ⟨nr - 1, by omega⟩
  obtain ⟨R0, x, hR, hR0⟩ := snoc_len R p HNR.out
  obtain ⟨r0, u, hm, hr0⟩ := snoc_len m.rules p HL.out.symm
  subst hR
  have hx := HX1.out
  rw [if_neg hn0] at hx
  obtain ⟨ev, hev⟩ : ∃ ev, ev = expR m.vars 5 sx.data.toList := ⟨_, rfl⟩
  rw [← hev] at hx
  have hll : lastCmds m.rules = u.2.2.length := by rw [hm, lastCmds_snoc]
  rw [hll] at hx
  have HX2 := Lib.hid hx
  have HEV := Lib.hid hev
  have HMR := Lib.hid hm
  have HR0 := Lib.hid hR0
  have hnc3 : u.2.2.length ≤ 3 := (HSA.out.cmds u (by rw [hm]; simp)).2.2
  obtain ⟨sT, sN, sC⟩ := HM.out.each p x u (by rw [← hR0]; simp) (by rw [hm, ← hr0]; simp)
  obtain ⟨Ac, cc, eC, hC⟩ := sC
  have HC := Lib.hid hC
  have HX3 := Lib.hid (show (R0 ++ [x])[p]? = some x by rw [← hR0]; simp)
  obtain ⟨x0, x1, x2⟩ := x
  simp only at eC
  subst eC
  generalize hnc0 : u.2.2.length = nc at *
  have HNC := Lib.hid hnc0
  clear hx hev hll hm hR0 hr0 hC sT sN hn0 HX1 hnc0
  have t5 : (((p + 1 : Nat) : Int) == 0) = false := by rw [beq_eq_false_iff_ne]; omega
  go_enter Tryz.func34, Tryz.ntmps34
  go_upto_region 1 with fail
  generalize (w.alloc (.cells #[.slice Av nv cv, .slice Ar (p + 1) cr, .slice Ap np cp] 29)).alloc (.cells #[.slice none 0 0, .slice none 0 0, .slice none 0 0] 29) = w2 at *
  go_wp2
  go_quiet (first | (go_at_call 61; refine quiet_eq (rexp_any m.vars HT.out Av nv cv sx _ ?_ ?_ ?_); exact HRV.out; omega; omega))
  rw [← HEV.out]
  have hb3 := below_drewN w2 nq
  have HB3 := Lib.hid hb3
  have HH3 := Lib.hid (HH.out.below hb3)
  have HRR3 := Lib.hid (HRR.out.belowS hb3)
  clear c0 c1 c2 d0 d1 d2 f0 f1 f2 hb3
  generalize w2.drewN nq = w3 at *
  have hlen600 : ev.1 = 0 → ev.2.length ≤ 600 := by
    rw [HEV.out]
    intro h
    exact expL_len _ _ _ _ (Prod.ext h rfl)
  have HLEN := Lib.hid hlen600
  clear hlen600 HEV
  obtain ⟨e, t⟩ := ev
  dsimp only at HLEN HX2 ⊢
  cases e with
  | succ e =>
    have hx := HX2.out
    rw [if_pos (by omega)] at hx
    have HX := Lib.hid hx
    clear hx HX2 HLEN
    have hpos2 : (0 : Int) < ((e + 1 : Nat) : Int) := by omega
    obtain ⟨z, hze⟩ : ∃ z : Int, z = ((e + 1 : Nat) : Int) := ⟨_, rfl⟩
    rw [← hze] at hpos2 ⊢
    have HZE := Lib.hid hze
    clear hze
    obtain ⟨c0, c1, c2, d0, d1, d2, f0, f1, f2⟩ := HH3.out.cells
    obtain ⟨g0, g1, g2, gb⟩ := HH3.out.ret
    have HGB := Lib.hid gb
    clear gb
    go_wp2
    refine bodyPost_ret (v := .tuple #[.agg #[.slice Av nv cv, .slice Ar (p + 1) cr, .slice Ap np cp], .int .i64 z]) ?_ rfl ?_
    · simp [results, Tryz.f34, go_sem, g0, g1, g2]
    · rw [HZE.out]; exact LnPost.same (k := e + 1) HX.out HGB.out
  | zero =>
    have htl := HLEN.out rfl
    have hx := HX2.out
    rw [if_neg (by simp)] at hx
    have HX4 := Lib.hid hx
    clear hx HX2 HLEN
    have htz : (ba t).size ≤ 600 := by rw [ba_size]; exact htl
    simp only [Int.ofNat_zero]
    obtain ⟨c0, c1, c2, d0, d1, d2, f0, f1, f2⟩ := HH3.out.cells
    obtain ⟨br, ofr, rfl, _, q0, q1, q2⟩ := HRR3.out.at_ HX3.out
    simp only at q0 q1 q2
    have hpz : (p : Int) < ((p + 1 : Nat) : Int) := by omega
    by_cases h3 : 3 ≤ nc
    · have t6 : ((nc : Int) == 3) = true := by rw [beq_iff_eq]; omega
      have HX := Lib.hid (HX4.out.trans (if_pos (.inl h3)))
      clear h3
      obtain ⟨g0, g1, g2, gb⟩ := HH3.out.ret
      have HGB := Lib.hid gb
      clear gb
      go_wp2
      refine bodyPost_ret (v := .tuple #[.agg #[.slice Av nv cv, .slice (some ⟨br, ofr, none⟩) (p + 1) cr, .slice Ap np cp], .int .i64 2]) ?_ rfl ?_
      · simp [results, Tryz.f34, go_sem, g0, g1, g2]
      · exact LnPost.same (k := 2) HX.out HGB.out
    have t6 : ((nc : Int) == 3) = false := by rw [beq_eq_false_iff_ne]; omega
    by_cases h28 : 28 < t.length
    · have t7 : (28 : Int) < ((ba t).size : Int) := by rw [ba_size]; omega
      have HX := Lib.hid (HX4.out.trans (if_pos (.inr h28)))
      clear h28
      obtain ⟨g0, g1, g2, gb⟩ := HH3.out.ret
      have HGB := Lib.hid gb
      clear gb
      go_wp2
      refine bodyPost_ret (v := .tuple #[.agg #[.slice Av nv cv, .slice (some ⟨br, ofr, none⟩) (p + 1) cr, .slice Ap np cp], .int .i64 2]) ?_ rfl ?_
      · simp [results, Tryz.f34, go_sem, g0, g1, g2]
      · exact LnPost.same (k := 2) HX.out HGB.out
    have t7 : decide ((28 : Int) < ((ba t).size : Int)) = false := decide_eq_false (by rw [ba_size]; omega)
    have HX := Lib.hid (HX4.out.trans (if_neg (by omega)))
    clear HX4 h28 h3
    obtain ⟨ti, hti, htz, hts, htb⟩ := text_parts
    have TI := Lib.hid hti
    have TZ := Lib.hid htz
    have TS := Lib.hid hts
    have TB := Lib.hid htb
    obtain ⟨ri, hri, hrz, hrs, hrb⟩ := rule_parts
    have RI := Lib.hid hri
    have RZ := Lib.hid hrz
    have RS := Lib.hid hrs
    have RB := Lib.hid hrb
    clear hti htz hts htb hri hrz hrs hrb
    have HXR := Lib.hid (HRR3.out.x HM.out.one)
    have HCR := Lib.hid (HC.out.belowS HH3.out.bel)
    have HK0 := Lib.hid (Below.refl w3.heap.size w3)
    have hw3 : w.heap.size + 1 < w3.heap.size := HH3.out.lt
    go_wp2_with (at_builtin; refine wpList_append_rd _ rfl (.const (.slice none 0 0)) (.tmp 60) _ rfl w3.heap.size 115 ri _ 3 72 Tryz.underlying26 RI.out RZ.out RS.out RB.out rfl (by decide) (.slice none 0 0) 0 [] rfl (World.ownsRow_nil _ _ _ _) _ (p + 1) cr _ rfl HXR.out ?_ ?_ ?_ ?_)
    · unfold maxLen; omega
    · omega
    · exact Nat.le_refl _
    intro v5 w5 own5 g5 loc5
    try rw [Nat.zero_add, List.nil_append] at own5
    have HB5 := Lib.hid (HK0.out.grown g5 (Nat.le_refl _) (fun k hk => by cases hk))
    obtain ⟨A5, c5, rfl⟩ := own_slice own5
    obtain ⟨gr, rfl⟩ : ∃ gr, A5 = some ⟨gr, 0, none⟩ := by
      rcases own5.2 with ⟨_, h0⟩ | ⟨g, cap, cur, e, _⟩
      · omega
      · injection e with e; exact ⟨g, e⟩
    have y2 : w5.cell? ⟨gr, p * 3 + 2, none⟩ = some (.slice Ac nc cc) := by
      have := own5.cells (g := gr) rfl _ _ (rcells_at HX3.out).2.2
      rwa [Go.WideShapes.add_plain, Nat.zero_add] at this
    have hgr : w3.heap.size ≤ gr := (own5.lt gr rfl).1
    have HO5 := Lib.hid own5
    have HXC := Lib.hid (HCR.out.belowS HB5.out).x
    clear own5 g5 loc5 c0 c1 c2 d0 d1 d2 f0 f1 f2 q0 q1 q2
    go_wp2_with (at_builtin; refine wpList_append_rd _ rfl (.const (.slice none 0 0)) (.tmp 70) _ rfl w3.heap.size 9 ti _ 1 16 Tryz.underlying27 TI.out TZ.out TS.out TB.out rfl (by decide) (.slice none 0 0) 0 [] rfl (World.ownsRow_nil _ _ _ _) _ nc cc _ rfl HXC.out ?_ ?_ ?_ ?_)
    · unfold maxLen; omega
    · omega
    · exact HB5.out.size
    intro v6 w6 own6 g6 loc6
    try rw [Nat.zero_add, List.nil_append] at own6
    have hb56 : Below w5.heap.size w5 w6 := (Below.refl _ _).grown g6 (Nat.le_refl _) (fun k hk => by cases hk)
    have hb56a : Below w5.heap.size w5 (w6.alloc (.cells #[.string (ba t)] 9)) := hb56.alloc hb56.size _
    have HO5a := Lib.hid (HO5.out.kept (grown_of_below hb56a) (by simp [Value.ownBlock]))
    have HB6a := Lib.hid (HB5.out.trans (hb56a.mono HB5.out.size))
    have HO6a := Lib.hid (own6.alloc (.cells #[.string (ba t)] 9))
    have HXN := Lib.hid (RdX.new w6 1 #[.string (ba t)] 9 rfl (by simp [Value.oneCell']))
    have HO6 := Lib.hid own6
    clear own6 g6 loc6 hb56 hb56a
    go_wp2_with (at_builtin; refine wpList_append_rd _ rfl (.tmp 71) (.tmp 73) _ rfl w3.heap.size 9 ti _ 1 16 Tryz.underlying27 TI.out TZ.out TS.out TB.out rfl (by decide) _ nc _ rfl HO6a.out _ 1 1 _ rfl HXN.out ?_ ?_ ?_ ?_)
    · unfold maxLen; omega
    · omega
    · simpa using HB6a.out.size
    intro v7 w7 own7 g7 loc7
    have HB7 := Lib.hid (HB6a.out.grown g7 HB6a.out.size (fun k hk => (HO6.out.lt k hk).1))
    have own5b := HO5a.out.kept g7 (rows_ne HO5a.out HO6a.out (by decide))
    obtain ⟨A7, c7, rfl⟩ := own_slice own7
    have z2 : w7.cell? ⟨gr, p * 3 + 2, none⟩ = some (.slice Ac nc cc) := by
      have := own5b.cells (g := gr) rfl _ _ (rcells_at HX3.out).2.2
      rwa [Go.WideShapes.add_plain, Nat.zero_add] at this
    have zf : w7.frozen? ⟨gr, p * 3 + 2, none⟩ = false := own5b.frozenAt _
    obtain ⟨own8, g8⟩ := own5b.stored (p * 3 + 2) (.slice A7 (nc + 1) c7)
    have hset : (rcells (R0 ++ [(x0, x1, Value.slice Ac nc cc)])).set (p * 3 + 2) (.slice A7 (nc + 1) c7) = rcells (R0 ++ [(x0, x1, .slice A7 (nc + 1) c7)]) := by
      have := rcells_set R0 (x0, x1, Value.slice Ac nc cc) (.slice A7 (nc + 1) c7)
      rwa [HR0.out] at this
    rw [hset] at own8
    have own78 := own7.kept g8 (rows_ne own7 own5b (by decide))
    have hH7 := HH3.out.below HB7.out
    have hH8 := hH7.grow g8 (by omega)
    have r0 := hH8.cells.2.1
    have r1 : (w7.setCell ⟨gr, p * 3 + 2, none⟩ (.slice A7 (nc + 1) c7)).frozen? ⟨w.heap.size, 1, none⟩ = false := by have kx := hH8.kx; simp [World.frozen?, kx]
    have hH9 := hH8.setR (.slice (some ⟨gr, 0, none⟩) (p + 1) c5)
    have HO9 := Lib.hid (hH8.own 1 (.slice (some ⟨gr, 0, none⟩) (p + 1) c5) own8 (by decide))
    have HT9 := Lib.hid (hH8.own 1 (.slice (some ⟨gr, 0, none⟩) (p + 1) c5) own78 (by decide))
    have HH9 := Lib.hid hH9
    obtain ⟨m0, m1, m2, n0, n1, n2, o0, o1, o2⟩ := hH9.cells
    have hw3' : w.heap.size ≤ w3.heap.size := by omega
    clear own7 g7 loc7 own5b own8 g8 hset own78 hH7 hH8 hH9
    obtain ⟨g0, g1, g2, gb⟩ := HH9.out.ret
    have HGB := Lib.hid gb
    clear gb
    go_wp2
    refine bodyPost_ret (v := .tuple #[.agg #[.slice Av nv cv, .slice (some ⟨gr, 0, none⟩) (p + 1) c5, .slice Ap np cp], .int .i64 0]) ?_ rfl ?_
    · simp [results, Tryz.f34, go_sem, g0, g1, g2]
    · exact LnPost.cmd HX.out HMR.out hw3' HGB.out (by have := HH9.out.ownRet HO9.out (by decide); rw [HNR.out]; exact this) (by have := HH9.out.ownRet HT9.out (by decide); unfold Own1; rw [List.length_append, HNC.out, tcells, List.map_append]; exact this)
end Go.Proofs.YtlkpbpecgdphaaaGreatDoor
