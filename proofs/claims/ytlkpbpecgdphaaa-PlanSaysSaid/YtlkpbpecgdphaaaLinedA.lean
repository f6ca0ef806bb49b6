/-
  WALKS: hammerpondref.lined at a note and at a phony name.
-/
import Derived.Test.YtlkpbpecgdphaaaHd
import Derived.Deep.DeepCutAuto
namespace Go.Proofs.Ytlkpbpecgdphaaa
open Go.RowKit

theorem head_cons (s : ByteArray) (h : 0 < s.size) : s.data.toList = s[0] :: s.data.toList.drop 1 := by
  have := drop_at s h
  rwa [List.drop_zero] at this
theorem noteB_nil' {s : ByteArray} (h : s.size = 0) : noteB s = true := by
  have : s.data.toList = [] := List.eq_nil_of_length_eq_zero (by simpa using h)
  unfold noteB
  rw [this]
theorem noteB_cons {s : ByteArray} (h : 0 < s.size) : noteB s = decide (s[0] = 35) := by
  unfold noteB
  rw [head_cons s h]
theorem tab_cons {s : ByteArray} (h : 0 < s.size) : Lib.hasPrefix s.data.toList [9] = decide (s[0] = 9) := by
  unfold Lib.hasPrefix
  rw [head_cons s h]
  simp [List.isPrefixOf]
  rw [Bool.eq_iff_iff]
  simp
  exact eq_comm
def phB : Bs := [112, 104, 111, 110, 121, 32]
theorem ph_short {s : ByteArray} (h : ¬ 5 < s.size) : Lib.hasPrefix s.data.toList phB = false := by
  unfold Lib.hasPrefix
  rw [Bool.eq_false_iff]
  intro e
  rw [List.isPrefixOf_iff_prefix] at e
  have := e.length_le
  simp [phB] at this
  omega
theorem ph_long {s : ByteArray} (_h : 5 < s.size) : ((s.extract 0 6).toList == phB) = Lib.hasPrefix s.data.toList phB := by
  unfold Lib.hasPrefix
  rw [Lib.extract_toList, Bool.eq_iff_iff, beq_iff_eq, List.isPrefixOf_iff_prefix, List.prefix_iff_eq_take]
  simp [phB]
  exact eq_comm
theorem byte_eqk {b k : UInt8} {z : Int} (hz : (k.toNat : Int) = z) : ((b.toNat : Int) == z) = decide (b = k) := by
  rw [← hz, Bool.eq_iff_iff, beq_iff_eq, decide_eq_true_iff]
  constructor
  · intro h; exact UInt8.toNat_inj.1 (by omega)
  · rintro rfl; rfl
theorem toList_e {s : ByteArray} (h : s.size = 0) : (s.toList == []) = true := by
  have : s.toList.length = 0 := by rw [Lib.toList_data]; simpa using h
  rw [List.eq_nil_of_length_eq_zero this]; rfl
theorem toList_ne {s : ByteArray} (h : 0 < s.size) : (s.toList == []) = false := by
  rw [beq_eq_false_iff_ne, Lib.toList_data]
  intro e
  have h1 : s.data.toList.length = s.size := by simp
  rw [e] at h1
  simp at h1
  omega
theorem LnPost.phony {m : Mk} {vv vr vp v' : Value} {R : List Row3} {x : ByteArray} {w w' : World} {B : Nat} {r : Nat × Mk} (hr : r = (0, { m with phony := m.phony ++ [x] })) (hB : w.heap.size ≤ B) (hb : Below w.heap.size w w')
    (ho : Own1 w' B v' (m.phony ++ [x])) : LnPost r m vv vr vp R w (.returned (.tuple #[.agg #[vv, vr, v'], .int .i64 0])) w' :=
  ⟨vv, vr, v', R, by rw [hr]; rfl, hb, fun X hX h W hs hk => by
    have hk' : ∀ b, B ≤ b → b < w'.heap.size → W.heap[b]? = w'.heap[b]? := fun b h1 h2 => hk b h2 (fun hx => by have := hX b hx; omega)
    have h1 := h.below hb W hs hk
    rw [hr]
    exact ⟨h1.vars, h1.rules, h1.len, h1.each, Sl.own (own_far ho hk')⟩⟩
theorem LnPost.var {m : Mk} {vv vr vp v' : Value} {R : List Row3} {x : F} {w w' : World} {B : Nat} {r : Nat × Mk} (hr : r = (0, { m with vars := m.vars ++ [x] })) (hB : w.heap.size ≤ B) (hb : Below w.heap.size w w')
    (ho : w'.ownsRow B 84 2 v' (m.vars ++ [x]).length (fcells (m.vars ++ [x]))) : LnPost r m vv vr vp R w (.returned (.tuple #[.agg #[v', vr, vp], .int .i64 0])) w' :=
  ⟨v', vr, vp, R, by rw [hr]; rfl, hb, fun X hX h W hs hk => by
    have hk' : ∀ b, B ≤ b → b < w'.heap.size → W.heap[b]? = w'.heap[b]? := fun b h1 h2 => hk b h2 (fun hx => by have := hX b hx; omega)
    have h1 := h.below hb W hs hk
    rw [hr]
    exact ⟨RdF.of_own (own_far ho hk'), h1.rules, h1.len, h1.each, h1.phony⟩⟩

set_option maxHeartbeats 4000000 in
set_option maxRecDepth 100000 in
theorem lined_note (m : Mk) (vv vr vp : Value) (R : List Row3) (s : ByteArray) (w : World) (h : MkRd w m vv vr vp R) (hs : Sane m 700) (hf : Few m) (hz : s.size ≤ 600) (hnote : noteB s = true) :
    Calls Try.prog 19 #[.agg #[vv, vr, vp], .string s] w (LnPost (lineR m s) m vv vr vp R w) := by
  obtain ⟨Av, cv, rfl, hrv⟩ := h.vars
  obtain ⟨Ar, cr, rfl, hrr⟩ := h.rules
  obtain ⟨Ap, cp, rfl, hrp⟩ := h.phony
  obtain ⟨r, hr⟩ : ∃ r, r = lineR m s := ⟨_, rfl⟩
  rw [← hr]
  have HR := Lib.hid hr
  have hlr := h.len
  have hnr : R.length ≤ 10 := by rw [hlr]; exact hf.rules
  have HL := Lib.hid hlr
  have HF := Lib.hid hf
  have HSA := Lib.hid hs
  have hnv6 : m.vars.length ≤ 6 := hf.vars
  have hnp7 : m.phony.length ≤ 700 := hs.phony
  have HM := Lib.hid h
  clear hr hlr hs hf h
  generalize hnr0 : R.length = nr at *
  have HNR := Lib.hid hnr0
  generalize hnp0 : m.phony.length = np at *
  have HNP := Lib.hid hnp0
  generalize hnv0 : m.vars.length = nv at *
  have HNV := Lib.hid hnv0
  clear hnr0 hnp0 hnv0
  have hH := Hd.start w (.slice Av nv cv) (.slice Ar nr cr) (.slice Ap np cp)
  have HH := Lib.hid hH
  have HRV := Lib.hid (hrv.belowS hH.bel)
  have HRR := Lib.hid (hrr.belowS hH.bel)
  have HRP := Lib.hid (hrp.belowS hH.bel)
  obtain ⟨c0, c1, c2, d0, d1, d2, f0, f1, f2⟩ := hH.cells
  have hlt0 := hH.lt
  have hw2 := hH.bel.size
  clear hH hrv hrr hrp
  have HX := Lib.hid (show r = (0, m) by rw [HR.out]; exact lineR_note m s hnote)
  by_cases hs0 : s.size = 0
  · have t1 := toList_e hs0
    clear hnote
    have HS0 := Lib.hid hs0
    clear hs0
    go_enter Try.func19, Try.ntmps19
    go_upto_region 1 with fail
    generalize (w.alloc (.cells #[.slice Av nv cv, .slice Ar nr cr, .slice Ap np cp] 36)).alloc (.cells #[.slice none 0 0, .slice none 0 0, .slice none 0 0] 36) = w2 at *
    obtain ⟨g0, g1, g2, gb⟩ := HH.out.ret
    have HGB := Lib.hid gb
    clear gb
    go_wp2
    refine bodyPost_ret (v := .tuple #[.agg #[.slice Av nv cv, .slice Ar nr cr, .slice Ap np cp], .int .i64 0]) ?_ rfl ?_
    · simp [results, Try.f19, go_sem, g0, g1, g2]
    · exact LnPost.same (k := 0) HX.out HGB.out
  · have hpos : 0 < s.size := by omega
    have hposz : (0 : Int) < (s.size : Int) := by omega
    have t1 := toList_ne hpos
    have t2 : ((s[0].toNat : Int) == 35) = true := by rw [byte_eqk (k := 35) (z := 35) rfl, ← noteB_cons hpos]; exact hnote
    clear hnote
    go_enter Try.func19, Try.ntmps19
    go_upto_region 1 with fail
    generalize (w.alloc (.cells #[.slice Av nv cv, .slice Ar nr cr, .slice Ap np cp] 36)).alloc (.cells #[.slice none 0 0, .slice none 0 0, .slice none 0 0] 36) = w2 at *
    obtain ⟨g0, g1, g2, gb⟩ := HH.out.ret
    have HGB := Lib.hid gb
    clear gb
    go_wp2
    refine bodyPost_ret (v := .tuple #[.agg #[.slice Av nv cv, .slice Ar nr cr, .slice Ap np cp], .int .i64 0]) ?_ rfl ?_
    · simp [results, Try.f19, go_sem, g0, g1, g2]
    · exact LnPost.same (k := 0) HX.out HGB.out

set_option maxHeartbeats 4000000 in
set_option maxRecDepth 100000 in
theorem lined_phony (m : Mk) (vv vr vp : Value) (R : List Row3) (s : ByteArray) (w : World) (h : MkRd w m vv vr vp R) (hs : Sane m 700) (hf : Few m) (hz : s.size ≤ 600) (hnote : noteB s = false) (htab : Lib.hasPrefix s.data.toList [9] = false) (hph : Lib.hasPrefix s.data.toList phB = true) :
    Calls Try.prog 19 #[.agg #[vv, vr, vp], .string s] w (LnPost (lineR m s) m vv vr vp R w) := by
  obtain ⟨Av, cv, rfl, hrv⟩ := h.vars
  obtain ⟨Ar, cr, rfl, hrr⟩ := h.rules
  obtain ⟨Ap, cp, rfl, hrp⟩ := h.phony
  obtain ⟨r, hr⟩ : ∃ r, r = lineR m s := ⟨_, rfl⟩
  rw [← hr]
  have HR := Lib.hid hr
  have hlr := h.len
  have hnr : R.length ≤ 10 := by rw [hlr]; exact hf.rules
  have HL := Lib.hid hlr
  have HF := Lib.hid hf
  have HSA := Lib.hid hs
  have hnv6 : m.vars.length ≤ 6 := hf.vars
  have hnp7 : m.phony.length ≤ 700 := hs.phony
  have HM := Lib.hid h
  clear hr hlr hs hf h
  generalize hnr0 : R.length = nr at *
  have HNR := Lib.hid hnr0
  generalize hnp0 : m.phony.length = np at *
  have HNP := Lib.hid hnp0
  generalize hnv0 : m.vars.length = nv at *
  have HNV := Lib.hid hnv0
  clear hnr0 hnp0 hnv0
  have hH := Hd.start w (.slice Av nv cv) (.slice Ar nr cr) (.slice Ap np cp)
  have HH := Lib.hid hH
  have HRV := Lib.hid (hrv.belowS hH.bel)
  have HRR := Lib.hid (hrr.belowS hH.bel)
  have HRP := Lib.hid (hrp.belowS hH.bel)
  obtain ⟨c0, c1, c2, d0, d1, d2, f0, f1, f2⟩ := hH.cells
  have hlt0 := hH.lt
  have hw2 := hH.bel.size
  clear hH hrv hrr hrp
  have hpos : 0 < s.size := by
    rcases Nat.eq_zero_or_pos s.size with h | h
    · rw [noteB_nil' h] at hnote; cases hnote
    · exact h
  have hx := HR.out
  unfold lineR at hx
  rw [if_neg (by rw [hnote]; simp), if_neg (by rw [htab]; simp), if_pos (show Lib.hasPrefix s.data.toList [112, 104, 111, 110, 121, 32] = true from hph)] at hx
  have HX := Lib.hid hx
  clear hx
  have hposz : (0 : Int) < (s.size : Int) := by omega
  have h5 : 5 < s.size := by
    rcases Nat.lt_or_ge 5 s.size with h | h
    · exact h
    · rw [ph_short (by omega)] at hph; cases hph
  have h5z : (5 : Int) < (s.size : Int) := by omega
  have h6z : (6 : Int) ≤ (s.size : Int) := by omega
  have t1 := toList_ne hpos
  have t2 : ((s[0].toNat : Int) == 35) = false := by rw [byte_eqk (k := 35) (z := 35) rfl, ← noteB_cons hpos]; exact hnote
  have t3 : ((s[0].toNat : Int) == 9) = false := by rw [byte_eqk (k := 9) (z := 9) rfl, ← tab_cons hpos]; exact htab
  have t4 : ((s.extract 0 6).toList == [112, 104, 111, 110, 121, 32]) = true := (ph_long h5).trans hph
  clear hnote htab hph
  generalize hne : s.extract 6 s.size = nm at *
  have hnz : nm.size ≤ 600 := by rw [← hne, ByteArray.size_extract]; omega
  go_enter Try.func19, Try.ntmps19
  go_upto_region 1 with fail
  generalize (w.alloc (.cells #[.slice Av nv cv, .slice Ar nr cr, .slice Ap np cp] 36)).alloc (.cells #[.slice none 0 0, .slice none 0 0, .slice none 0 0] 36) = w2 at *
  go_wp2_with fail
  refine (nameMay_any nm w2 (by omega)).mono ?_
  rintro e w' ⟨rfl, rfl⟩
  go_wp2_with fail
  refine (in_any Ap np cp m.phony nm w2 HRP.out (by omega)).mono ?_
  rintro e w' ⟨rfl, rfl⟩
  have hx := HX.out
  unfold phonyR at hx
  have HX1 := Lib.hid hx
  clear hx HX
  cases hn1 : nameB nm with
  | false =>
    have HX := Lib.hid (HX1.out.trans (if_pos (.inl hn1)))
    obtain ⟨g0, g1, g2, gb⟩ := HH.out.ret
    have HGB := Lib.hid gb
    clear gb
    go_wp2
    refine bodyPost_ret (v := .tuple #[.agg #[.slice Av nv cv, .slice Ar nr cr, .slice Ap np cp], .int .i64 3]) ?_ rfl ?_
    · simp [results, Try.f19, go_sem, g0, g1, g2]
    · exact LnPost.same (k := 3) HX.out HGB.out
  | true =>
    cases hn2 : inT m.phony nm with
    | true =>
      have HX := Lib.hid (HX1.out.trans (if_pos (.inr hn2)))
      obtain ⟨g0, g1, g2, gb⟩ := HH.out.ret
      have HGB := Lib.hid gb
      clear gb
      go_wp2
      refine bodyPost_ret (v := .tuple #[.agg #[.slice Av nv cv, .slice Ar nr cr, .slice Ap np cp], .int .i64 3]) ?_ rfl ?_
      · simp [results, Try.f19, go_sem, g0, g1, g2]
      · exact LnPost.same (k := 3) HX.out HGB.out
    | false =>
      have HX := Lib.hid (HX1.out.trans (if_neg (by rw [hn1, hn2]; simp)))
      obtain ⟨ti, hti, htz, hts, htb⟩ := text_parts
      have TI := Lib.hid hti
      have TZ := Lib.hid htz
      have TS := Lib.hid hts
      have TB := Lib.hid htb
      have HXP := Lib.hid HRP.out.x
      have k0 : Below w2.heap.size w2 w2 := Below.refl _ _
      have HK0 := Lib.hid k0
      have hbx2 : w.heap.size < w2.heap.size := World.block_lt_of_cell? _ _ c0
      clear hti htz hts htb k0
      go_wp2_with (at_builtin; refine wpList_append_rd _ rfl (.const (.slice none 0 0)) (.tmp 103) _ rfl w2.heap.size 9 ti _ 1 16 Try.underlying27 TI.out TZ.out TS.out TB.out rfl (by decide) (.slice none 0 0) 0 [] rfl (World.ownsRow_nil _ _ _ _) Ap np cp (tcells m.phony) rfl HXP.out ?_ ?_ ?_ ?_)
      · unfold maxLen; omega
      · omega
      · exact Nat.le_refl _
      intro v5 w5 own5 g5 loc5
      try rw [Nat.zero_add, List.nil_append] at own5
      have HB5 := Lib.hid (HK0.out.grown g5 (Nat.le_refl _) (fun k hk => by cases hk))
      have HO5 := Lib.hid own5
      have HO5a := Lib.hid (own5.alloc (.cells #[.string nm] 9))
      have HB5a := Lib.hid (HB5.out.alloc HB5.out.size (.cells #[.string nm] 9))
      have HXN := Lib.hid (RdX.new w5 1 #[.string nm] 9 rfl (by simp [Value.oneCell']))
      clear own5 g5 loc5
      go_wp2_with (at_builtin; refine wpList_append_rd _ rfl (.tmp 104) (.tmp 106) _ rfl w2.heap.size 9 ti _ 1 16 Try.underlying27 TI.out TZ.out TS.out TB.out rfl (by decide) _ np _ rfl HO5a.out _ 1 1 _ rfl HXN.out ?_ ?_ ?_ ?_)
      · unfold maxLen; omega
      · omega
      · simpa using HB5a.out.size
      intro v6 w6 own6 g6 loc6
      have HB6 := Lib.hid (HB5a.out.grown g6 HB5a.out.size (fun k hk => (HO5.out.lt k hk).1))
      obtain ⟨A6, c6, rfl⟩ := own_slice own6
      have HO6 := Lib.hid own6
      have hH6 := HH.out.below HB6.out
      have r0 := hH6.cells.2.2.1
      have r1 : w6.frozen? ⟨w.heap.size, 2, none⟩ = false := by have kx := hH6.kx; simp [World.frozen?, kx]
      have hH7 := hH6.setP (.slice A6 (np + 1) c6)
      have HO7 := Lib.hid (hH6.own 2 (.slice A6 (np + 1) c6) own6 (by decide))
      have HH7 := Lib.hid hH7
      obtain ⟨m0, m1, m2, n0, n1, n2, o0, o1, o2⟩ := hH7.cells
      clear own6 g6 loc6 hH6 hH7
      obtain ⟨g0, g1, g2, gb⟩ := HH7.out.ret
      have HGB := Lib.hid gb
      clear gb
      go_wp2
      refine bodyPost_ret (v := .tuple #[.agg #[.slice Av nv cv, .slice Ar nr cr, .slice A6 (np + 1) c6], .int .i64 0]) ?_ rfl ?_
      · simp [results, Try.f19, go_sem, g0, g1, g2]
      · exact LnPost.phony HX.out hw2 HGB.out (by have := HH7.out.ownRet HO7.out (by decide); unfold Own1; rw [List.length_append, HNP.out, tcells, List.map_append]; exact this)
end Go.Proofs.Ytlkpbpecgdphaaa
