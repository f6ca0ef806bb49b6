/-
  WORDS FOR MEMORY: the frame of hammerpondref.MakeOf: the result's description at w.heap.size (nothing yet), the text's own behind it.
-/
import Derived.Test.YtlkpbpecgdphaaaLinedA
import Derived.Test.YtlkpbpecgdphaaaHeaded
import Derived.Test.YtlkpbpecgdphaaaLinedCmd
import Derived.Test.YtlkpbpecgdphaaaLinedC
namespace Go.Proofs.Ytlkpbpecgdphaaa
open Go.RowKit

theorem LnPost.pass {r : Nat × Mk} {m : Mk} {vv vr vp vv' vr' vp' : Value} {R R' : List Row3} {w w2 w3 W' : World} (hb2 : Below w.heap.size w w2) (hlt : w.heap.size + 1 < w2.heap.size) (hb3 : Below w2.heap.size w2 w3) (hg : w3.grownBy W' (some (w.heap.size + 1)))
    (hX : ∀ X : Nat → Prop, (∀ b, X b → b < w2.heap.size) → MkFar w2 X m vv vr vp R → MkFar w3 X r.2 vv' vr' vp' R') : LnPost r m vv vr vp R w (.returned (.tuple #[.agg #[vv', vr', vp'], .int .i64 r.1])) W' := by
  have hb23 := hb2.trans (hb3.mono hb2.size)
  refine ⟨vv', vr', vp', R', rfl, hb23.grown hg hb23.size (fun k hk => by injection hk with hk; omega), fun X hXl h => ?_⟩
  have h2 : MkFar w2 (fun b => X b ∨ b = w.heap.size + 1) m vv vr vp R := fun W hs hk =>
    h W (Nat.le_trans hb2.size hs) (fun b hb hx => (hk b (Nat.lt_of_lt_of_le hb hb2.size) (fun e => by rcases e with e | e; exact hx e; omega)).trans (hb2.block b hb))
  have h3 := hX _ (fun b hb => by rcases hb with hb | hb; have := hXl b hb; have := hb2.size; omega; omega) h2
  intro W hs hk
  exact h3 W (Nat.le_trans hg.size hs) (fun b hb hx => (hk b (Nat.lt_of_lt_of_le hb hg.size) (fun e => hx (.inl e))).trans (hg.block b hb (fun e => hx (.inr (by injection e)))))

set_option maxHeartbeats 4000000 in
set_option maxRecDepth 100000 in
theorem lined_rule (m : Mk) (vv vr vp : Value) (R : List Row3) (s : ByteArray) (w : World) (h : MkRd w m vv vr vp R) (hs : Sane m 700) (hf : Few m) (hz : s.size ≤ 600) (hnote : noteB s = false) (htab : Lib.hasPrefix s.data.toList [9] = false) (hph : Lib.hasPrefix s.data.toList phB = false) (hcut : (Lib.cut s.data.toList [32, 61, 32]).2.2 = false) :
    Calls Try.prog 19 #[.agg #[vv, vr, vp], .string s] w (LnPost (lineR m s) m vv vr vp R w) := by
  obtain ⟨Av, cv, rfl, hrv⟩ := h.vars
  obtain ⟨Ar, cr, rfl, hrr⟩ := h.rules
  obtain ⟨Ap, cp, rfl, hrp⟩ := h.phony
  obtain ⟨r, hr⟩ : ∃ r, r = lineR m s := ⟨_, rfl⟩
  rw [← hr]
  have HR := Lib.hid hr
  have hlr := h.len
  have hnr : R.length ≤ 10 := by rw [hlr]; exact hf.rules
  have HL := Lib.hid hlr
  have HF := Lib.hid hf
  have HSA := Lib.hid hs
  have hnv6 : m.vars.length ≤ 6 := hf.vars
  have hnp7 : m.phony.length ≤ 700 := hs.phony
  have HM := Lib.hid h
  clear hr hlr hs hf h
  generalize hnr0 : R.length = nr at *
  have HNR := Lib.hid hnr0
  generalize hnp0 : m.phony.length = np at *
  have HNP := Lib.hid hnp0
  generalize hnv0 : m.vars.length = nv at *
  have HNV := Lib.hid hnv0
  clear hnr0 hnp0 hnv0
  have hH := Hd.start w (.slice Av nv cv) (.slice Ar nr cr) (.slice Ap np cp)
  have HH := Lib.hid hH
  have HRV := Lib.hid (hrv.belowS hH.bel)
  have HRR := Lib.hid (hrr.belowS hH.bel)
  have HRP := Lib.hid (hrp.belowS hH.bel)
  obtain ⟨c0, c1, c2, d0, d1, d2, f0, f1, f2⟩ := hH.cells
  have hlt0 := hH.lt
  have hw2 := hH.bel.size
  clear hH hrv hrr hrp
  have hpos : 0 < s.size := by
    rcases Nat.eq_zero_or_pos s.size with h | h
    · rw [noteB_nil' h] at hnote; cases hnote
    · exact h
  obtain ⟨ei, ec⟩ := cut_miss hcut
  have hx := HR.out
  unfold lineR at hx
  rw [if_neg (by rw [hnote]; simp), if_neg (by rw [htab]; simp), if_neg (by show ¬ Lib.hasPrefix s.data.toList phB = true; rw [hph]; simp), if_neg (by rw [hcut]; simp)] at hx
  have HX := Lib.hid hx
  have HFI := Lib.hid (show findR s.data.toList [32, 61, 32] 0 = -1 by unfold findR; rw [List.drop_zero, if_pos ei])
  clear hx ei ec hcut
  have hposz : (0 : Int) < (s.size : Int) := by omega
  have t1 := toList_ne hpos
  have t2 : ((s[0].toNat : Int) == 35) = false := by rw [byte_eqk (k := 35) (z := 35) rfl, ← noteB_cons hpos]; exact hnote
  have t3 : ((s[0].toNat : Int) == 9) = false := by rw [byte_eqk (k := 9) (z := 9) rfl, ← tab_cons hpos]; exact htab
  clear hnote htab
  by_cases h5 : 5 < s.size
  · have h5z : (5 : Int) < (s.size : Int) := by omega
    have h6z : (6 : Int) ≤ (s.size : Int) := by omega
    have t4 : ((s.extract 0 6).toList == [112, 104, 111, 110, 121, 32]) = false := (ph_long h5).trans hph
    clear hph
    go_enter Try.func19, Try.ntmps19
    go_upto_region 1 with fail
    generalize (w.alloc (.cells #[.slice Av nv cv, .slice Ar nr cr, .slice Ap np cp] 36)).alloc (.cells #[.slice none 0 0, .slice none 0 0, .slice none 0 0] 36) = w2 at *
    go_wp2_with fail
    refine (find_any s ⟨#[32, 61, 32]⟩ 0 w2 (by decide) (by decide) (by omega) (by omega)).mono ?_
    rintro e w' ⟨rfl, rfl⟩
    rw [show (⟨#[32, 61, 32]⟩ : ByteArray).data.toList = [32, 61, 32] from rfl, HFI.out]
    go_wp2_with fail
    refine (headed_any m (.slice Av nv cv) (.slice Ar nr cr) (.slice Ap np cp) R s w2 (HM.out.belowS HH.out.bel) HSA.out HF.out (by omega)).mono ?_
    rintro e w3 ⟨vv', vr', vp', R', rfl, hb3, hX⟩
    rw [← HX.out]
    rw [← HX.out] at hX
    have hrd := (hX (fun _ => False) (fun b hb => hb.elim) (HM.out.belowS HH.out.bel).far).rd
    obtain ⟨A1, k1, rfl, _⟩ := hrd.vars
    obtain ⟨A2, k2, rfl, _⟩ := hrd.rules
    obtain ⟨A3, k3, rfl, _⟩ := hrd.phony
    have hH3 := HH.out.below hb3
    obtain ⟨_, _, _, d0', d1', d2', f0', f1', f2'⟩ := hH3.cells
    have HPX := Lib.hid hX
    have HB3 := Lib.hid hb3
    have HKY := Lib.hid hH3.ky
    generalize r.2.vars.length = x1 at *
    generalize R'.length = x2 at *
    generalize r.2.phony.length = x3 at *
    obtain ⟨h1, h2⟩ := set3 HKY.out (.slice A1 x1 k1) (.slice A2 x2 k2) (.slice A3 x3 k3)
    have g0 : (((w3.setCell ⟨w.heap.size + 1, 0, none⟩ (.slice A1 x1 k1)).setCell ⟨w.heap.size + 1, 1, none⟩ (.slice A2 x2 k2)).setCell ⟨w.heap.size + 1, 2, none⟩ (.slice A3 x3 k3)).cell? ⟨w.heap.size + 1, 0, none⟩ = some (.slice A1 x1 k1) := by simp [World.cell?, h1]
    have g1 : (((w3.setCell ⟨w.heap.size + 1, 0, none⟩ (.slice A1 x1 k1)).setCell ⟨w.heap.size + 1, 1, none⟩ (.slice A2 x2 k2)).setCell ⟨w.heap.size + 1, 2, none⟩ (.slice A3 x3 k3)).cell? ⟨w.heap.size + 1, 1, none⟩ = some (.slice A2 x2 k2) := by simp [World.cell?, h1]
    have g2 : (((w3.setCell ⟨w.heap.size + 1, 0, none⟩ (.slice A1 x1 k1)).setCell ⟨w.heap.size + 1, 1, none⟩ (.slice A2 x2 k2)).setCell ⟨w.heap.size + 1, 2, none⟩ (.slice A3 x3 k3)).cell? ⟨w.heap.size + 1, 2, none⟩ = some (.slice A3 x3 k3) := by simp [World.cell?, h1]
    have HG := Lib.hid h2
    clear hX hb3 hH3 hrd h1 h2
    generalize hrc : (r.1 : Int) = rc at *
    have HRC := Lib.hid hrc
    clear hrc
    go_wp2
    refine bodyPost_ret (v := .tuple #[.agg #[.slice A1 x1 k1, .slice A2 x2 k2, .slice A3 x3 k3], .int .i64 rc]) ?_ rfl ?_
    · simp [results, Try.f19, go_sem, g0, g1, g2]
    · rw [← HRC.out]
      exact LnPost.pass HH.out.bel hlt0 HB3.out HG.out HPX.out
  · have h5z : decide ((5 : Int) < (s.size : Int)) = false := decide_eq_false (by omega)
    clear hph
    go_enter Try.func19, Try.ntmps19
    go_upto_region 1 with fail
    generalize (w.alloc (.cells #[.slice Av nv cv, .slice Ar nr cr, .slice Ap np cp] 36)).alloc (.cells #[.slice none 0 0, .slice none 0 0, .slice none 0 0] 36) = w2 at *
    go_wp2_with fail
    refine (find_any s ⟨#[32, 61, 32]⟩ 0 w2 (by decide) (by decide) (by omega) (by omega)).mono ?_
    rintro e w' ⟨rfl, rfl⟩
    rw [show (⟨#[32, 61, 32]⟩ : ByteArray).data.toList = [32, 61, 32] from rfl, HFI.out]
    go_wp2_with fail
    refine (headed_any m (.slice Av nv cv) (.slice Ar nr cr) (.slice Ap np cp) R s w2 (HM.out.belowS HH.out.bel) HSA.out HF.out (by omega)).mono ?_
    rintro e w3 ⟨vv', vr', vp', R', rfl, hb3, hX⟩
    rw [← HX.out]
    rw [← HX.out] at hX
    have hrd := (hX (fun _ => False) (fun b hb => hb.elim) (HM.out.belowS HH.out.bel).far).rd
    obtain ⟨A1, k1, rfl, _⟩ := hrd.vars
    obtain ⟨A2, k2, rfl, _⟩ := hrd.rules
    obtain ⟨A3, k3, rfl, _⟩ := hrd.phony
    have hH3 := HH.out.below hb3
    obtain ⟨_, _, _, d0', d1', d2', f0', f1', f2'⟩ := hH3.cells
    have HPX := Lib.hid hX
    have HB3 := Lib.hid hb3
    have HKY := Lib.hid hH3.ky
    generalize r.2.vars.length = x1 at *
    generalize R'.length = x2 at *
    generalize r.2.phony.length = x3 at *
    obtain ⟨h1, h2⟩ := set3 HKY.out (.slice A1 x1 k1) (.slice A2 x2 k2) (.slice A3 x3 k3)
    have g0 : (((w3.setCell ⟨w.heap.size + 1, 0, none⟩ (.slice A1 x1 k1)).setCell ⟨w.heap.size + 1, 1, none⟩ (.slice A2 x2 k2)).setCell ⟨w.heap.size + 1, 2, none⟩ (.slice A3 x3 k3)).cell? ⟨w.heap.size + 1, 0, none⟩ = some (.slice A1 x1 k1) := by simp [World.cell?, h1]
    have g1 : (((w3.setCell ⟨w.heap.size + 1, 0, none⟩ (.slice A1 x1 k1)).setCell ⟨w.heap.size + 1, 1, none⟩ (.slice A2 x2 k2)).setCell ⟨w.heap.size + 1, 2, none⟩ (.slice A3 x3 k3)).cell? ⟨w.heap.size + 1, 1, none⟩ = some (.slice A2 x2 k2) := by simp [World.cell?, h1]
    have g2 : (((w3.setCell ⟨w.heap.size + 1, 0, none⟩ (.slice A1 x1 k1)).setCell ⟨w.heap.size + 1, 1, none⟩ (.slice A2 x2 k2)).setCell ⟨w.heap.size + 1, 2, none⟩ (.slice A3 x3 k3)).cell? ⟨w.heap.size + 1, 2, none⟩ = some (.slice A3 x3 k3) := by simp [World.cell?, h1]
    have HG := Lib.hid h2
    clear hX hb3 hH3 hrd h1 h2
    generalize hrc : (r.1 : Int) = rc at *
    have HRC := Lib.hid hrc
    clear hrc
    go_wp2
    refine bodyPost_ret (v := .tuple #[.agg #[.slice A1 x1 k1, .slice A2 x2 k2, .slice A3 x3 k3], .int .i64 rc]) ?_ rfl ?_
    · simp [results, Try.f19, go_sem, g0, g1, g2]
    · rw [← HRC.out]
      exact LnPost.pass HH.out.bel hlt0 HB3.out HG.out HPX.out
end Go.Proofs.Ytlkpbpecgdphaaa
namespace Go.Proofs.Ytlkpbpecgdphaaa
open Go.RowKit

theorem lined_any (m : Mk) (vv vr vp : Value) (R : List Row3) (s : ByteArray) (w : World) (h : MkRd w m vv vr vp R) (hs : Sane m 700) (hf : Few m) (hz : s.size ≤ 600) :
    Calls Try.prog 19 #[.agg #[vv, vr, vp], .string s] w (LnPost (lineR m s) m vv vr vp R w) := by
  cases hnote : noteB s with
  | true => exact lined_note m vv vr vp R s w h hs hf hz hnote
  | false =>
    cases htab : Lib.hasPrefix s.data.toList [9] with
    | true => exact lined_cmd m vv vr vp R s w h hs hf hz hnote htab
    | false =>
      cases hph : Lib.hasPrefix s.data.toList phB with
      | true => exact lined_phony m vv vr vp R s w h hs hf hz hnote htab hph
      | false =>
        cases hcut : (Lib.cut s.data.toList [32, 61, 32]).2.2 with
        | true => exact lined_var m vv vr vp R s w h hs hf hz hnote htab hph hcut
        | false => exact lined_rule m vv vr vp R s w h hs hf hz hnote htab hph hcut
end Go.Proofs.Ytlkpbpecgdphaaa
namespace Go.Proofs.Ytlkpbpecgdphaaa
open Go.RowKit

structure Mo (w W : World) (vv vr vp : Value) : Prop where
  k2 : W.heap[w.heap.size]? = some (.cells #[.slice none 0 0, .slice none 0 0, .slice none 0 0] 36 (0, 0))
  k4 : W.heap[w.heap.size + 1]? = some (.cells #[vv, vr, vp] 36 (0, 0))
  bel : Below w.heap.size w W
section
variable {w W : World} {vv vr vp : Value}
theorem Mo.start (w : World) : Mo w ((w.alloc (.cells #[.slice none 0 0, .slice none 0 0, .slice none 0 0] 36)).alloc (.cells #[.slice none 0 0, .slice none 0 0, .slice none 0 0] 36)) (.slice none 0 0) (.slice none 0 0) (.slice none 0 0) := by
  have h := Hd.start w (.slice none 0 0) (.slice none 0 0) (.slice none 0 0)
  exact ⟨h.kx, h.ky, h.bel⟩
theorem Mo.lt (h : Mo w W vv vr vp) : w.heap.size + 1 < W.heap.size := (Array.getElem?_eq_some_iff.1 h.k4).1
theorem Mo.below (h : Mo w W vv vr vp) {W' : World} (hb : Below W.heap.size W W') : Mo w W' vv vr vp :=
  ⟨(hb.block _ (by have := h.lt; omega)).trans h.k2, (hb.block _ h.lt).trans h.k4, h.bel.trans (hb.mono h.bel.size)⟩
theorem Mo.cells4 (h : Mo w W vv vr vp) : W.cell? ⟨w.heap.size + 1, 0, none⟩ = some vv ∧ W.cell? ⟨w.heap.size + 1, 1, none⟩ = some vr ∧ W.cell? ⟨w.heap.size + 1, 2, none⟩ = some vp ∧ W.frozen? ⟨w.heap.size + 1, 0, none⟩ = false ∧ W.frozen? ⟨w.heap.size + 1, 1, none⟩ = false ∧ W.frozen? ⟨w.heap.size + 1, 2, none⟩ = false := by
  have k := h.k4
  refine ⟨?_, ?_, ?_, ?_, ?_, ?_⟩ <;> simp [World.cell?, World.frozen?, k]
theorem Mo.cells2 (h : Mo w W vv vr vp) : W.cell? ⟨w.heap.size, 0, none⟩ = some (.slice none 0 0) ∧ W.cell? ⟨w.heap.size, 1, none⟩ = some (.slice none 0 0) ∧ W.cell? ⟨w.heap.size, 2, none⟩ = some (.slice none 0 0) ∧ W.frozen? ⟨w.heap.size, 0, none⟩ = false ∧ W.frozen? ⟨w.heap.size, 1, none⟩ = false ∧ W.frozen? ⟨w.heap.size, 2, none⟩ = false := by
  have k := h.k2
  refine ⟨?_, ?_, ?_, ?_, ?_, ?_⟩ <;> simp [World.cell?, World.frozen?, k]
/-- m = x. -/
theorem Mo.setM (h : Mo w W vv vr vp) (a b c : Value) : Mo w (((W.setCell ⟨w.heap.size + 1, 0, none⟩ a).setCell ⟨w.heap.size + 1, 1, none⟩ b).setCell ⟨w.heap.size + 1, 2, none⟩ c) a b c ∧ W.grownBy (((W.setCell ⟨w.heap.size + 1, 0, none⟩ a).setCell ⟨w.heap.size + 1, 1, none⟩ b).setCell ⟨w.heap.size + 1, 2, none⟩ c) (some (w.heap.size + 1)) := by
  obtain ⟨h1, h2⟩ := set3 h.k4 a b c
  exact ⟨⟨(h2.block _ (by have := h.lt; omega) (fun e => by injection e with e; omega)).trans h.k2, h1, h.bel.grown h2 h.bel.size (fun k hk => by injection hk with hk; omega)⟩, h2⟩
/-- The result is laid. -/
theorem Mo.ret (h : Mo w W vv vr vp) (a b c : Value) : (((W.setCell ⟨w.heap.size, 0, none⟩ a).setCell ⟨w.heap.size, 1, none⟩ b).setCell ⟨w.heap.size, 2, none⟩ c).cell? ⟨w.heap.size, 0, none⟩ = some a ∧
    (((W.setCell ⟨w.heap.size, 0, none⟩ a).setCell ⟨w.heap.size, 1, none⟩ b).setCell ⟨w.heap.size, 2, none⟩ c).cell? ⟨w.heap.size, 1, none⟩ = some b ∧
    (((W.setCell ⟨w.heap.size, 0, none⟩ a).setCell ⟨w.heap.size, 1, none⟩ b).setCell ⟨w.heap.size, 2, none⟩ c).cell? ⟨w.heap.size, 2, none⟩ = some c ∧
    W.grownBy (((W.setCell ⟨w.heap.size, 0, none⟩ a).setCell ⟨w.heap.size, 1, none⟩ b).setCell ⟨w.heap.size, 2, none⟩ c) (some w.heap.size) ∧
    Below w.heap.size w (((W.setCell ⟨w.heap.size, 0, none⟩ a).setCell ⟨w.heap.size, 1, none⟩ b).setCell ⟨w.heap.size, 2, none⟩ c) := by
  obtain ⟨h1, h2⟩ := set3 h.k2 a b c
  exact ⟨by simp [World.cell?, h1], by simp [World.cell?, h1], by simp [World.cell?, h1], h2, h.bel.grown h2 h.bel.size (fun k hk => by injection hk with hk; omega)⟩
end
/-- What a change of blocks in X leaves. -/
theorem MkFar.grown {w w' : World} {X : Nat → Prop} {m : Mk} {vv vr vp : Value} {R : List Row3} {g : Nat} (h : MkFar w X m vv vr vp R) (hg : w.grownBy w' (some g)) (hx : X g) : MkFar w' X m vv vr vp R := fun W hs hk =>
  h W (Nat.le_trans hg.size hs) (fun b hb hn => (hk b (Nat.lt_of_lt_of_le hb hg.size) hn).trans (hg.block b hb (fun e => hn (by injection e with e; rw [e]; exact hx))))
theorem MkFar.plus {w w' : World} {X : Nat → Prop} {m : Mk} {vv vr vp : Value} {R : List Row3} (h : MkFar w X m vv vr vp R) (hb : Below w.heap.size w w') : MkFar w' (fun b => X b ∨ b = w.heap.size) m vv vr vp R := fun W hs hk =>
  h W (Nat.le_trans hb.size hs) (fun b hlt hx => (hk b (Nat.lt_of_lt_of_le hlt hb.size) (fun e => by rcases e with e | e; exact hx e; omega)).trans (hb.block b hlt))
theorem MkFar.less {w : World} {X X' : Nat → Prop} {m : Mk} {vv vr vp : Value} {R : List Row3} (h : MkFar w X' m vv vr vp R) (hx : ∀ b, X b → X' b) : MkFar w X m vv vr vp R := fun W hs hk =>
  h W hs (fun b hlt hn => hk b hlt (fun e => hn (hx b e)))
theorem zmake {w : World} {b : Nat} (k : w.heap[b]? = some (.cells #[.slice none 0 0, .slice none 0 0, .slice none 0 0] 36 (0, 0))) : w.cell? ⟨b, 0, none⟩ = some (.slice none 0 0) ∧ w.cell? ⟨b, 1, none⟩ = some (.slice none 0 0) ∧ w.cell? ⟨b, 2, none⟩ = some (.slice none 0 0) ∧ w.frozen? ⟨b, 0, none⟩ = false ∧ w.frozen? ⟨b, 1, none⟩ = false ∧ w.frozen? ⟨b, 2, none⟩ = false := by
  refine ⟨?_, ?_, ?_, ?_, ?_, ?_⟩ <;> simp [World.cell?, World.frozen?, k]
def MoPost (s : ByteArray) (w : World) (e : Ending) (w' : World) : Prop := ∃ vv vr vp R, e = .returned (.tuple #[.agg #[vv, vr, vp], .int .i64 (parseR s).1]) ∧ MkRd w' (parseR s).2 vv vr vp R ∧ Below w.heap.size w w'
/-- Where the loop over the lines stands. -/
structure MoRel (s : ByteArray) (w : World) (B : Nat) (vl : Value) (i : Value) (wr : World) : Prop where
  ex : ∃ (k : Nat) (m : Mk) (vv vr vp : Value) (R : List Row3), k ≤ (lines s).length ∧ i = .int .i64 k ∧ linesR mk0 (lines s) = linesR m ((lines s).drop k) ∧ Sane m k ∧ Few m ∧ Mo w wr vv vr vp ∧ MkFar wr (fun b => b = w.heap.size ∨ b = w.heap.size + 1) m vv vr vp R ∧ wr.ownsRow B 9 1 vl (lines s).length (tcells (lines s))
/-- One line has been read into a block of its own. -/
structure MoCut (w wr : World) (X : Nat → Prop) (m' : Mk) (vv vr vp : Value) (R : List Row3) (b7 : Nat) (wx : World) : Prop where
  blk : wx.heap[b7]? = some (.cells #[vv, vr, vp] 36 (0, 0))
  le : wr.heap.size ≤ b7
  bel : Below wr.heap.size wr wx
  far : MkFar wx X m' vv vr vp R
end Go.Proofs.Ytlkpbpecgdphaaa
