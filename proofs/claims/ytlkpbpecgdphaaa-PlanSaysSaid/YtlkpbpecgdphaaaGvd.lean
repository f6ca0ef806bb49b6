/-
  WALK: hammerpondref.visit: what visitR says, by induction on the room that is left.
-/
import Derived.Test.YtlkpbpecgdphaaaGfp
import Derived.Test.YtlkpbpecgdphaaaRc
namespace Go.Proofs.Ytlkpbpecgdphaaa
open Go.RowKit

theorem groupFor_any (m : Mk) (l : List F) (vv vr vp : Value) (R : List Row3) (name : ByteArray) (Af : Option Addr) (cf : Nat) (w : World) (h : MkRd w m vv vr vp R) (hf : RdF w w.heap.size Af l.length cf l) (hL : Lim m) (hl : l.length ≤ 1000000) (hn : name.size ≤ 1000) (hE : ∀ r ∈ m.rules, name ∈ r.1 → fillR r.2.1 ⟨#[]⟩ = r.2.1) (hP : ∀ r ∈ m.rules, fitsB m.rules l name r = true → inT m.phony (headT r.1) = false) :
    Calls Try.prog 41 #[.agg #[vv, vr, vp], .slice Af l.length cf, .string name] w (GrPost m l name w) := by
  cases he : explO m.rules name with
  | some k => exact groupFor_exp m l vv vr vp R name Af cf w h hL hn k he hE
  | none => exact groupFor_pat m l vv vr vp R name Af cf w h hf hL hl hn he hP
/-- What the document's visit comes to. -/
def VdPost (r : Nat × List Gp) (w : World) (e : Ending) (w' : World) : Prop := ∃ A n c, e = .returned (.tuple #[.slice A n c, .int .i64 r.1]) ∧ (r.1 = 0 → n = r.2.length ∧ ∃ R4, GpRd w' A n c r.2 R4) ∧ Below w.heap.size w w'
def VdRel (w1 : World) (f : ByteArray → List Gp → Nat × List Gp) (out : List Gp) (nd : List ByteArray) (n : Nat) (vo i : Value) (wr : World) : Prop :=
  ∃ (k : Nat) (out' : List Gp) (A : Option Addr) (c : Nat) (R4 : List Row4), k ≤ n ∧ i = .int .i64 k ∧ vo = .slice A out'.length c ∧ needsR f nd out = needsR f (nd.drop k) out' ∧ FewG out' ∧ GpRd wr A out'.length c out' R4 ∧ Below w1.heap.size w1 wr
theorem gcells_len (R : List Row4) : (gcells R).length = R.length * 4 := by
  induction R with
  | nil => rfl
  | cons x R ih => rw [gcells_cons]; simp at ih ⊢; omega
theorem GpRd.rdx {w : World} {A : Option Addr} {n c : Nat} {out : List Gp} {R4 : List Row4} (h : GpRd w A n c out R4) : RdX w 4 A n (gcells R4) := by
  refine ⟨by rw [gcells_len, h.rows.1], fun u hu => ?_, fun hn => ?_⟩
  · simp only [gcells, List.mem_flatMap, List.mem_cons, List.mem_nil_iff, or_false] at hu
    obtain ⟨x, hx, hu⟩ := hu
    obtain ⟨i, hi, e⟩ := List.mem_iff_getElem.1 hx
    obtain ⟨g, hg⟩ : ∃ g, out[i]? = some g := ⟨_, List.getElem?_eq_getElem (by rw [h.len, ← h.rows.1]; exact hi)⟩
    obtain ⟨⟨A1, c1, e1, -⟩, ⟨A2, c2, e2, -⟩, ⟨A3, c3, e3, -⟩, -⟩ := h.each i x g (by rw [List.getElem?_eq_getElem hi, e]) hg
    rcases hu with rfl | rfl | rfl | rfl
    · rw [e1]; rfl
    · rw [e2]; rfl
    · rw [e3]; rfl
    · rfl
  · obtain ⟨b, off, e, _, hc⟩ := h.rows.2.2.2 hn
    exact ⟨b, off, e, hc⟩
/-- One group more, in a row of one's own. -/
theorem GpRd.snoc {w w' : World} {A : Option Addr} {n c B : Nat} {out : List Gp} {R4 : List Row4} {g : Gp} {a b d v : Value} (h : GpRd w A n c out R4) (hb : Below w.heap.size w w') (ha : Sl w' a g.tg) (hn : Sl w' b g.nd) (hc : Sl w' d g.cm)
    (ho : w'.ownsRow B tGr 4 v (n + 1) (gcells R4 ++ [a, b, d, .bool g.ph])) : ∃ A' c', v = .slice A' (out ++ [g]).length c' ∧ GpRd w' A' (out ++ [g]).length c' (out ++ [g]) (R4 ++ [(a, b, d, g.ph)]) := by
  have e : gcells R4 ++ [a, b, d, .bool g.ph] = gcells (R4 ++ [(a, b, d, g.ph)]) := by rw [gcells_append]; rfl
  have hl : n + 1 = (R4 ++ [(a, b, d, g.ph)]).length := by rw [List.length_append, h.rows.1]; rfl
  have hl2 : (out ++ [g]).length = (R4 ++ [(a, b, d, g.ph)]).length := by rw [List.length_append, List.length_append, h.len, h.rows.1]; rfl
  rw [e, hl] at ho
  obtain ⟨A', c', ev, hr⟩ := RdG4.of_own ho
  refine ⟨A', c', by rw [hl2]; exact ev, by rw [hl2]; exact hr, rfl, fun i x q hx hq => ?_⟩
  rcases Nat.lt_or_ge i n with h1 | h1
  · rw [List.getElem?_append_left (by rw [h.rows.1]; exact h1)] at hx
    rw [List.getElem?_append_left (by rw [h.len]; exact h1)] at hq
    obtain ⟨a1, a2, a3, a4⟩ := h.each i x q hx hq
    exact ⟨a1.belowS hb, a2.belowS hb, a3.belowS hb, a4⟩
  · rw [List.getElem?_append_right (by rw [h.rows.1]; exact h1), h.rows.1] at hx
    rw [List.getElem?_append_right (by rw [h.len]; exact h1), h.len] at hq
    have hi : i - n = 0 := by
      have := (List.getElem?_eq_some_iff.1 hq).1
      simp at this; omega
    rw [hi] at hx hq
    simp at hx hq
    subst hx hq
    exact ⟨ha, hn, hc, rfl⟩
/-- Names that a visit may be asked for: no '%' in them. -/
structure Asks (m : Mk) (l : List F) (U : List ByteArray) : Prop where
  size : ∀ x ∈ U, x.size ≤ 1000
  expl : ∀ x ∈ U, patB x = false → ∀ r ∈ m.rules, x ∈ r.1 → fillR r.2.1 ⟨#[]⟩ = r.2.1
  phon : ∀ r ∈ m.rules, ∀ x, fitsB m.rules l x r = true → inT m.phony (headT r.1) = false
  need : ∀ x g, patB x = false → grpR m l x = some g → ∀ y ∈ g.nd, patB y = false
set_option maxRecDepth 100000 in
set_option maxHeartbeats 16000000 in
theorem refVisit_any (m : Mk) (l : List F) (goal : ByteArray) (hL : Lim m) (hl : l.length ≤ 1000000) (hA : Asks m l (univ m l goal)) :
    ∀ (n : Nat) (name : ByteArray) (way : List ByteArray) (out : List Gp) (vv vr vp : Value) (R : List Row3) (Af Aw Ao : Option Addr) (cf nw cw co : Nat) (R4 : List Row4) (w : World), name ∈ univ m l goal → patB name = false → room (univ m l goal) way < n → nw + 10 * n ≤ 1000000 → FewG out →
      MkRd w m vv vr vp R → RdF w w.heap.size Af l.length cf l → RdS w w.heap.size Aw nw cw way → GpRd w Ao out.length co out R4 →
      Calls Try.prog 22 #[.agg #[vv, vr, vp], .slice Af l.length cf, .string name, .slice Aw nw cw, .slice Ao out.length co] w (VdPost (visitR m l n name way out) w) := by
  intro n
  induction n with
  | zero => intro _ _ _ _ _ _ _ _ _ _ _ _ _ _ _ _ _ _ h; omega
  | succ n ih =>
  intro name way out vv vr vp R Af Aw Ao cf nw cw co R4 w hname hpat hroom hnw hfew hM hF hW hO
  have hns := hA.size name hname
  obtain ⟨r, hr⟩ : ∃ r, r = visitR m l (n + 1) name way out := ⟨_, rfl⟩
  rw [← hr]
  unfold visitR at hr
  obtain ⟨Av, cv, rfl, -⟩ := hM.vars
  obtain ⟨Ar, cr, rfl, -⟩ := hM.rules
  obtain ⟨Ap, cp, rfl, -⟩ := hM.phony
  obtain ⟨w1, hw1⟩ : ∃ w1, w1 = w.alloc (.cells #[.slice Av m.vars.length cv, .slice Ar R.length cr, .slice Ap m.phony.length cp] tMa) := ⟨_, rfl⟩
  have hb1 : Below w.heap.size w w1 := by rw [hw1]; exact (Below.refl _ _).alloc (Nat.le_refl _) _
  have pm : Blk w1 w.heap.size tMa #[.slice Av m.vars.length cv, .slice Ar R.length cr, .slice Ap m.phony.length cp] := by rw [hw1]; exact Blk.new w tMa _
  have HR := Lib.hid hr
  have IH := Lib.hid ih
  have HL := Lib.hid hL
  have HA := Lib.hid hA
  have HFW := Lib.hid hfew
  have HN := Lib.hid hname
  have HPT := Lib.hid hpat
  have HB1 := Lib.hid hb1
  have PM := Lib.hid pm
  have HM := Lib.hid (hM.belowS hb1)
  have HF := Lib.hid (RdF.belowS hF hb1)
  have HW := Lib.hid (hW.belowS hb1)
  have HO := Lib.hid (hO.belowS hb1)
  have HW1 := Lib.hid hw1
  clear hr ih hL hA hfew hname hpat hb1 pm hM hF hW hO hw1
  go_enter Try.func22, Try.ntmps22
  go_wp2_with fail
  rw [← HW1.out]
  clear HW1
  refine (in_any Aw nw cw way name w1 HW.out (by omega)).mono ?_
  rintro e w1' ⟨rfl, rfl⟩
  cases h1 : inT way name with
  | true =>
    have hr := HR.out
    rw [if_pos h1] at hr
    have HX := Lib.hid (show VdPost r w (.returned (.tuple #[.slice Ao out.length co, .int .i64 8])) w1 by rw [hr]; exact ⟨_, _, _, rfl, fun h => (by cases h), HB1.out⟩)
    clear hr h1
    go_wp2
    go_ret2
    exact HX.out
  | false =>
    have hr := HR.out
    rw [if_neg (by rw [h1]; simp)] at hr
    have HR := Lib.hid hr
    have HWN := Lib.hid h1
    clear hr h1
    go_wp2_with fail
    refine (makerOf_any Ao out.length co out R4 name w1 HO.out (fun g hg => Nat.le_trans (HFW.out.2 g hg) (by omega))).mono ?_
    rintro e w1' ⟨rfl, rfl⟩
    cases h2 : makerO out name with
    | some i =>
      have hr := HR.out
      rw [if_pos (by rw [h2]; rfl)] at hr
      have hi0 : (0 : Int) ≤ idxV (some i) := by show (0 : Int) ≤ (i : Int); omega
      have HX := Lib.hid (show VdPost r w (.returned (.tuple #[.slice Ao out.length co, .int .i64 0])) w1 by rw [hr]; exact ⟨_, _, _, rfl, fun _ => ⟨rfl, _, HO.out⟩, HB1.out⟩)
      clear hr h2
      go_wp2
      go_ret2
      exact HX.out
    | none =>
      have hr := HR.out
      rw [if_neg (by rw [h2]; simp)] at hr
      have HR := Lib.hid hr
      rw [show idxV none = -1 from rfl]
      have m0 := PM.out.cell 0
      have m1 := PM.out.cell 1
      have m2 := PM.out.cell 2
      have HGF := Lib.hid (groupFor_any m l _ _ _ R name Af cf w1 HM.out HF.out HL.out hl hns (HA.out.expl name HN.out HPT.out) (fun r hr hf => HA.out.phon r hr name hf))
      clear hr h2
      go_wp2_with fail
      refine HGF.out.mono ?_
      rintro e w2 ⟨ga, gb, gc, ph, rfl, hgo, hb2, ⟨Ga, na, ka, rfl⟩, ⟨Gb, nb, kb, rfl⟩, ⟨Gc, nc, kc, rfl⟩⟩
      obtain ⟨w3, hw3⟩ : ∃ w3, w3 = w2.alloc (.cells #[.slice Ga na ka, .slice Gb nb kb, .slice Gc nc kc, .bool ph] tGr) := ⟨_, rfl⟩
      have hb3 : Below w2.heap.size w2 w3 := by rw [hw3]; exact (Below.refl _ _).alloc (Nat.le_refl _) _
      have pg : Blk w3 w2.heap.size tGr #[.slice Ga na ka, .slice Gb nb kb, .slice Gc nc kc, .bool ph] := by rw [hw3]; exact Blk.new w2 tGr _
      have hb13 := hb2.trans (hb3.mono hb2.size)
      have HB13 := Lib.hid hb13
      have HB3 := Lib.hid (HB1.out.trans (hb13.mono HB1.out.size))
      have PG := Lib.hid pg
      have HW3 := Lib.hid hw3
      cases hg : grpR m l name with
      | none =>
        rw [Option.isSome_none]
        have hr := HR.out
        rw [hg] at hr
        dsimp only at hr
        have HR2 := Lib.hid hr
        have HGT := Lib.hid (refGet_any Af l.length cf l name w3 (RdF.belowS HF.out hb13) hl)
        clear hr hgo hb2 hb3 hb13 pg hw3 hg
        go_wp2_with fail
        rw [← HW3.out]
        refine HGT.out.mono ?_
        rintro e w4 ⟨rfl, hw4⟩
        subst hw4
        cases hh : has l name with
        | true =>
          have hr := HR2.out
          rw [if_pos hh] at hr
          have HX := Lib.hid (show VdPost r w (.returned (.tuple #[.slice Ao out.length co, .int .i64 0])) w3 by rw [hr]; exact ⟨_, _, _, rfl, fun _ => ⟨rfl, _, HO.out.belowS HB13.out⟩, HB3.out⟩)
          clear hr hh
          go_wp2
          go_ret2
          exact HX.out
        | false =>
          have hr := HR2.out
          rw [if_neg (by rw [hh]; simp)] at hr
          have HX := Lib.hid (show VdPost r w (.returned (.tuple #[.slice Ao out.length co, .int .i64 5])) w3 by rw [hr]; exact ⟨_, _, _, rfl, fun h => (by cases h), HB3.out⟩)
          clear hr hh
          go_wp2
          go_ret2
          exact HX.out
      | some g =>
        rw [Option.isSome_some]
        have hr := HR.out
        rw [hg] at hr
        dsimp only at hr
        obtain ⟨o1, o2, o3, hph⟩ := GpOwn.parts (hgo g hg)
        subst hph
        obtain ⟨Ga', ka', e1, -⟩ := RdS.of_own o1
        obtain ⟨Gb', kb', e2, -⟩ := RdS.of_own o2
        obtain ⟨Gc', kc', e3, -⟩ := RdS.of_own o3
        injection e1 with e11 e12 e13
        injection e2 with e21 e22 e23
        injection e3 with e31 e32 e33
        subst e11 e13 e21 e23 e31 e33 e12 e22 e32
        have O1 := Lib.hid (own1_below o1 hb3)
        have O2 := Lib.hid (own1_below o2 hb3)
        have O3 := Lib.hid (own1_below o3 hb3)
        have hszs := grp_sizes HL.out hns hg
        have HG := Lib.hid hg
        obtain ⟨i, hi, hz, hsz, hby⟩ := str_parts
        have HI := Lib.hid hi
        have HZ := Lib.hid hz
        have HSZ := Lib.hid hsz
        have HBY := Lib.hid hby
        obtain ⟨f, hf⟩ : ∃ f : ByteArray → List Gp → Nat × List Gp, f = fun x o => visitR m l n x (way ++ g.tg) o := ⟨_, rfl⟩
        rw [← hf] at hr
        have HFE := Lib.hid hf
        have HR2 := Lib.hid hr
        have l1 := hszs.1
        have l2 := hszs.2.1
        have HRDW := Lib.hid (fun (W' : World) (hb : Below w3.heap.size w3 W') => show RdX W' 1 Aw nw (tcells way) from RdS.x ((HW.out.belowS HB13.out).belowS hb))
        have HRDG := Lib.hid (fun (W' : World) (hb : Below w3.heap.size w3 W') => show RdX W' 1 Ga g.tg.length (tcells g.tg) from by
          obtain ⟨A', c', e, hr⟩ := RdS.of_own (own1_below O1.out hb)
          injection e with e1 _ e3
          subst e1 e3
          exact RdS.x hr)
        have HS1 := Lib.hid (fun (W' : World) (hb : Below w3.heap.size w3 W') => show W'.cell? ⟨w2.heap.size, 0, none⟩ = some (.slice Ga g.tg.length ka) from (hb.cell (p := ⟨w2.heap.size, 0, none⟩) PG.out.lt).trans (PG.out.cell 0))
        have K3 := Lib.hid (show Below w3.heap.size w3 w3.drew from (Below.refl _ w3).drew)
        have q0 := HS1.out _ K3.out
        clear hr hgo hb2 hb3 hb13 pg hw3 hg o1 o2 o3 hszs hf hi hz hsz hby HGF m0 m1 m2
        go_wp2_with fail
        rw [← HW3.out]
        clear HW3
        go_region_held3 (fun W' => W'.cell? ⟨w2.heap.size, 0, none⟩ = some (.slice Ga g.tg.length ka))
          (first | with_reducible exact HS1.out _ K6.out | with_reducible exact HS1.out _ K5.out | with_reducible exact HS1.out _ K3.out)
          (first
            | (refine step_append_rd _ (by rfl) (.const (.slice none 0 0)) (.tmp 50) _ (by rfl) w3.heap.size tStr i _ 1 16 Try.underlying27 HI.out HZ.out HSZ.out HBY.out rfl (by decide) _ 0 [] (by rfl) (World.ownsRow_nil w3.drew w3.heap.size tStr 1) Aw nw cw (tcells way) (by rfl) (HRDW.out _ K3.out) (by unfold maxLen; omega) (by omega) (Nat.le_refl _) ?_; intro v5 w5 own5 g5 _; rw [Nat.zero_add] at own5; obtain ⟨A5, k5, rfl⟩ := own_shape own5; have hb5 : Below w3.heap.size w3 w5 := K3.out.grown g5 (Nat.le_refl _) (fun k hk => by cases hk); have K5 := Lib.hid hb5; have O5 := Lib.hid own5; clear hb5 own5 g5)
            | (refine step_append_rd _ (by rfl) (.tmp 51) (.tmp 53) _ (by rfl) w3.heap.size tStr i _ 1 16 Try.underlying27 HI.out HZ.out HSZ.out HBY.out rfl (by decide) _ nw _ (by rfl) O5.out Ga g.tg.length ka (tcells g.tg) (by rfl) (HRDG.out _ K5.out) (by unfold maxLen; omega) (by omega) K5.out.size ?_; intro v6 w6 own6 g6 _; obtain ⟨A6, k6, rfl⟩ := own_shape own6; have hb6 : Below w3.heap.size w3 w6 := K5.out.grown g6 K5.out.size (fun k hk => (O5.out.lt k hk).1); have K6 := Lib.hid hb6; have O6 := Lib.hid own6; clear hb6 own6 g6)
            | fail)
        have hlw := HW.out.1
        have hown6 : w6.ownsRow w3.heap.size tStr 1 (.slice A6 (nw + g.tg.length) k6) (nw + g.tg.length) (tcells (way ++ g.tg)) := by
          have := O6.out
          rw [List.nil_append] at this
          have e : tcells way ++ tcells g.tg = tcells (way ++ g.tg) := by simp [tcells]
          rw [e] at this
          exact this
        obtain ⟨A6', k6', e6, hr6⟩ := RdS.of_own hown6
        injection e6 with e61 e62 e63
        subst e61 e63
        have RW6 := Lib.hid hr6
        have hnl : (0 : Int) ≤ (g.nd.length : Int) := by omega
        have BP6 := Lib.hid (HB13.out.trans (K6.out.mono HB13.out.size))
        have PG6 := Lib.hid (show Blk w6 w2.heap.size tGr _ from (K6.out.block _ PG.out.lt).trans PG.out)
        have PM6 := Lib.hid (show Blk w6 w.heap.size tMa _ from (BP6.out.block _ PM.out.lt).trans PM.out)
        have y1 : w6.cell? ⟨w2.heap.size, 1, none⟩ = some (.slice Gb g.nd.length kb) := PG6.out.cell 1
        have HFF := Lib.hid (fun (x : ByteArray) (o : List Gp) (ho : FewG o) => show FewG (f x o).2 from by rw [HFE.out]; exact visit_few HL.out n x _ o ho)
        clear hown6 e62 hr6 O6 O5 K5 HRDW HRDG HS1 q0 K3
        go_wp2
        go_loopw [4, 18] (fun vo i wr => VdRel w6 f out g.nd g.nd.length vo i wr) (fun _ i _ => g.nd.length - (intOf i).toNat)
        case atStart => exact ⟨0, out, Ao, co, R4, Nat.zero_le _, rfl, rfl, rfl, HFW.out, HO.out.belowS BP6.out, Below.refl _ _⟩
        case round =>
          obtain ⟨k, out1, A1, c1, R41, hk, rfl, rfl, hnr, hfw1, hgp1, hbw⟩ := hrel
          have NR := Lib.hid hnr
          have FW1 := Lib.hid hfw1
          have GP1 := Lib.hid hgp1
          have HBW := Lib.hid hbw
          have z1 : wr.cell? ⟨w2.heap.size, 1, none⟩ = some (.slice Gb g.nd.length kb) := (hbw.cell (p := ⟨w2.heap.size, 1, none⟩) PG6.out.lt).trans (PG6.out.cell 1)
          clear hnr hfw1 hgp1 hbw y1
          by_cases hlt : k < g.nd.length
          · have hkz : (k : Int) < (g.nd.length : Int) := by omega
            obtain ⟨x, hx⟩ : ∃ x, g.nd[k]? = some x := ⟨_, List.getElem?_eq_getElem hlt⟩
            have hxm := List.mem_of_getElem? hx
            obtain ⟨Gb', kb', e2, r2⟩ := RdS.of_own (own1_below (own1_below O2.out K6.out) HBW.out)
            injection e2 with e21 e22 e23
            subst e21 e23
            obtain ⟨b2, o2, eB, hb2l, hcx⟩ := r2.at_ hx
            have hpm : Blk wr w.heap.size tMa #[.slice Av m.vars.length cv, .slice Ar R.length cr, .slice Ap m.phony.length cp] := (HBW.out.block _ PM6.out.lt).trans PM6.out
            rw [eB] at z1
            have hS := fun (W' : World) (hb : Below wr.heap.size wr W') => show W'.cell? ⟨w.heap.size, 0, none⟩ = some (.slice Av m.vars.length cv) ∧ W'.cell? ⟨w.heap.size, 1, none⟩ = some (.slice Ar R.length cr) ∧ W'.cell? ⟨w.heap.size, 2, none⟩ = some (.slice Ap m.phony.length cp) ∧ W'.cell? ⟨w2.heap.size, 1, none⟩ = some (.slice (some ⟨b2, o2, none⟩) g.nd.length kb) ∧ W'.cell? ⟨b2, o2 + k, none⟩ = some (.string x) from
              ⟨(hb.cell (p := ⟨w.heap.size, 0, none⟩) hpm.lt).trans (hpm.cell 0), (hb.cell (p := ⟨w.heap.size, 1, none⟩) hpm.lt).trans (hpm.cell 1), (hb.cell (p := ⟨w.heap.size, 2, none⟩) hpm.lt).trans (hpm.cell 2), (hb.cell (p := ⟨w2.heap.size, 1, none⟩) (Nat.lt_of_lt_of_le PG6.out.lt HBW.out.size)).trans z1, (hb.cell (p := ⟨b2, _, none⟩) hb2l).trans hcx⟩
            have HS4 := Lib.hid hS
            have K1 := Lib.hid (show Below wr.heap.size wr wr.drew from (Below.refl _ wr).drew)
            obtain ⟨q1, q2, q3, q4, q5⟩ := hS wr.drew K1.out
            have hbm : Below w1.heap.size w1 wr := BP6.out.trans (HBW.out.mono BP6.out.size)
            have hbmd := hbm.trans (K1.out.mono hbm.size)
            have hstep : needsR f (g.nd.drop k) out1 = if (f x out1).1 ≠ 0 then f x out1 else needsR f (g.nd.drop (k + 1)) (f x out1).2 := by
              rw [List.drop_eq_getElem_cons hlt, show g.nd[k] = x from (List.getElem?_eq_some_iff.1 hx).2]
              rfl
            have ST := Lib.hid hstep
            have hvis := IH.out x (way ++ g.tg) out1 _ _ _ R Af A6 A1 cf (nw + g.tg.length) k6 c1 R41 wr.drew (grp_needs HG.out x hxm) (HA.out.need name g HPT.out HG.out x hxm) (room_need HG.out HN.out HWN.out hroom) (by omega) FW1.out (HM.out.belowS hbmd) (RdF.belowS HF.out hbmd) ((RW6.out.belowS HBW.out).belowS K1.out) (GP1.out.belowS K1.out)
            obtain ⟨q, hq⟩ : ∃ q, q = f x out1 := ⟨_, rfl⟩
            rw [show visitR m l n x (way ++ g.tg) out1 = q by rw [hq, HFE.out]] at hvis
            have HVI := Lib.hid hvis
            have HQ := Lib.hid hq
            clear hx hxm r2 e22 eB hpm hS hbm hbmd hstep hvis hq
            go_wp2_with fail
            go_region_held3 (fun W' => W'.cell? ⟨w.heap.size, 0, none⟩ = some (.slice Av m.vars.length cv) ∧ W'.cell? ⟨w.heap.size, 1, none⟩ = some (.slice Ar R.length cr) ∧ W'.cell? ⟨w.heap.size, 2, none⟩ = some (.slice Ap m.phony.length cp) ∧ W'.cell? ⟨w2.heap.size, 1, none⟩ = some (.slice (some ⟨b2, o2, none⟩) g.nd.length kb) ∧ W'.cell? ⟨b2, o2 + k, none⟩ = some (.string x))
              (first | with_reducible exact HS4.out _ K7.out | with_reducible exact HS4.out _ K1.out)
              (first
                | (go_at_call 22; refine HVI.out.mono ?_; rintro e w7 ⟨A7, n7, c7, rfl, hok, hb7⟩; have K7 := Lib.hid (K1.out.trans (hb7.mono K1.out.size)); have OK7 := Lib.hid hok; clear hb7 hok)
                | fail)
            have HBW7 := Lib.hid (HBW.out.trans (K7.out.mono HBW.out.size))
            by_cases h0 : q.1 = 0
            · obtain ⟨hn7, R7, hgp7⟩ := OK7.out h0
              subst hn7
              have j1 : decide ((0 : Int) < (q.1 : Int)) = false := decide_eq_false (by omega)
              have st := ST.out
              rw [← HQ.out, if_neg (by simpa using h0)] at st
              have HN2 := Lib.hid (NR.out.trans st)
              have HF2 := Lib.hid (show FewG q.2 from by rw [HQ.out]; exact HFF.out x out1 FW1.out)
              have HG7 := Lib.hid hgp7
              clear hgp7 st OK7
              go_wp2
              go_roundw
              case rel => exact ⟨k + 1, q.2, A7, c7, R7, by omega, by go_num, rfl, HN2.out, HF2.out, HG7.out, HBW7.out⟩
              case measure => simp [intOf]; omega
            · have j1 : (0 : Int) < (q.1 : Int) := by omega
              have st := ST.out
              rw [← HQ.out, if_pos h0] at st
              have hr := HR2.out
              rw [NR.out.trans st, if_pos h0] at hr
              have HX := Lib.hid (show VdPost r w (.returned (.tuple #[.slice A1 out1.length c1, .int .i64 q.1])) w7 by rw [hr]; exact ⟨_, _, _, rfl, fun h => absurd h h0, HB3.out.trans ((K6.out.trans (HBW7.out.mono K6.out.size)).mono HB3.out.size)⟩)
              clear st hr h0 OK7
              go_wp2
              go_ret2
              exact HX.out
          · obtain rfl : k = g.nd.length := by omega
            have hnr := NR.out
            rw [List.drop_length] at hnr
            have hr := HR2.out
            rw [hnr, show needsR f [] out1 = (0, out1) from rfl, if_neg (by simp)] at hr
            have hle := FW1.out.1
            have HBQ := Lib.hid (HB3.out.trans ((K6.out.trans (HBW.out.mono K6.out.size)).mono HB3.out.size))
            by_cases h10 : 10 ≤ out1.length
            · rw [if_pos h10] at hr
              have z2 : ((out1.length : Int) == 10) = true := by rw [beq_iff_eq]; omega
              have HX := Lib.hid (show VdPost r w (.returned (.tuple #[.slice A1 out1.length c1, .int .i64 2])) wr by rw [hr]; exact ⟨_, _, _, rfl, fun h => (by cases h), HBQ.out⟩)
              clear hnr hr h10
              go_wp2
              go_ret2
              exact HX.out
            · rw [if_neg h10] at hr
              have z2 : ((out1.length : Int) == 10) = false := by rw [beq_eq_false_iff_ne]; omega
              have HR3 := Lib.hid hr
              obtain ⟨gi, gz, hgi, hgz, hgs, hgb, hgc⟩ := gr_parts
              have HGI := Lib.hid hgi
              have HGZ := Lib.hid hgz
              have HGS := Lib.hid hgs
              have HGB := Lib.hid hgb
              have hpg : Blk wr w2.heap.size tGr #[.slice Ga g.tg.length ka, .slice Gb g.nd.length kb, .slice Gc g.cm.length kc, .bool g.ph] := (HBW.out.block _ PG6.out.lt).trans PG6.out
              have hS := fun (W' : World) (hb : Below wr.heap.size wr W') => show W'.cell? ⟨w2.heap.size, 0, none⟩ = some (.slice Ga g.tg.length ka) ∧ W'.cell? ⟨w2.heap.size, 1, none⟩ = some (.slice Gb g.nd.length kb) ∧ W'.cell? ⟨w2.heap.size, 2, none⟩ = some (.slice Gc g.cm.length kc) ∧ W'.cell? ⟨w2.heap.size, 3, none⟩ = some (.bool g.ph) from
                ⟨(hb.cell (p := ⟨w2.heap.size, 0, none⟩) hpg.lt).trans (hpg.cell 0), (hb.cell (p := ⟨w2.heap.size, 1, none⟩) hpg.lt).trans (hpg.cell 1), (hb.cell (p := ⟨w2.heap.size, 2, none⟩) hpg.lt).trans (hpg.cell 2), (hb.cell (p := ⟨w2.heap.size, 3, none⟩) hpg.lt).trans (hpg.cell 3)⟩
              have HS4 := Lib.hid hS
              have K1 := Lib.hid (show Below wr.heap.size wr wr.drew from (Below.refl _ wr).drew)
              have K1a := Lib.hid (show Below wr.heap.size wr (wr.alloc (.cells #[.slice Ga g.tg.length ka, .slice Gb g.nd.length kb, .slice Gc g.cm.length kc, .bool g.ph] tGr)).drew from ((Below.refl _ wr).alloc (Nat.le_refl _) _).drew)
              obtain ⟨q1, q2, q3, q4⟩ := hS wr.drew K1.out
              have HRX := Lib.hid (fun (W' : World) (hb : Below wr.heap.size wr W') => show RdX W' 4 A1 out1.length (gcells R41) from (GP1.out.belowS hb).rdx)
              have HSN := Lib.hid (fun (W' : World) (v : Value) (hb : Below wr.heap.size wr W') (ho : W'.ownsRow wr.heap.size tGr 4 v (out1.length + 1) (gcells R41 ++ [.slice Ga g.tg.length ka, .slice Gb g.nd.length kb, .slice Gc g.cm.length kc, .bool g.ph])) => show VdPost r w (.returned (.tuple #[v, .int .i64 0])) W' from by
                have hbb := (K6.out.trans (HBW.out.mono K6.out.size)).trans (hb.mono (K6.out.trans (HBW.out.mono K6.out.size)).size)
                obtain ⟨A', c', e, hg'⟩ := GpRd.snoc GP1.out hb (Sl.own (own1_below O1.out hbb)) (Sl.own (own1_below O2.out hbb)) (Sl.own (own1_below O3.out hbb)) ho
                subst e
                rw [HR3.out]
                exact ⟨_, _, _, rfl, fun _ => ⟨rfl, _, hg'⟩, HBQ.out.trans (hb.mono HBQ.out.size)⟩)
              clear hnr hr h10 hgi hgz hgs hgb hpg hS
              go_wp2_with fail
              go_region_held3 (fun W' => W'.cell? ⟨w2.heap.size, 0, none⟩ = some (.slice Ga g.tg.length ka) ∧ W'.cell? ⟨w2.heap.size, 1, none⟩ = some (.slice Gb g.nd.length kb) ∧ W'.cell? ⟨w2.heap.size, 2, none⟩ = some (.slice Gc g.cm.length kc) ∧ W'.cell? ⟨w2.heap.size, 3, none⟩ = some (.bool g.ph))
                (first | with_reducible exact HS4.out _ K10.out | with_reducible exact HS4.out _ K9.out | exact HS4.out _ K8a.out | with_reducible exact HS4.out _ K8.out | exact HS4.out _ K1a.out | with_reducible exact HS4.out _ K1.out)
                (first
                  | (refine step_append_rd _ (by rfl) (.const (.slice none 0 0)) (.tmp 84) _ (by rfl) wr.heap.size tGr gi gz 4 80 Try.underlying39 HGI.out HGZ.out HGS.out HGB.out hgc (by decide) _ 0 [] (by rfl) (World.ownsRow_nil wr.drew wr.heap.size tGr 4) A1 out1.length c1 (gcells R41) (by rfl) (HRX.out _ K1.out) (by unfold maxLen; omega) (by omega) (Nat.le_refl _) ?_; intro v8 w8 own8 g8 _; rw [Nat.zero_add] at own8; obtain ⟨A8, k8, rfl⟩ := own_shape own8; have hb8 : Below wr.heap.size wr w8 := K1.out.grown g8 (Nat.le_refl _) (fun k hk => by cases hk); have K8 := Lib.hid hb8; have K8a := Lib.hid (show Below wr.heap.size wr (w8.alloc (.cells #[.slice Ga g.tg.length ka, .slice Gb g.nd.length kb, .slice Gc g.cm.length kc, .bool g.ph] tGr)) from hb8.alloc hb8.size _); have O8 := Lib.hid (show (w8.alloc (.cells #[.slice Ga g.tg.length ka, .slice Gb g.nd.length kb, .slice Gc g.cm.length kc, .bool g.ph] tGr)).ownsRow wr.heap.size tGr 4 _ out1.length _ from own8.alloc (.cells #[.slice Ga g.tg.length ka, .slice Gb g.nd.length kb, .slice Gc g.cm.length kc, .bool g.ph] tGr)); have X8 := Lib.hid (show RdX (w8.alloc (.cells #[.slice Ga g.tg.length ka, .slice Gb g.nd.length kb, .slice Gc g.cm.length kc, .bool g.ph] tGr)) 4 (some ⟨w8.heap.size, 0, none⟩) 1 [.slice Ga g.tg.length ka, .slice Gb g.nd.length kb, .slice Gc g.cm.length kc, .bool g.ph] from RdX.new w8 4 #[.slice Ga g.tg.length ka, .slice Gb g.nd.length kb, .slice Gc g.cm.length kc, .bool g.ph] tGr rfl (by intro u hu; simp at hu; rcases hu with rfl | rfl | rfl | rfl <;> rfl)); clear hb8 own8 g8)
                  | (refine step_append_rd _ (by rfl) (.const (.slice none 0 0)) (.tmp 84) _ (by rfl) wr.heap.size tGr gi gz 4 80 Try.underlying39 HGI.out HGZ.out HGS.out HGB.out hgc (by decide) _ 0 [] (by rfl) (World.ownsRow_nil (wr.alloc (.cells #[.slice Ga g.tg.length ka, .slice Gb g.nd.length kb, .slice Gc g.cm.length kc, .bool g.ph] tGr)).drew wr.heap.size tGr 4) A1 out1.length c1 (gcells R41) (by rfl) (HRX.out _ K1a.out) (by unfold maxLen; omega) (by omega) K1a.out.size ?_; intro v8 w9 own9 g9 _; rw [Nat.zero_add] at own9; obtain ⟨A8, k8, rfl⟩ := own_shape own9; have hb9 : Below wr.heap.size wr w9 := K1a.out.grown g9 K1a.out.size (fun k hk => by cases hk); have K9 := Lib.hid hb9; have O9 := Lib.hid own9; have X9 := Lib.hid (show RdX w9 4 (some ⟨wr.heap.size, 0, none⟩) 1 [.slice Ga g.tg.length ka, .slice Gb g.nd.length kb, .slice Gc g.cm.length kc, .bool g.ph] from RdX.keep (w := (wr.alloc (.cells #[.slice Ga g.tg.length ka, .slice Gb g.nd.length kb, .slice Gc g.cm.length kc, .bool g.ph] tGr)).drew) (RdX.new wr 4 #[.slice Ga g.tg.length ka, .slice Gb g.nd.length kb, .slice Gc g.cm.length kc, .bool g.ph] tGr rfl (by intro u hu; simp at hu; rcases hu with rfl | rfl | rfl | rfl <;> rfl)) (fun b hb => by obtain ⟨o, e⟩ := hb; injection e with e; injection e with e _; subst e; exact g9.block _ (Blk.new wr tGr #[.slice Ga g.tg.length ka, .slice Gb g.nd.length kb, .slice Gc g.cm.length kc, .bool g.ph]).lt (fun e => by cases e))); clear hb9 own9 g9)
                  | (refine step_append_rd _ (by rfl) (.tmp 85) (.tmp 87) _ (by rfl) wr.heap.size tGr gi gz 4 80 Try.underlying39 HGI.out HGZ.out HGS.out HGB.out hgc (by decide) _ out1.length _ (by rfl) O8.out (some ⟨w8.heap.size, 0, none⟩) 1 1 [.slice Ga g.tg.length ka, .slice Gb g.nd.length kb, .slice Gc g.cm.length kc, .bool g.ph] (by rfl) X8.out (by unfold maxLen; omega) (by omega) K8a.out.size ?_; intro v10 w10 own10 g10 _; obtain ⟨A10, k10, rfl⟩ := own_shape own10; have hb10 : Below wr.heap.size wr w10 := K8a.out.grown g10 K8a.out.size (fun k hk => (O8.out.lt k hk).1); have K10 := Lib.hid hb10; have O10 := Lib.hid own10; clear hb10 own10 g10)
                  | (refine step_append_rd _ (by rfl) (.tmp 85) (.tmp 87) _ (by rfl) wr.heap.size tGr gi gz 4 80 Try.underlying39 HGI.out HGZ.out HGS.out HGB.out hgc (by decide) _ out1.length _ (by rfl) O9.out (some ⟨wr.heap.size, 0, none⟩) 1 1 [.slice Ga g.tg.length ka, .slice Gb g.nd.length kb, .slice Gc g.cm.length kc, .bool g.ph] (by rfl) X9.out (by unfold maxLen; omega) (by omega) K9.out.size ?_; intro v10 w10 own10 g10 _; obtain ⟨A10, k10, rfl⟩ := own_shape own10; have hb10 : Below wr.heap.size wr w10 := K9.out.grown g10 K9.out.size (fun k hk => (O9.out.lt k hk).1); have K10 := Lib.hid hb10; have O10 := Lib.hid own10; clear hb10 own10 g10)
                  | fail)
              all_goals (
                have ho := O10.out
                rw [List.nil_append] at ho
                have HX := Lib.hid (HSN.out w10 _ K10.out ho)
                clear ho
                go_wp2
                go_ret2
                exact HX.out)
end Go.Proofs.Ytlkpbpecgdphaaa
