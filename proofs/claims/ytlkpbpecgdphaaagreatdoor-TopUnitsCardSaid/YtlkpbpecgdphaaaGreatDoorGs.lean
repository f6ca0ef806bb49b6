/-
  WALK: (*graph.walk).visitNeeds, over a contract of visit for the needs.
-/
import Derived.Test.YtlkpbpecgdphaaaGreatDoorGm
import Derived.Test.YtlkpbpecgdphaaaGreatDoorVar
namespace Go.Proofs.YtlkpbpecgdphaaaGreatDoor
open Go.RowKit

section
variable {w0 w w' : World} {pw bm N N' n' : Nat} {vr vp vf vg vg' : Value} {way way' : List ByteArray} {out : List Gp} {R4 : List Row4}
/-- The map alone has turned. -/
theorem Wk.mapped (h : Wk w0 w pw bm vr vp vf vg N way out R4) (hs : SetOk w' bm n' way') (hn : n' ≤ N') (hg : w.grownBy w' (some bm)) : Wk w0 w' pw bm vr vp vf vg N' way' out R4 := by
  obtain ⟨es, c, hm⟩ := h.bm_map
  have hk : ∀ k, k < w.heap.size → k ≠ bm → w'.heap[k]? = w.heap[k]? := fun k hk hne => hg.block k hk (fun e => hne (by injection e))
  have ho : ∀ (B n s : Nat) (t : TypeId) (v : Value) (xs : List Value), w.ownsRow B t s v n xs → w'.ownsRow B t s v n xs := fun B n s t v xs ho => ownsRow_kept ho (fun g hgv => hk g (ho.lt g hgv).2 (row_not_map ho h.bm_map hgv))
  exact ⟨h.low.grown hg h.low.size (fun g' hg' => by injection hg' with e; rw [← e]; exact h.bm_ge), (hk _ h.blk.lt (not_cells hm h.blk)).trans h.blk, h.pw_ge, h.bm_ge, ⟨n', hn, hs⟩, ho _ _ _ _ _ _ h.grp, h.len,
    fun i x g hx hg => by obtain ⟨a, b, c, e⟩ := h.each i x g hx hg; exact ⟨ho _ _ _ _ _ _ a, ho _ _ _ _ _ _ b, ho _ _ _ _ _ _ c, e⟩⟩
theorem Fv.mapped (hg : w.grownBy w' (some bm)) : Fv pw bm vg w w' := ⟨hg.size, fun k hk _ h2 _ => hg.block k hk (fun e => h2 (by injection e))⟩
theorem Wk.congr (h : Wk w0 w pw bm vr vp vf vg N way out R4) (hl : ∀ x, inT way x = inT way' x) : Wk w0 w pw bm vr vp vf vg N way' out R4 :=
  ⟨h.low, h.blk, h.pw_ge, h.bm_ge, by obtain ⟨n, hn, hs⟩ := h.map; exact ⟨n, hn, hs.congr hl⟩, h.grp, h.len, h.each⟩
theorem Wk.bound (h : Wk w0 w pw bm vr vp vf vg N way out R4) (hN : N ≤ N') : Wk w0 w pw bm vr vp vf vg N' way out R4 :=
  ⟨h.low, h.blk, h.pw_ge, h.bm_ge, by obtain ⟨n, hn, hs⟩ := h.map; exact ⟨n, Nat.le_trans hn hN, hs⟩, h.grp, h.len, h.each⟩
end
/-- What a visit comes to: D bounds the open names' stores. -/
def VsPost (w0 : World) (pw bm : Nat) (vr vp vf : Value) (D : Nat) (way : List ByteArray) (r : Nat × List Gp) (vg : Value) (w : World) (e : Ending) (w' : World) : Prop :=
  e = .returned (errV r.1) ∧ Below w0.heap.size w0 w' ∧ (r.1 = 0 → ∃ vg' R4', Wk w0 w' pw bm vr vp vf vg' (10 * r.2.length + D) way r.2 R4' ∧ Fv pw bm vg w w' ∧ NewV w vg vg')
/-- Few groups, with few targets. -/
def FewG (out : List Gp) : Prop := out.length ≤ 10 ∧ ∀ g ∈ out, g.tg.length ≤ 10
def N1Rel (w0 w : World) (pw bm bx : Nat) (vr vp vf vg : Value) (N : Nat) (way : List ByteArray) (out : List Gp) (R4 : List Row4) (g : Gp) (cs : Array Value) (n : Nat) (i : Value) (wr : World) : Prop :=
  ∃ k : Nat, k ≤ n ∧ i = .int .i64 k ∧ Wk w0 wr pw bm vr vp vf vg (N + k) (way ++ g.tg.take k) out R4 ∧ Blk wr bx tGr cs ∧ Fv pw bm vg w wr
def N2Rel (w0 w : World) (pw bm bx : Nat) (vr vp vf vg : Value) (D : Nat) (way : List ByteArray) (f : ByteArray → List Gp → Nat × List Gp) (out : List Gp) (nd : List ByteArray) (cs : Array Value) (n : Nat) (i : Value) (wr : World) : Prop :=
  ∃ (k : Nat) (vg' : Value) (R4' : List Row4) (out' : List Gp), k ≤ n ∧ i = .int .i64 k ∧ needsR f nd out = needsR f (nd.drop k) out' ∧ FewG out' ∧ Wk w0 wr pw bm vr vp vf vg' (10 * out'.length + D) way out' R4' ∧ Blk wr bx tGr cs ∧ Fv pw bm vg w wr ∧ NewV w vg vg'
def N3Rel (w0 w : World) (pw bm bx : Nat) (vr vp vf vg vg' : Value) (N : Nat) (way : List ByteArray) (out : List Gp) (R4 : List Row4) (g : Gp) (cs : Array Value) (n : Nat) (i : Value) (wr : World) : Prop :=
  ∃ (k : Nat) (L : List ByteArray), k ≤ n ∧ i = .int .i64 k ∧ (∀ x, inT L x = (inT (way ++ g.tg) x && !inT (g.tg.take k) x)) ∧ Wk w0 wr pw bm vr vp vf vg' N L out R4 ∧ Blk wr bx tGr cs ∧ Fv pw bm vg w wr
theorem inT_take {l : List ByteArray} {k : Nat} {s x : ByteArray} (h : l[k]? = some s) : inT (l.take (k + 1)) x = (inT (l.take k) x || decide (s = x)) := by
  rw [List.take_add_one, h]
  exact inT_snoc _ _ _
theorem struck_all {way tg : List ByteArray} (hd : ∀ t ∈ tg, t ∉ way) (x : ByteArray) : (inT (way ++ tg) x && !inT tg x) = inT way x := by
  rw [inT_more]
  cases h : inT tg x with
  | false => simp
  | true =>
    have := hd x (inT_mem.1 h)
    have : inT way x = false := by
      cases h2 : inT way x with
      | false => rfl
      | true => exact absurd (inT_mem.1 h2) this
    simp [this]
theorem errV_zero : errV ((0 : Nat) : Int) = .nilIface := rfl
set_option maxRecDepth 100000 in
set_option maxHeartbeats 8000000 in
theorem visitNeeds_any (w0 : World) (pw bm : Nat) (vr vp vf : Value) (f : ByteArray → List Gp → Nat × List Gp) (D : Nat) (way : List ByteArray) (out : List Gp) (g : Gp) (a b c vg : Value) (R4 : List Row4) (w : World)
    (h : Wk w0 w pw bm vr vp vf vg (10 * out.length + D) way out R4) (ha : Own1 w w0.heap.size a g.tg) (hb : Own1 w w0.heap.size b g.nd) (hf : FewG out) (hD : D ≤ 1000000)
    (l1 : g.tg.length ≤ 10) (l2 : g.nd.length ≤ 10) (s1 : ∀ x ∈ g.tg, x.size ≤ 2000) (hd : ∀ t ∈ g.tg, t ∉ way)
    (hff : ∀ x ∈ g.nd, ∀ o, FewG o → (f x o).1 = 0 → FewG (f x o).2)
    (hV : ∀ x ∈ g.nd, ∀ (o : List Gp) (v : Value) (Q : List Row4) (W : World), FewG o → Wk w0 W pw bm vr vp vf v (10 * o.length + (D + 10)) (way ++ g.tg) o Q → Calls Tryz.prog 37 #[ptr pw, .string x] W (VsPost w0 pw bm vr vp vf (D + 10) (way ++ g.tg) (f x o) v W)) :
    Calls Tryz.prog 69 #[ptr pw, .agg #[a, b, c, .bool g.ph]] w (VsPost w0 pw bm vr vp vf (D + 10) way (needsR f g.nd out) vg w) := by
  obtain ⟨A1, c1, rfl⟩ := own_shape ha
  obtain ⟨A2, c2, rfl⟩ := own_shape hb
  have hvl : ∀ k, vg.ownBlock = some k → k < w.heap.size := fun k hk => (h.grp.lt k hk).2
  have hb0 : Below w.heap.size w (w.alloc (.cells #[.slice A1 g.tg.length c1, .slice A2 g.nd.length c2, c, .bool g.ph] tGr)) := (Below.refl _ _).alloc (Nat.le_refl _) _
  have p0 := Blk.new w tGr #[.slice A1 g.tg.length c1, .slice A2 g.nd.length c2, c, .bool g.ph]
  obtain ⟨r, hr⟩ : ∃ r, r = needsR f g.nd out := ⟨_, rfl⟩
  rw [← hr]
  have HR := Lib.hid hr
  have HK := Lib.hid (h.belowW hb0)
  have HF0 := Lib.hid (show Fv pw bm vg w _ from Fv.below hb0)
  have OA := Lib.hid (own1_below ha hb0)
  have OB := Lib.hid (own1_below hb hb0)
  have P0 := Lib.hid p0
  have HFW := Lib.hid hf
  have S1 := Lib.hid s1
  have HDJ := Lib.hid hd
  have HFF := Lib.hid hff
  have HV := Lib.hid hV
  have HVL := Lib.hid hvl
  have q0 := p0.cell 0
  have hpx : w.heap.size ≠ pw := fun e => by have := h.blk.lt; omega
  clear h ha hb hf s1 hd hff hV hvl hb0 p0 hr
  go_enter Tryz.func69, Tryz.ntmps69
  go_wp2
  generalize w.alloc (.cells #[.slice A1 g.tg.length c1, .slice A2 g.nd.length c2, c, .bool g.ph] tGr) = w1 at *
  go_loopw [15] (fun i wr => N1Rel w0 w1 pw bm w.heap.size vr vp vf vg (10 * out.length + D) way out R4 g #[.slice A1 g.tg.length c1, .slice A2 g.nd.length c2, c, .bool g.ph] g.tg.length i wr) (fun i _ => g.tg.length - (intOf i).toNat)
  case atStart => exact ⟨0, Nat.zero_le _, rfl, by simpa using HK.out, P0.out, Fv.refl _ _ _ _⟩
  case round =>
    obtain ⟨k, hk, rfl, hwk, hbx, hfv⟩ := hrel
    have WK := Lib.hid hwk
    have BX := Lib.hid hbx
    have FV := Lib.hid hfv
    clear hwk hbx hfv
    by_cases hlt : k < g.tg.length
    · obtain ⟨x, hx⟩ : ∃ x, g.tg[k]? = some x := ⟨_, List.getElem?_eq_getElem hlt⟩
      obtain ⟨A', c', e', hr'⟩ := RdS.of_own (Own1.fv OA.out HK.out FV.out)
      injection e' with e1 e2 e3
      subst e1 e3
      obtain ⟨b', off, rfl, _, hcx⟩ := hr'.at_ hx
      have hkz : (k : Int) < (g.tg.length : Int) := by omega
      have hxs : x.size ≤ 2000 := S1.out x (List.mem_of_getElem? hx)
      have c3 : wr.cell? ⟨pw, 3, none⟩ = some (.map (some bm)) := WK.out.blk.cell 3
      obtain ⟨n, hn, hs⟩ := WK.out.map
      have hfl := HFW.out.1
      obtain ⟨w2, hrun, hse2, hg2⟩ := hs.store x (by unfold maxLen; omega) (by unfold maxLen; omega)
      rw [show way ++ g.tg.take k ++ [x] = way ++ g.tg.take (k + 1) by rw [List.take_add_one, hx]; simp] at hse2
      have WK2 := Lib.hid (WK.out.mapped hse2 (show n + 1 ≤ 10 * out.length + D + (k + 1) by omega) hg2)
      obtain ⟨es, cl, hm⟩ := WK.out.bm_map
      have BX2 := Lib.hid (show Blk w2 w.heap.size tGr _ from (hg2.block _ BX.out.lt (fun e => not_cells hm BX.out (by injection e))).trans BX.out)
      have FV2 := Lib.hid (FV.out.trans (NewV.refl _ _) (Fv.mapped hg2))
      clear hr' hx hs hse2 hg2 hm
      go_wp2
      go_roundw
      case rel => exact ⟨k + 1, by omega, by go_num, WK2.out, BX2.out, FV2.out⟩
      case measure => simp [intOf]; omega
    · obtain rfl : k = g.tg.length := by omega
      have hwk := WK.out
      rw [List.take_length] at hwk
      have WK2 := Lib.hid (hwk.bound (show 10 * out.length + D + g.tg.length ≤ 10 * out.length + (D + 10) by omega))
      have q1 : wr.cell? ⟨w.heap.size, 1, none⟩ = some (.slice A2 g.nd.length c2) := BX.out.cell 1
      clear hwk WK
      go_wp2
      go_loopw [28] (fun i wr => N2Rel w0 w1 pw bm w.heap.size vr vp vf vg (D + 10) (way ++ g.tg) f out g.nd #[.slice A1 g.tg.length c1, .slice A2 g.nd.length c2, c, .bool g.ph] g.nd.length i wr) (fun i _ => g.nd.length - (intOf i).toNat)
      case atStart => exact ⟨0, vg, R4, out, Nat.zero_le _, rfl, rfl, HFW.out, WK2.out, BX.out, FV.out, NewV.refl _ _⟩
      case round =>
        obtain ⟨k, vg1, R41, out1, hk2, rfl, hnr, hfw1, hwk, hbx, hfv, hnv⟩ := hrel
        have NR := Lib.hid hnr
        have FW1 := Lib.hid hfw1
        have WK := Lib.hid hwk
        have BX1 := Lib.hid hbx
        have FV1 := Lib.hid hfv
        have NV1 := Lib.hid hnv
        clear hnr hfw1 hwk hbx hfv hnv WK2 BX FV
        by_cases hlt2 : k < g.nd.length
        · obtain ⟨x, hx⟩ : ∃ x, g.nd[k]? = some x := ⟨_, List.getElem?_eq_getElem hlt2⟩
          obtain ⟨A', c', e', hr'⟩ := RdS.of_own (Own1.fv OB.out HK.out FV1.out)
          injection e' with e1 e2 e3
          subst e1 e3
          obtain ⟨b', off, rfl, _, hcx⟩ := hr'.at_ hx
          have hkz : (k : Int) < (g.nd.length : Int) := by omega
          have hxm := List.mem_of_getElem? hx
          have hstep : needsR f (g.nd.drop k) out1 = if (f x out1).1 ≠ 0 then f x out1 else needsR f (g.nd.drop (k + 1)) (f x out1).2 := by
            rw [List.drop_eq_getElem_cons hlt2, show g.nd[k] = x from (List.getElem?_eq_some_iff.1 hx).2]
            rfl
          have ST := Lib.hid hstep
          have HC := Lib.hid (HV.out x hxm out1 vg1 R41 _ FW1.out WK.out)
          have HF1 := Lib.hid (HFF.out x hxm out1 FW1.out)
          clear hr' hx hxm hstep
          go_wp2_with fail
          refine HC.out.mono ?_
          rintro e w2 ⟨rfl, hbl, hok⟩
          by_cases h0 : (f x out1).1 = 0
          · obtain ⟨vg2, R42, hwk2, hfv2, hnv2⟩ := hok h0
            have he : errV ((f x out1).1 : Int) = .nilIface := by rw [h0]; rfl
            rw [he]
            have st := ST.out
            rw [if_neg (by simpa using h0)] at st
            have HN := Lib.hid (NR.out.trans st)
            have hbx2 : w.heap.size ≠ pw := hpx
            have hvb : vg1.ownBlock ≠ some w.heap.size := NV1.out.ne P0.out.lt (fun e => by have := HVL.out _ e; omega)
            have BX2 := Lib.hid (Blk.fv BX1.out WK.out hfv2 hpx hvb)
            have WK2 := Lib.hid hwk2
            have FV2 := Lib.hid (FV1.out.trans NV1.out hfv2)
            have NV2 := Lib.hid (NewV.trans FV1.out.size NV1.out hnv2)
            have HF2 := Lib.hid (HF1.out h0)
            clear hok hbl hwk2 hfv2 hnv2 he st HC ST hvb
            go_wp2
            go_roundw
            case rel => exact ⟨k + 1, vg2, R42, _, by omega, by go_num, HN.out, HF2.out, WK2.out, BX2.out, FV2.out, NV2.out⟩
            case measure => simp [intOf]; omega
          · have he : errV ((f x out1).1 : Int) = .iface 80 (.int .i64 ((f x out1).1 : Int)) := by unfold errV; rw [if_neg (by omega)]
            rw [he]
            have st := ST.out
            rw [if_pos h0] at st
            have HN := Lib.hid (HR.out.trans (NR.out.trans st))
            have HBL := Lib.hid hbl
            clear hok hbl st HC ST
            go_wp2
            go_ret
            refine ⟨?_, HBL.out, fun h => absurd h (by rw [HN.out]; exact h0)⟩
            rw [HN.out, he]
            rfl
        · obtain rfl : k = g.nd.length := by omega
          have hnr := NR.out
          rw [List.drop_length] at hnr
          have HN := Lib.hid (show r = (0, out1) from HR.out.trans hnr)
          have q2 := BX1.out.cell 0
          have q2' : wr.cell? ⟨w.heap.size, 0, none⟩ = some (.slice A1 g.tg.length c1) := q2
          clear hnr q2
          go_wp2
          go_loopw [42] (fun i wr => N3Rel w0 w1 pw bm w.heap.size vr vp vf vg vg1 (10 * out1.length + (D + 10)) way out1 R41 g #[.slice A1 g.tg.length c1, .slice A2 g.nd.length c2, c, .bool g.ph] g.tg.length i wr) (fun i _ => g.tg.length - (intOf i).toNat)
          case atStart => exact ⟨0, way ++ g.tg, Nat.zero_le _, rfl, fun x => by simp [inT], WK.out, BX1.out, FV1.out⟩
          case round =>
            obtain ⟨k, L, hk3, rfl, hlp, hwk, hbx, hfv⟩ := hrel
            have LP := Lib.hid hlp
            have WK3 := Lib.hid hwk
            have BX3 := Lib.hid hbx
            have FV3 := Lib.hid hfv
            clear hlp hwk hbx hfv
            by_cases hlt3 : k < g.tg.length
            · obtain ⟨x, hx⟩ : ∃ x, g.tg[k]? = some x := ⟨_, List.getElem?_eq_getElem hlt3⟩
              obtain ⟨A', c', e', hr'⟩ := RdS.of_own (Own1.fv OA.out HK.out FV3.out)
              injection e' with e1 e2 e3
              subst e1 e3
              obtain ⟨b', off, rfl, _, hcx⟩ := hr'.at_ hx
              have hkz : (k : Int) < (g.tg.length : Int) := by omega
              have hxs : x.size ≤ 2000 := S1.out x (List.mem_of_getElem? hx)
              have c3 : wr.cell? ⟨pw, 3, none⟩ = some (.map (some bm)) := WK3.out.blk.cell 3
              obtain ⟨n, hn, hs⟩ := WK3.out.map
              obtain ⟨M, hown, hh⟩ := hs
              have HH := Lib.hid hh
              have HOW := Lib.hid hown
              have HTK := Lib.hid (fun y => inT_take (x := y) hx)
              have hkey := txtKey x (by unfold maxLen; omega)
              obtain ⟨w2, hrun, hown2, hturn⟩ := HOW.out.drop txtKeyed Tryz.underlying81 hkey 0
              have hg2 := hturn.grown
              have WK4 := Lib.hid (WK3.out.mapped (SetOk.struck HH.out hown2) hn hg2)
              obtain ⟨es, cl, hm⟩ := WK3.out.bm_map
              have BX4 := Lib.hid (show Blk w2 w.heap.size tGr _ from (hg2.block _ BX3.out.lt (fun e => not_cells hm BX3.out (by injection e))).trans BX3.out)
              have FV4 := Lib.hid (FV3.out.trans NV1.out (Fv.mapped hg2))
              clear hown2 hturn hg2 hm HOW HH
              clear hr' hx hh hown
              go_wp2
              go_roundw
              case rel =>
                refine ⟨k + 1, _, by omega, by go_num, fun y => ?_, WK4.out, BX4.out, FV4.out⟩
                rw [inT_struck, LP.out, HTK.out, Bool.not_or, Bool.and_assoc]
              case measure => simp [intOf]; omega
            · obtain rfl : k = g.tg.length := by omega
              have WK4 := Lib.hid (WK3.out.congr (way' := way) (fun x => by rw [LP.out, List.take_length]; exact struck_all HDJ.out x))
              go_wp2
              go_ret
              rw [HN.out]
              exact ⟨rfl, WK4.out.low, fun _ => ⟨vg1, R41, WK4.out, HF0.out.trans (NewV.refl _ _) FV3.out, NewV.trans HF0.out.size (NewV.refl _ _) NV1.out⟩⟩
end Go.Proofs.YtlkpbpecgdphaaaGreatDoor
