/-
  WALK: hammerpondref.Fresh.
-/
import Derived.Test.YtlkpbpecgdphaaaRefGet
import Derived.Test.YtlkpbpecgdphaaaUn
import Derived.Test.YtlkpbpecgdphaaaRcOr
import Derived.Test.YtlkpbpecgdphaaaRefPut
namespace Go.Proofs.Ytlkpbpecgdphaaa
open Go.RowKit

theorem sameR_V2 {w : World} {v v' : Value} {r r' : Rcd} (h : RcV w v r) (h' : RcV w v' r') : Calls Try.prog 13 #[v, v'] w fun e w' => e = .returned (.bool (decide (r = r'))) ∧ Below w.heap.size w w' := by
  obtain ⟨A0, n0, c0, A1, n1, c1, A2, n2, c2, rfl, h0, h1, h2⟩ := h
  obtain ⟨B0, m0, d0, B1, m1, d1, B2, m2, d2, rfl, k0, k1, k2⟩ := h'
  rw [← same3]
  exact sameR_gen _ _ _ _ _ _ _ _ _ _ _ _ _ _ _ _ _ _ _ _ _ _ _ _ w h0 h1 h2 k0 k1 k2
def FsRel (w1 : World) (l : List F) (tg : List ByteArray) (n : Nat) (v i : Value) (wr : World) : Prop :=
  ∃ k : Nat, k ≤ n ∧ i = .int .i64 k ∧ (∀ t ∈ tg.take k, has l t = true) ∧ wr.ownsRow w1.heap.size tFi 2 v (outR l (tg.take k)).length (fcells (outR l (tg.take k))) ∧ Below w1.heap.size w1 wr
def FqRel2 (w2 : World) (K : Kp) (t0 : ByteArray) (n : Nat) (i : Value) (wr : World) : Prop :=
  ∃ k : Nat, k ≤ n ∧ i = .int .i64 k ∧ lookK K t0 = lookK (K.drop k) t0 ∧ Below w2.heap.size w2 wr
set_option maxRecDepth 100000 in
set_option maxHeartbeats 8000000 in
theorem refFresh_any (K : Kp) (At An Ac AL AK : Option Addr) (nt ct nn cn nc cc nL cL nK cK : Nat) (g : Gp) (l : List F) (w : World) (h : KpRd w AK nK cK K) (ht : RdS w w.heap.size At nt ct g.tg) (hd : RdS w w.heap.size An nn cn g.nd) (hc : RdS w w.heap.size Ac nc cc g.cm) (hl : RdF w w.heap.size AL nL cL l) (hs : Rises l)
    (hne : g.tg ≠ []) (b1 : nt ≤ 1000) (b2 : nn ≤ 1000) (_b3 : nc ≤ 1000) (b4 : nL ≤ 1000) (b5 : nK ≤ 10000) :
    Calls Try.prog 25 #[.agg #[.slice At nt ct, .slice An nn cn, .slice Ac nc cc, .bool g.ph], .slice AL nL cL, .slice AK nK cK] w fun e w' => e = .returned (.bool (freshR K l g)) ∧ Below w.heap.size w w' := by
  have hba : Below w.heap.size w (w.alloc (.cells #[.slice At nt ct, .slice An nn cn, .slice Ac nc cc, .bool g.ph] tGr)) := (Below.refl _ w).alloc (Nat.le_refl _) _
  have pg := Blk.new w tGr #[.slice At nt ct, .slice An nn cn, .slice Ac nc cc, .bool g.ph]
  have HT := Lib.hid (RdS.belowS ht hba)
  have HD := Lib.hid (RdS.belowS hd hba)
  have HC := Lib.hid (RdS.belowS hc hba)
  have HL := Lib.hid (RdF.belowS hl hba)
  have HK := Lib.hid (h.belowS hba)
  have HS := Lib.hid hs
  have HBA := Lib.hid hba
  have PG := Lib.hid pg
  have LT := Lib.hid ht.1
  have LK := Lib.hid h.len
  obtain ⟨t0, rest, htg⟩ : ∃ t0 rest, g.tg = t0 :: rest := by
    cases hq : g.tg with
    | nil => exact absurd hq hne
    | cons a b => exact ⟨a, b, rfl⟩
  have ht0 : g.tg[0]? = some t0 := by rw [htg]; rfl
  have HT0 := Lib.hid ht0
  have hn0 : 0 < nt := by rw [← ht.1, htg]; simp
  obtain ⟨fr, hfr⟩ : ∃ fr, fr = freshR K l g := ⟨_, rfl⟩
  rw [← hfr]
  have HFR := Lib.hid (show fr = (match lookK K t0 with | none => false | some r => g.tg.all (has l) && decide (nowR l g = r)) from by rw [hfr]; unfold freshR; rw [htg]; rfl)
  obtain ⟨a0, a1, a2, a3⟩ := cells4 pg
  generalize hph : g.ph = ph at *
  clear hph h ht hd hc hl hs hba pg hfr htg ht0 hne
  go_enter Try.func25, Try.ntmps25
  go_wp2
  generalize w.alloc (.cells #[.slice At nt ct, .slice An nn cn, .slice Ac nc cc, .bool ph] tGr) = w1 at *
  go_loopw [7, 8] (fun v i wr => FsRel w1 l g.tg nt v i wr) (fun _ i _ => nt - (intOf i).toNat)
  case atStart => exact ⟨0, Nat.zero_le _, by go_num, fun t h => by simp at h, World.ownsRow_nil _ _ _ _, Below.refl _ _⟩
  case round =>
    obtain ⟨k, hk, rfl, hall, hown, hb⟩ := hrel
    obtain ⟨Ao, co, rfl⟩ := own_shape hown
    have HALL := Lib.hid hall
    have HO := Lib.hid hown
    have HB := Lib.hid hb
    have HT4 := Lib.hid (RdS.belowS HT.out hb)
    have HL4 := Lib.hid (RdF.belowS HL.out hb)
    have HG4 := Lib.hid (PG.out.low hb)
    obtain ⟨g0, g1, g2, g3⟩ := cells4 (PG.out.low hb)
    clear hall hown hb
    by_cases hlt : k < nt
    · obtain ⟨t, ht⟩ : ∃ t, g.tg[k]? = some t := ⟨_, List.getElem?_eq_getElem (by rw [LT.out]; exact hlt)⟩
      obtain ⟨b5, o5, rfl, hb5l, ct5⟩ := HT4.out.at_ ht
      have hkz : (k : Int) < (nt : Int) := by omega
      have HTT := Lib.hid ht
      clear ht
      go_wp2_with fail
      refine (refGet_any AL nL cL l t wr HL4.out (by omega)).mono ?_
      rintro e w6 ⟨rfl, hw6⟩
      subst hw6
      cases hh : has l t with
      | false =>
        have hfr := HFR.out
        have hnot : g.tg.all (has l) = false := by
          rw [List.all_eq_false]
          exact ⟨t, List.mem_of_getElem? HTT.out, by rw [hh]; simp⟩
        have hfr2 : fr = false := by rw [hfr]; cases lookK K t0 <;> simp [hnot]
        subst hfr2
        clear hh hnot HFR hfr
        go_wp2
        go_ret
        exact ⟨rfl, HBA.out.trans (HB.out.mono HBA.out.size)⟩
      | true =>
        have HHT := Lib.hid hh
        obtain ⟨A6, c6, e6, hr6⟩ := RdF.of_own HO.out
        injection e6 with e6 _ e7
        subst e6 e7
        have HR6 := Lib.hid hr6
        have hol : (outR l (g.tg.take k)).length ≤ 900000 := by have := outR_len l (g.tg.take k); have h2 : (g.tg.take k).length ≤ k := List.length_take_le _ _; omega
        clear hh hr6
        go_wp2_with fail
        refine (refPut_any Ao _ co (outR l (g.tg.take k)) t (textF l t) wr HR6.out (outR_rises _ _) hol).mono ?_
        rintro e w7 ⟨v7, rfl, ho7, hb7⟩
        have HO7 := Lib.hid (ownT_more ho7 (HB.out.size))
        have HB7 := Lib.hid (HB.out.trans (hb7.mono HB.out.size))
        clear ho7 hb7
        go_wp2
        go_roundw
        case rel => exact ⟨k + 1, by omega, by go_num, fun x hx => by
          rw [List.take_add_one, HTT.out, Option.toList_some] at hx
          rcases List.mem_append.1 hx with h | h
          · exact HALL.out x h
          · rw [List.mem_singleton.1 h]; exact HHT.out, by rw [outR_take HTT.out]; exact HO7.out, HB7.out⟩
        case measure => simp [intOf]; omega
    · obtain rfl : k = nt := by omega
      obtain ⟨Ao', co', e6, hro⟩ := RdF.of_own HO.out
      injection e6 with e6 _ e7
      subst e6 e7
      rw [List.take_of_length_le (by rw [LT.out]; exact Nat.le_refl _)] at hro HALL HO ⊢
      have hol : (outR l g.tg).length ≤ 1000 := by have := outR_len l g.tg; rw [LT.out] at this; omega
      have HFE := Lib.hid (show fr = (match lookK K t0 with | none => false | some r => decide (nowR l g = r)) from by
        rw [HFR.out, List.all_eq_true.2 HALL.out]
        cases lookK K t0 <;> simp)
      have HRO := Lib.hid hro
      obtain ⟨w2, hw2⟩ : ∃ w2, w2 = wr := ⟨_, rfl⟩
      subst hw2
      clear hro HFR HALL HO
      go_wp2
      go_loopw [11] (fun i wr => FqRel2 w2 K t0 nK i wr) (fun i _ => nK - (intOf i).toNat)
      case atStart => exact ⟨0, Nat.zero_le _, by go_num, by simp, Below.refl _ _⟩
      case round =>
        obtain ⟨j, hj, rfl, hlook, hb⟩ := hrel
        have HLK := Lib.hid hlook
        have HB5 := Lib.hid hb
        have HG5 := Lib.hid (HG4.out.low hb)
        obtain ⟨i0, i1, i2, i3⟩ := cells4 (HG4.out.low hb)
        have HT5 := Lib.hid (HT4.out.belowS hb)
        clear hb hlook g0 g1 g2 g3
        by_cases hlt2 : j < nK
        · obtain ⟨⟨s, r⟩, hx⟩ : ∃ x, K[j]? = some x := ⟨_, List.getElem?_eq_getElem (by rw [LK.out]; exact hlt2)⟩
          obtain ⟨b, off, A0, n0, c0, A1, n1, c1, A2, n2, c2, rfl, hbl, k0, k1, k2, k3, r0, r1, r2⟩ := (HK.out.belowS (HB.out.trans (HB5.out.mono HB.out.size))).each j s r hx
          obtain ⟨b5, o5, rfl, hb5l, ct5⟩ := HT5.out.at_ HT0.out
          rw [Nat.add_zero] at ct5
          have hjz : (j : Int) < (nK : Int) := by omega
          have hnz : (0 : Int) < (k : Int) := by omega
          have hd : K.drop j = (s, r) :: K.drop (j + 1) := by rw [List.drop_eq_getElem_cons (List.getElem?_eq_some_iff.1 hx).1]; rw [(List.getElem?_eq_some_iff.1 hx).2]
          have HLN := Lib.hid (show lookK K t0 = if s = t0 then some r else lookK (K.drop (j + 1)) t0 from by rw [HLK.out, hd, lookK_cons])
          have HRV := Lib.hid (show RcV wr (.agg #[.slice A0 n0 c0, .slice A1 n1 c1, .slice A2 n2 c2]) r from ⟨_, _, _, _, _, _, _, _, _, rfl, r0, r1, r2⟩)
          have HKC := Lib.hid (⟨hbl, k1, k2, k3⟩ : b < wr.heap.size ∧ wr.cell? ⟨b, off + j * 4 + 1, none⟩ = some (.slice A0 n0 c0) ∧ wr.cell? ⟨b, off + j * 4 + 2, none⟩ = some (.slice A1 n1 c1) ∧ wr.cell? ⟨b, off + j * 4 + 3, none⟩ = some (.slice A2 n2 c2))
          clear hd hx r0 r1 r2 HLK k1 k2 k3
          by_cases hst : s = t0
          · have hsb : (s.toList == t0.toList) = true := by rw [hst]; simp
            have HFE2 := Lib.hid (show fr = decide (nowR l g = r) from by rw [HFE.out, HLN.out, if_pos hst])
            clear hst
            go_wp2
            go_quiet (fail)
            have hbd := below_drews wr nq
            have hb2d := HB5.out.trans (hbd.mono HB5.out.size)
            have HB6 := Lib.hid hb2d
            have HG6 := Lib.hid (HG5.out.low hbd)
            have HRV6 := Lib.hid (show RcV (wr.drewN nq).drew _ r from HRV.out.low hbd.drew)
            have HKC6 := Lib.hid (⟨Nat.lt_of_lt_of_le HKC.out.1 hbd.size, (hbd.cell (p := ⟨b, off + j * 4 + 1, none⟩) HKC.out.1).trans HKC.out.2.1, (hbd.cell (p := ⟨b, off + j * 4 + 2, none⟩) HKC.out.1).trans HKC.out.2.2.1, (hbd.cell (p := ⟨b, off + j * 4 + 3, none⟩) HKC.out.1).trans HKC.out.2.2.2⟩ : b < (wr.drewN nq).heap.size ∧ (wr.drewN nq).cell? ⟨b, off + j * 4 + 1, none⟩ = some (.slice A0 n0 c0) ∧ (wr.drewN nq).cell? ⟨b, off + j * 4 + 2, none⟩ = some (.slice A1 n1 c1) ∧ (wr.drewN nq).cell? ⟨b, off + j * 4 + 3, none⟩ = some (.slice A2 n2 c2))
            have HOF := Lib.hid (refOf_any (some ⟨b5, o5, none⟩) An Ac AL Ao k nn nc ct cn cc nL cL (outR l g.tg).length co ph g.nd g.cm l (outR l g.tg) (wr.drewN nq).drew (RdS.belowS HD.out ((HB.out.trans (hb2d.mono HB.out.size)).drew)) (RdS.belowS HC.out ((HB.out.trans (hb2d.mono HB.out.size)).drew)) (RdF.belowS HL4.out hb2d.drew) (RdF.belowS HRO.out hb2d.drew) b2 b4)
            clear hbd hb2d HB5 HG5 HRV HKC
            go_wp2_with fail
            generalize wr.drewN nq = w3 at *
            go_region_held3 (fun w' => (w'.cell? ⟨b, off + j * 4 + 1, none⟩ = some (.slice A0 n0 c0) ∧ w'.cell? ⟨b, off + j * 4 + 2, none⟩ = some (.slice A1 n1 c1) ∧ w'.cell? ⟨b, off + j * 4 + 3, none⟩ = some (.slice A2 n2 c2)) ∧ w'.cell? ⟨w.heap.size, 0, none⟩ = some (.slice (some ⟨b5, o5, none⟩) k ct) ∧ w'.cell? ⟨w.heap.size, 1, none⟩ = some (.slice An nn cn) ∧ w'.cell? ⟨w.heap.size, 2, none⟩ = some (.slice Ac nc cc) ∧ w'.cell? ⟨w.heap.size, 3, none⟩ = some (.bool ph))
              (first | exact K8.out | exact K7.out | exact ⟨HKC6.out.2, cells4 HG6.out⟩)
              (first
                | (go_at_call 51; refine HOF.out.mono ?_; rintro e w7 ⟨v7, rfl, hv7, hb7⟩; have HV7 := Lib.hid hv7; have HB7 := Lib.hid (HB6.out.drew.trans (hb7.mono HB6.out.drew.size)); have HKC7 := Lib.hid (⟨Nat.lt_of_lt_of_le HKC6.out.1 hb7.size, (hb7.cell (p := ⟨b, off + j * 4 + 1, none⟩) HKC6.out.1).trans HKC6.out.2.1, (hb7.cell (p := ⟨b, off + j * 4 + 2, none⟩) HKC6.out.1).trans HKC6.out.2.2.1, (hb7.cell (p := ⟨b, off + j * 4 + 3, none⟩) HKC6.out.1).trans HKC6.out.2.2.2⟩ : b < w7.heap.size ∧ w7.cell? ⟨b, off + j * 4 + 1, none⟩ = some (.slice A0 n0 c0) ∧ w7.cell? ⟨b, off + j * 4 + 2, none⟩ = some (.slice A1 n1 c1) ∧ w7.cell? ⟨b, off + j * 4 + 3, none⟩ = some (.slice A2 n2 c2)); have HG7 := Lib.hid (HG6.out.drew.low hb7); have K7 := Lib.hid (And.intro HKC7.out.2 (cells4 HG7.out)); have HRV7 := Lib.hid (HRV6.out.low hb7); clear hv7 hb7)
                | (go_at_call 13; refine (sameR_V2 HRV7.out HV7.out).mono ?_; rintro e w8 ⟨rfl, hb8⟩; have HB8 := Lib.hid (HB7.out.trans (hb8.mono HB7.out.size)); have K8 := Lib.hid (And.intro (⟨(hb8.cell (p := ⟨b, off + j * 4 + 1, none⟩) HKC7.out.1).trans HKC7.out.2.1, (hb8.cell (p := ⟨b, off + j * 4 + 2, none⟩) HKC7.out.1).trans HKC7.out.2.2.1, (hb8.cell (p := ⟨b, off + j * 4 + 3, none⟩) HKC7.out.1).trans HKC7.out.2.2.2⟩ : w8.cell? ⟨b, off + j * 4 + 1, none⟩ = some (.slice A0 n0 c0) ∧ w8.cell? ⟨b, off + j * 4 + 2, none⟩ = some (.slice A1 n1 c1) ∧ w8.cell? ⟨b, off + j * 4 + 3, none⟩ = some (.slice A2 n2 c2)) (cells4 (HG7.out.low hb8))); clear hb8))
            go_wp2
            go_ret
            exact ⟨by rw [HFE2.out]; show Ending.returned (Value.bool (decide (r = nowR l g))) = _; rw [show decide (r = nowR l g) = decide (nowR l g = r) from by rw [decide_eq_decide]; exact eq_comm], HBA.out.trans ((HB.out.trans (HB8.out.mono HB.out.size)).mono HBA.out.size)⟩
          · have hsb : (s.toList == t0.toList) = false := by rw [beq_eq_false_iff_ne]; exact fun e => hst (toList_inj e)
            have HLN2 := Lib.hid (show lookK K t0 = lookK (K.drop (j + 1)) t0 from by rw [HLN.out, if_neg hst])
            clear hst
            go_wp2
            go_quiet (fail)
            go_wp2
            go_roundw
            case rel => exact ⟨j + 1, by omega, by go_num, HLN2.out, by first | exact HB5.out.trans ((below_drews _ _).mono HB5.out.size) | exact HB5.out⟩
            case measure => simp [intOf]; omega
        · obtain rfl : j = nK := by omega
          have hfr : fr = false := by rw [HFE.out, HLK.out, List.drop_of_length_le (by rw [LK.out]; exact Nat.le_refl _), lookK_nil]
          subst hfr
          go_wp2
          go_ret
          exact ⟨rfl, HBA.out.trans ((HB.out.trans (HB5.out.mono HB.out.size)).mono HBA.out.size)⟩
end Go.Proofs.Ytlkpbpecgdphaaa
