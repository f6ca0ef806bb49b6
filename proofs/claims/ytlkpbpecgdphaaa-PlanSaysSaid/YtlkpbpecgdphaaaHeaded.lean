/-
  WALK: hammerpondref.headed: a rule's line (ruleR).
-/
import Derived.Test.YtlkpbpecgdphaaaHd
import Derived.Deep.DeepCutAuto
namespace Go.Proofs.Ytlkpbpecgdphaaa
open Go.RowKit

set_option maxHeartbeats 4000000 in
set_option maxRecDepth 100000 in
theorem headed_any (m : Mk) (vv vr vp : Value) (R : List Row3) (s : ByteArray) (w : World) (h : MkRd w m vv vr vp R) (hs : Sane m 700) (hf : Few m) (hz : s.size ≤ 1000) :
    Calls Try.prog 40 #[.agg #[vv, vr, vp], .string s] w (LnPost (ruleR m s) m vv vr vp R w) := by
  obtain ⟨Av, cv, rfl, hrv⟩ := h.vars
  obtain ⟨Ar, cr, rfl, hrr⟩ := h.rules
  obtain ⟨Ap, cp, rfl, hrp⟩ := h.phony
  obtain ⟨ti, hti, htz, hts, htb⟩ := text_parts
  have TI := Lib.hid hti
  have TZ := Lib.hid htz
  have TS := Lib.hid hts
  have TB := Lib.hid htb
  obtain ⟨ri, hri, hrz, hrs, hrb⟩ := rule_parts
  have RI := Lib.hid hri
  have RZ := Lib.hid hrz
  have RS := Lib.hid hrs
  have RB := Lib.hid hrb
  clear hti htz hts htb hri hrz hrs hrb
  obtain ⟨r, hr⟩ : ∃ r, r = ruleR m s := ⟨_, rfl⟩
  rw [← hr]
  unfold ruleR at hr
  have HR := Lib.hid hr
  have hlr := h.len
  have hnr : R.length ≤ 10 := by rw [hlr]; exact hf.rules
  have HL := Lib.hid hlr
  have HF := Lib.hid hf
  have HT := Lib.hid (fun v hv => Nat.le_trans (hs.texts v hv) (by omega : 600 ≤ 1000))
  have hnv6 : m.vars.length ≤ 6 := hf.vars
  have HM := Lib.hid h
  clear hr hlr hs hf h
  generalize hnr0 : R.length = nr at *
  have HNR := Lib.hid hnr0
  generalize hnp0 : m.phony.length = np at *
  generalize hnv0 : m.vars.length = nv at *
  clear hnr0 hnp0 hnv0
  have hH := Hd.start w (.slice Av nv cv) (.slice Ar nr cr) (.slice Ap np cp)
  have HH := Lib.hid hH
  have HRV := Lib.hid (hrv.belowS hH.bel)
  have HRR := Lib.hid hrr
  obtain ⟨c0, c1, c2, d0, d1, d2, f0, f1, f2⟩ := hH.cells
  clear hH hrv hrr hrp
  obtain ⟨ev, hev⟩ : ∃ ev, ev = expR m.vars 5 s.data.toList := ⟨_, rfl⟩
  rw [← hev] at HR
  have HEV := Lib.hid hev
  clear hev
  have hlen600 : ev.1 = 0 → ev.2.length ≤ 600 := by
    rw [HEV.out]
    intro h
    exact expL_len _ _ _ _ (Prod.ext h rfl)
  have HLEN := Lib.hid hlen600
  clear hlen600
  go_enter Try.func40, Try.ntmps40
  go_wp2_with fail
  generalize (w.alloc (.cells #[.slice Av nv cv, .slice Ar nr cr, .slice Ap np cp] 36)).alloc (.cells #[.slice none 0 0, .slice none 0 0, .slice none 0 0] 36) = w2 at *
  have hw2 : w.heap.size ≤ w2.heap.size := HH.out.bel.size
  refine (rexp_any m.vars HT.out Av nv cv s w2 HRV.out (by omega) hz).mono ?_
  rintro e w' ⟨rfl, rfl⟩
  rw [← HEV.out]
  clear HEV HRV
  obtain ⟨e, t⟩ := ev
  dsimp only at HLEN HR ⊢
  cases e with
  | succ e =>
    have hx := HR.out
    rw [if_pos (by omega)] at hx
    have HX := Lib.hid hx
    clear hx HR HLEN
    have hpos : (0 : Int) < ((e + 1 : Nat) : Int) := by omega
    obtain ⟨z, hze⟩ : ∃ z : Int, z = ((e + 1 : Nat) : Int) := ⟨_, rfl⟩
    rw [← hze] at hpos ⊢
    have HZE := Lib.hid hze
    clear hze
    obtain ⟨g0, g1, g2, gb⟩ := HH.out.ret
    have HGB := Lib.hid gb
    clear gb
    go_wp2
    refine bodyPost_ret (v := .tuple #[.agg #[.slice Av nv cv, .slice Ar nr cr, .slice Ap np cp], .int .i64 z]) ?_ rfl ?_
    · simp [results, Try.f40, go_sem, g0, g1, g2]
    · rw [HZE.out]
      exact LnPost.same (k := e + 1) HX.out HGB.out
  | zero =>
    have htl := HLEN.out rfl
    have hx := HR.out
    rw [if_neg (by simp)] at hx
    unfold headR at hx
    have HX := Lib.hid hx
    clear hx HR HLEN c0 c1 c2 d0 d1 d2 f0 f1 f2
    have htz : (ba t).size ≤ 600 := by rw [ba_size]; exact htl
    simp only [Int.ofNat_zero]
    go_wp2_with fail
    refine (find_any (ba t) ⟨#[58]⟩ 0 w2 (by decide) (by decide) (by omega) (by omega)).mono ?_
    rintro e w' ⟨rfl, rfl⟩
    rw [show (⟨#[58]⟩ : ByteArray).data.toList = [58] from rfl, ba_data]
    have hge := Lib.index_ge t [58]
    by_cases hm : Lib.index t [58] = -1
    · rw [show findR t [58] 0 = -1 by unfold findR; rw [List.drop_zero, if_pos hm]]
      have hx := HX.out
      rw [cut_none hm, if_pos (.inl rfl)] at hx
      have HX2 := Lib.hid hx
      clear hx HX hm hge
      obtain ⟨c0, c1, c2, d0, d1, d2, f0, f1, f2⟩ := HH.out.cells
      obtain ⟨g0, g1, g2, gb⟩ := HH.out.ret
      have HGB := Lib.hid gb
      clear gb
      go_wp2
      refine bodyPost_ret (v := .tuple #[.agg #[.slice Av nv cv, .slice Ar nr cr, .slice Ap np cp], .int .i64 4]) ?_ rfl ?_
      · simp [results, Try.f40, go_sem, g0, g1, g2]
      · exact LnPost.same (k := 4) HX2.out HGB.out
    · obtain ⟨i, ei⟩ : ∃ i : Nat, Lib.index t [58] = i := ⟨(Lib.index t [58]).toNat, by omega⟩
      have hroom := Lib.index_room t [58] (by omega)
      rw [ei] at hroom
      have hroom' : i + 1 ≤ (ba t).size := by rw [ba_size]; simp at hroom; omega
      rw [show findR t [58] 0 = (i : Int) by unfold findR; rw [List.drop_zero, if_neg hm, ei]; simp]
      have hx := HX.out
      rw [cut_at ei] at hx
      simp only [List.length_cons, List.length_nil, Nat.zero_add] at hx
      have e1 : (ba t).extract 0 i = ba (t.take i) := by rw [← ba_of ((ba t).extract 0 i), Lib.extract_data, ba_data]; simp
      have e2 : (ba t).extract (i + 1) (ba t).size = ba (t.drop (i + 1)) := by rw [← ba_of ((ba t).extract (i + 1) (ba t).size), Lib.extract_data, ba_data, List.take_of_length_le (by rw [ba_size]; simp)]
      have hbl : (t.take i).length ≤ 600 := by simp; omega
      have hal : (t.drop (i + 1)).length ≤ 600 := by simp; omega
      have hiz : (i : Int) + 1 ≤ ((ba t).size : Int) := by omega
      clear hm hge hroom ei HX
      generalize t.take i = bf at *
      generalize t.drop (i + 1) = af at *
      have HX := Lib.hid hx
      clear hx
      have hbz : (ba bf).size ≤ 600 := by rw [ba_size]; exact hbl
      have haz : (ba af).size ≤ 600 := by rw [ba_size]; exact hal
      have hwl1 := wordsR_len bf
      have hwl2 := wordsR_len af
      have HW1 := Lib.hid (fun x (hx : x ∈ wordsR bf) => Nat.le_trans (wordsR_size hx) (by omega : bf.length ≤ 1000))
      have HW2 := Lib.hid (fun x (hx : x ∈ wordsR af) => Nat.le_trans (wordsR_size hx) (by omega : af.length ≤ 1000))
      have HE1 := Lib.hid e1
      have HE2 := Lib.hid e2
      have hi0 : (0 : Int) ≤ (i : Int) := by omega
      have hi1 : (i : Int) ≤ ((ba t).size : Int) := by omega
      have hwr : IntKind.i64.wrap ((i : Int) + 1) = (i : Int) + 1 := by rw [IntKind.wrap_i64]; omega
      clear e1 e2
      generalize ba t = tb at *
      have h01 : (0 : Int) ≤ (i : Int) + 1 := by omega
      go_upto_region 7 with fail
      go_cut [8] (fun p wx => ∃ (b A3 : _) (c3 : Nat) (A4 : Option Addr) (c4 : Nat), p = .pointer (some ⟨b, 0, none⟩) ∧ RuCut w2 wx b (.slice A3 (wordsR bf).length c3) (.slice A4 (wordsR af).length c4) (wordsR bf) (wordsR af))
      case first =>
        have hA : Below w2.heap.size w2 ((w2.alloc (.cells #[.slice none 0 0, .slice none 0 0, .slice none 0 0] 81)).drew) := ((Below.refl _ _).alloc (Nat.le_refl _) _).drew
        have kA : ((w2.alloc (.cells #[.slice none 0 0, .slice none 0 0, .slice none 0 0] 81)).drew).heap[w2.heap.size]? = some (.cells #[.slice none 0 0, .slice none 0 0, .slice none 0 0] 81 (0, 0)) := World.alloc_heap_new _ _
        have HA := Lib.hid hA
        have HKA := Lib.hid kA
        have hB : Below w2.heap.size w2 w2.drew := (Below.refl _ _).drew
        have HB := Lib.hid hB
        clear hA kA hB
        go_region_with
          (first
            | (go_at_call 56; rw [HE1.out]; refine (fields_any (ba bf) ((w2.alloc (.cells #[.slice none 0 0, .slice none 0 0, .slice none 0 0] 81)).drew) (by omega)).mono ?_; rintro e w3a ⟨v3, rfl, ho3, hb3⟩; rw [ba_data] at ho3; obtain ⟨A3, c3, rfl⟩ := own_slice ho3; have HO3a := Lib.hid (ho3.mono HA.out.size); have HB3a := Lib.hid (HA.out.trans (hb3.mono HA.out.size)); have HK3a := Lib.hid ((hb3.block _ (Array.getElem?_eq_some_iff.1 HKA.out).1).trans HKA.out); clear ho3 hb3)
            | (go_at_call 56; rw [HE2.out]; refine (fields_any (ba af) w3a (by omega)).mono ?_; rintro e w4a ⟨v4, rfl, ho4, hb4⟩; rw [ba_data] at ho4; obtain ⟨A4, c4, rfl⟩ := own_slice ho4; have HO4a := Lib.hid (ho4.mono HB3a.out.size); have HO34a := Lib.hid (rdS_below HO3a.out hb4); have HB4a := Lib.hid (HB3a.out.trans (hb4.mono HB3a.out.size)); have HK4a := Lib.hid ((hb4.block _ (Array.getElem?_eq_some_iff.1 HK3a.out).1).trans HK3a.out); obtain ⟨z0, z1, z2, z3, z4, z5⟩ := zrule HK4a.out; clear ho4 hb4)
            | (go_at_call 56; rw [HE1.out]; refine (fields_any (ba bf) w2.drew (by omega)).mono ?_; rintro e w3 ⟨v3, rfl, ho3, hb3⟩; rw [ba_data] at ho3; obtain ⟨A3, c3, rfl⟩ := own_slice ho3; have HO3 := Lib.hid (ho3.mono HB.out.size); have HB3 := Lib.hid (HB.out.trans (hb3.mono HB.out.size)); clear ho3 hb3)
            | (go_at_call 56; rw [HE2.out]; refine (fields_any (ba af) w3 (by omega)).mono ?_; rintro e w4 ⟨v4, rfl, ho4, hb4⟩; rw [ba_data] at ho4; obtain ⟨A4, c4, rfl⟩ := own_slice ho4; have HO4 := Lib.hid (ho4.mono HB3.out.size); have HO34 := Lib.hid (rdS_below HO3.out hb4); have HB4 := Lib.hid (HB3.out.trans (hb4.mono HB3.out.size)); clear ho4 hb4)
            | (go_at_call 56; rw [HE2.out]; refine (fields_any (ba af) (w3.alloc (.cells #[.slice none 0 0, .slice none 0 0, .slice none 0 0] 81)) (by omega)).mono ?_; rintro e w4b ⟨v4, rfl, ho4, hb4⟩; rw [ba_data] at ho4; obtain ⟨A4, c4, rfl⟩ := own_slice ho4; have hbb : Below w3.heap.size w3 (w3.alloc (.cells #[.slice none 0 0, .slice none 0 0, .slice none 0 0] 81)) := (Below.refl _ _).alloc (Nat.le_refl _) _; have HBB := Lib.hid (HB3.out.trans (hbb.mono HB3.out.size)); have HO4b := Lib.hid (ho4.mono HBB.out.size); have HO34b := Lib.hid (rdS_below (rdS_below HO3.out hbb) hb4); have HB4b := Lib.hid (HBB.out.trans (hb4.mono HBB.out.size)); have HK4b := Lib.hid ((hb4.block _ (by rw [World.size_alloc]; omega)).trans (World.alloc_heap_new w3 (.cells #[.slice none 0 0, .slice none 0 0, .slice none 0 0] 81))); obtain ⟨z0, z1, z2, z3, z4, z5⟩ := zrule HK4b.out; clear ho4 hb4 hbb))
        all_goals (
          go_wp2_with fail
          go_meet
          first
          | exact ⟨_, A3, c3, A4, c4, rfl, RuCut.laid HO34.out HO4.out HB4.out⟩
          | exact ⟨_, A3, c3, A4, c4, rfl, RuCut.stored HK4b.out HB3.out.size HO34b.out HO4b.out HB4b.out⟩
          | exact ⟨_, A3, c3, A4, c4, rfl, RuCut.stored HK4a.out (Nat.le_refl _) HO34a.out HO4a.out HB4a.out⟩)
      case rest =>
        obtain ⟨b8, A3, c3, A4, c4, rfl, hcut⟩ := hcut
        generalize wc = w3 at *
        have HC := Lib.hid hcut
        have HH2 := Lib.hid (HH.out.below hcut.bel)
        have hblk := hcut.blk
        have y0 : w3.cell? ⟨b8, 0, none⟩ = some (.slice A3 (wordsR bf).length c3) := by simp [World.cell?, hblk]
        have y1 : w3.cell? ⟨b8, 1, none⟩ = some (.slice A4 (wordsR af).length c4) := by simp [World.cell?, hblk]
        have y2 : w3.cell? ⟨b8, 2, none⟩ = some (.slice none 0 0) := by simp [World.cell?, hblk]
        clear hcut hblk HE1 HE2 HH
        generalize wordsR bf = T at *
        generalize wordsR af = N at *
        have hx := HX.out
        clear HX
        rw [← HL.out] at hx
        have HX := Lib.hid hx
        clear hx
        by_cases ht0 : T.length = 0
        · have t1 : ((T.length : Int) == 0) = true := by rw [ht0]; rfl
          have hx := HX.out
          rw [if_pos (.inr ht0)] at hx
          have HX2 := Lib.hid hx
          clear hx ht0
          obtain ⟨c0, c1, c2, d0, d1, d2, f0, f1, f2⟩ := HH2.out.cells
          obtain ⟨g0, g1, g2, gb⟩ := HH2.out.ret
          have HGB := Lib.hid gb
          clear gb
          go_wp2
          refine bodyPost_ret (v := .tuple #[.agg #[.slice Av nv cv, .slice Ar nr cr, .slice Ap np cp], .int .i64 4]) ?_ rfl ?_
          · simp [results, Try.f40, go_sem, g0, g1, g2]
          · exact LnPost.same (k := 4) HX2.out HGB.out
        have t1 : ((T.length : Int) == 0) = false := by rw [beq_eq_false_iff_ne]; omega
        have hx := HX.out
        rw [if_neg (by rintro (h | h); cases h; exact ht0 h)] at hx
        have HY := Lib.hid hx
        clear hx HX
        by_cases ht2 : 2 < T.length
        · have t2 : (2 : Int) < (T.length : Int) := by omega
          have hx := HY.out
          rw [if_pos (.inl ht2)] at hx
          have HX2 := Lib.hid hx
          clear hx
          obtain ⟨c0, c1, c2, d0, d1, d2, f0, f1, f2⟩ := HH2.out.cells
          obtain ⟨g0, g1, g2, gb⟩ := HH2.out.ret
          have HGB := Lib.hid gb
          clear gb
          go_wp2
          refine bodyPost_ret (v := .tuple #[.agg #[.slice Av nv cv, .slice Ar nr cr, .slice Ap np cp], .int .i64 2]) ?_ rfl ?_
          · simp [results, Try.f40, go_sem, g0, g1, g2]
          · exact LnPost.same (k := 2) HX2.out HGB.out
        have t2 : decide ((2 : Int) < (T.length : Int)) = false := decide_eq_false (by omega)
        by_cases ht3 : 3 < N.length
        · have t3 : (3 : Int) < (N.length : Int) := by omega
          have hx := HY.out
          rw [if_pos (.inr (.inl ht3))] at hx
          have HX2 := Lib.hid hx
          clear hx
          obtain ⟨c0, c1, c2, d0, d1, d2, f0, f1, f2⟩ := HH2.out.cells
          obtain ⟨g0, g1, g2, gb⟩ := HH2.out.ret
          have HGB := Lib.hid gb
          clear gb
          go_wp2
          refine bodyPost_ret (v := .tuple #[.agg #[.slice Av nv cv, .slice Ar nr cr, .slice Ap np cp], .int .i64 2]) ?_ rfl ?_
          · simp [results, Try.f40, go_sem, g0, g1, g2]
          · exact LnPost.same (k := 2) HX2.out HGB.out
        have t3 : decide ((3 : Int) < (N.length : Int)) = false := decide_eq_false (by omega)
        by_cases ht4 : 10 ≤ nr
        · have t4 : ((nr : Int) == 10) = true := by rw [beq_iff_eq]; omega
          have hx := HY.out
          rw [if_pos (.inr (.inr ht4))] at hx
          have HX2 := Lib.hid hx
          clear hx ht4
          obtain ⟨c0, c1, c2, d0, d1, d2, f0, f1, f2⟩ := HH2.out.cells
          obtain ⟨g0, g1, g2, gb⟩ := HH2.out.ret
          have HGB := Lib.hid gb
          clear gb
          go_wp2
          refine bodyPost_ret (v := .tuple #[.agg #[.slice Av nv cv, .slice Ar nr cr, .slice Ap np cp], .int .i64 2]) ?_ rfl ?_
          · simp [results, Try.f40, go_sem, g0, g1, g2]
          · exact LnPost.same (k := 2) HX2.out HGB.out
        have t4 : ((nr : Int) == 10) = false := by rw [beq_eq_false_iff_ne]; omega
        have hx := HY.out
        rw [if_neg (by omega)] at hx
        have HZ := Lib.hid hx
        clear hx HY
        obtain ⟨c0, c1, c2, d0, d1, d2, f0, f1, f2⟩ := HH2.out.cells
        obtain ⟨_, _, e3, hrd3⟩ := RdS.of_own HC.out.t
        obtain ⟨_, _, e4, hrd4⟩ := RdS.of_own HC.out.n
        simp only [Value.slice.injEq, true_and] at e3 e4
        obtain ⟨rfl, rfl⟩ := e3
        obtain ⟨rfl, rfl⟩ := e4
        have HD3 := Lib.hid hrd3
        have HD4 := Lib.hid hrd4
        clear hrd3 hrd4
        generalize hnt : T.length = nt at *
        generalize hnn : N.length = nn at *
        have HNT := Lib.hid hnt
        have HNN := Lib.hid hnn
        clear hnt hnn
        go_wp2
        go_loop [9, 10] (fun p i => PtRel T p i) (fun _ i => nt - (intOf i).toNat)
        case atStart => exact ⟨0, Nat.zero_le _, rfl, rfl⟩
        case round =>
          obtain ⟨k, hk, rfl, rfl⟩ := hrel
          rw [HNT.out] at hk
          by_cases hlt : k < nt
          · obtain ⟨x, hx⟩ : ∃ x, T[k]? = some x := ⟨_, List.getElem?_eq_getElem (by rw [HNT.out]; exact hlt)⟩
            obtain ⟨b', off, rfl, _, hcx⟩ := HD3.out.at_ hx
            have hkz : (k : Int) < (nt : Int) := by omega
            have hxs := HW1.out x (List.mem_of_getElem? hx)
            have HS := Lib.hid (anyPat_snoc hx)
            clear hx
            cases hp : (T.take k).any patB with
            | true =>
              have hs2 := HS.out
              rw [hp, Bool.true_or] at hs2
              have HS2 := Lib.hid hs2
              clear hs2
              go_wp2
              go_round
              case rel => exact ⟨k + 1, by rw [HNT.out]; omega, by go_num, by rw [HS2.out]⟩
              case measure => simp [intOf]; omega
            | false =>
              have hs2 := HS.out
              rw [hp, Bool.false_or] at hs2
              have HS2 := Lib.hid hs2
              clear hs2
              go_wp2_with fail
              refine (find_any x ⟨#[37]⟩ 0 w3 (by decide) (by decide) (by omega) (by omega)).mono ?_
              rintro e w' ⟨rfl, rfl⟩
              rw [show (⟨#[37]⟩ : ByteArray).data.toList = [37] from rfl]
              cases hq : patB x with
              | true =>
                obtain ⟨j, hj⟩ := pat_yes hq
                rw [hj]
                have hj0 : (0 : Int) ≤ (j : Int) := by omega
                clear hj
                go_wp2
                go_round
                case rel => exact ⟨k + 1, by rw [HNT.out]; omega, by go_num, by rw [HS2.out, hq]⟩
                case measure => simp [intOf]; omega
              | false =>
                rw [pat_no hq]
                go_wp2
                go_round
                case rel => exact ⟨k + 1, by rw [HNT.out]; omega, by go_num, by rw [HS2.out, hq]⟩
                case measure => simp [intOf]; omega
          · obtain rfl : nt = k := by omega
            rw [List.take_of_length_le (by rw [HNT.out]; omega)]
            obtain ⟨pat, hpat⟩ : ∃ p, p = T.any patB := ⟨_, rfl⟩
            rw [← hpat]
            have HPAT := Lib.hid hpat
            clear hpat
            go_upto_region 17 with fail
            go_cut [11] (fun v wx => ∃ (Aa : Option Addr) (ca : Nat), v = .slice Aa (nt + nn) ca ∧ wx.ownsRow w3.heap.size 9 1 (.slice Aa (nt + nn) ca) (nt + nn) (tcells (T ++ N)) ∧ Below w3.heap.size w3 wx)
            case first =>
              have x3 : RdX w3.drew 1 A3 nt (tcells T) := HD3.out.x
              have HX3 := Lib.hid x3
              have HX4 := Lib.hid (show RdX w3.drew 1 A4 nn (tcells N) from HD4.out.x)
              have hlt4 : ∀ b off, A4 = some ⟨b, off, none⟩ → 0 < nn → b < w3.heap.size := fun b off e h => by
                obtain ⟨b1, o1, e1, hl, _⟩ := HD4.out.2.2.2 h
                rw [e] at e1; injection e1 with e1; injection e1 with e1 _; omega
              have HLT4 := Lib.hid hlt4
              have hlt8 : b8 < w3.heap.size := World.block_lt_of_cell? _ _ y1
              have hb0 : Below w3.heap.size w3 w3.drew := (Below.refl _ _).drew
              have HB0 := Lib.hid hb0
              have q0 : w3.drew.cell? ⟨b8, 0, none⟩ = some (.slice A3 nt c3) := y0
              have q1 : w3.drew.cell? ⟨b8, 1, none⟩ = some (.slice A4 nn c4) := y1
              clear x3 hlt4 hb0
              go_region_law
                (first
                  | (refine step_append_rd _ (by rfl) (.const (.slice none 0 0)) (.tmp 81) _ (by rfl) w3.heap.size 9 ti _ 1 16 Try.underlying27 TI.out TZ.out TS.out TB.out rfl (by decide) (.slice none 0 0) 0 [] (by rfl) (World.ownsRow_nil _ _ _ _) A3 nt c3 (tcells T) (by rfl) HX3.out (by unfold maxLen; omega) (by omega) HB0.out.size ?_; intro v5 w5 own5 g5 loc5; have HB5 := Lib.hid (HB0.out.grown g5 HB0.out.size (fun k hk => by cases hk)); have q15 := (HB5.out.cell (p := ⟨b8, 1, none⟩) hlt8).trans y1; have HX45 := Lib.hid (show RdX w5 1 A4 nn (tcells N) from ⟨HX4.out.1, HX4.out.2.1, fun h0 => by obtain ⟨b, off, e, hc⟩ := HX4.out.2.2 h0; exact ⟨b, off, e, fun j u hu => (HB5.out.cell (p := ⟨b, off + j, none⟩) (HLT4.out b off e h0)).trans (hc j u hu)⟩⟩); have HO5 := Lib.hid own5; clear own5 g5 loc5)
                  | (refine step_append_rd _ (by rfl) (.tmp 82) (.tmp 84) _ (by rfl) w3.heap.size 9 ti _ 1 16 Try.underlying27 TI.out TZ.out TS.out TB.out rfl (by decide) v5 (0 + nt) _ (by rfl) HO5.out A4 nn c4 (tcells N) (by rfl) HX45.out (by unfold maxLen; omega) (by omega) HB5.out.size ?_; intro v6 w6 own6 g6 loc6; have HB6 := Lib.hid (HB5.out.grown g6 HB5.out.size (fun k hk => (HO5.out.lt k hk).1)); obtain ⟨A6, c6, rfl⟩ := own_slice own6; have HO6 := Lib.hid own6; clear own6 g6 loc6))
              all_goals (
                go_wp2_with fail
                go_meet
                exact ⟨A6, c6, by first | rfl | rw [Nat.zero_add], by have := HO6.out; rw [Nat.zero_add] at this; simpa [tcells] using this, HB6.out⟩)
            case rest =>
              obtain ⟨Aa, ca, rfl, hoa, hba⟩ := hcut
              generalize wc = w4 at *
              have HC4 := Lib.hid (HC.out.below hba)
              have HH4 := Lib.hid (HH2.out.below hba)
              obtain ⟨_, _, ea, hra⟩ := RdS.of_own hoa
              simp only [Value.slice.injEq, true_and] at ea
              obtain ⟨rfl, rfl⟩ := ea
              have HRA := Lib.hid hra
              have HWA := Lib.hid (show ∀ x ∈ T ++ N, x.size ≤ 1000 from fun x hx => by
                rcases List.mem_append.1 hx with h | h
                · exact HW1.out x h
                · exact HW2.out x h)
              have hcap := hra.2.1
              clear hba hoa hra HH2 HC HD3 HD4 y0 y1 y2 c0 c1 c2 d0 d1 d2 f0 f1 f2 HW1 HW2
              have hna5 : nt + nn ≤ 5 := by omega
              have hnt2 : nt ≤ 2 := by omega
              generalize hna : nt + nn = na at *
              have HNA := Lib.hid hna
              clear hna
              go_wp2
              go_loopw [12] (fun i wr => ShRel w4 (T ++ N) pat i wr) (fun i _ => na - (intOf i).toNat)
              case atStart => exact ⟨0, Nat.zero_le _, rfl, fun j x h => by omega, 0, rfl⟩
              case round =>
                obtain ⟨k, hk, rfl, hok, q, hq⟩ := hrel.ex
                have hla : (T ++ N).length = na := by rw [List.length_append, HNT.out, HNN.out, HNA.out]
                have HLA := Lib.hid hla
                rw [hla] at hk
                have hbq := below_of_drewN hq
                have HQ := Lib.hid (show ∃ q, wr = w4.drewN q from ⟨q, hq⟩)
                have HHr := Lib.hid (HH4.out.below hbq)
                have HCr := Lib.hid (HC4.out.below hbq)
                have HRr := Lib.hid (HRA.out.belowS hbq)
                have HOK := Lib.hid hok
                clear hrel hok hq hla hbq
                by_cases hlt : k < na
                · obtain ⟨x, hx⟩ : ∃ x, (T ++ N)[k]? = some x := ⟨_, List.getElem?_eq_getElem (by rw [HLA.out]; exact hlt)⟩
                  obtain ⟨b', off, rfl, _, hcx⟩ := HRr.out.at_ hx
                  have hkz : (k : Int) < (na : Int) := by omega
                  have hk0 : (0 : Int) ≤ (k : Int) := by omega
                  have hkc : (k : Int) ≤ (ca : Int) := by omega
                  have hxs := HWA.out x (List.mem_of_getElem? hx)
                  have HXK := Lib.hid hx
                  clear hx
                  go_wp2_with fail
                  refine (once_any x ⟨#[97]⟩ wr (by omega) (by decide)).mono ?_
                  rintro e w5 ⟨rfl, q1, hw5⟩
                  rw [onceB_a]
                  have hb5 := below_of_drewN hw5
                  have HQ5 := Lib.hid (show ∃ q, w5 = w4.drewN q from by obtain ⟨q, hq⟩ := HQ.out; exact ⟨q + q1, by rw [hw5, hq, World.drewN_drewN]⟩)
                  have HH5 := Lib.hid (HHr.out.below hb5)
                  have HC5 := Lib.hid (HCr.out.below hb5)
                  have HR5 := Lib.hid (HRr.out.belowS hb5)
                  have hcx5 : w5.cell? ⟨b', off + k, none⟩ = some (.string x) := (hb5.cell (World.block_lt_of_cell? _ _ hcx)).trans hcx
                  clear hw5 hb5 HHr HCr HRr HQ hcx
                  have hos : (onceR x).size ≤ 1000 := by rw [onceR_size]; exact hxs
                  go_wp2_with fail
                  refine (nameMay_any (onceR x) w5 (by omega)).mono ?_
                  rintro e w' ⟨rfl, rfl⟩
                  have HRT := Lib.hid (HR5.out.take (by omega : k ≤ na))
                  obtain ⟨wb, hwb⟩ : ∃ b, b = wordOk (T ++ N) pat k x := ⟨_, rfl⟩
                  have hwb2 := hwb
                  unfold wordOk at hwb2
                  have HWB := Lib.hid hwb
                  have HWB2 := Lib.hid hwb2
                  clear hwb hwb2
                  have HBAD := Lib.hid (show wb = false → r = (3, m) from fun e => by
                    have := shaped_bad (T := T) (N := N) HXK.out (by rw [← HPAT.out, ← HWB.out, e])
                    rw [HZ.out, if_pos this])
                  go_wp2
                  go_quiet (first | (go_at_call 37; refine quiet_eq (in_any (some ⟨b', off, none⟩) k ca ((T ++ N).take k) x _ ?_ ?_); exact HRT.out; omega))
                  have hb6 := below_drewN w5 nq
                  have HQ6 := Lib.hid (show ∃ q, w5.drewN nq = w4.drewN q from by obtain ⟨q, hq⟩ := HQ5.out; exact ⟨q + nq, by rw [hq, World.drewN_drewN]⟩)
                  have HH6 := Lib.hid (HH5.out.below hb6)
                  have hcx6 : (w5.drewN nq).cell? ⟨b', off + k, none⟩ = some (.string x) := hcx5
                  clear hb6 HH5 HC5 HR5 HQ5 hcx5 HRT
                  generalize w5.drewN nq = w6 at *
                  have hfin : wb = true → ShRel w4 (T ++ N) pat (.int .i64 ((k : Int) + 1)) w6 := fun e => ⟨k + 1, by rw [HLA.out]; omega, by simp, fun j y hj hy => by
                    rcases Nat.lt_or_ge j k with h3 | h3
                    · exact HOK.out j y h3 hy
                    · obtain rfl : j = k := by omega
                      rw [HXK.out] at hy
                      injection hy with hy
                      rw [← hy, ← HWB.out, e], HQ6.out⟩
                  have HFIN := Lib.hid hfin
                  clear hfin
                  cases hn1 : nameB (onceR x) with
                  | false =>
                    have HX2 := Lib.hid (HBAD.out (by rw [HWB2.out, hn1]; rfl))
                    obtain ⟨c0, c1, c2, d0, d1, d2, f0, f1, f2⟩ := HH6.out.cells
                    obtain ⟨g0, g1, g2, gb⟩ := HH6.out.ret
                    have HGB := Lib.hid gb
                    clear gb
                    go_wp2
                    refine bodyPost_ret (v := .tuple #[.agg #[.slice Av nv cv, .slice Ar nr cr, .slice Ap np cp], .int .i64 3]) ?_ rfl ?_
                    · simp [results, Try.f40, go_sem, g0, g1, g2]
                    · exact LnPost.same (k := 3) HX2.out HGB.out
                  | true =>
                    cases hn2 : inT ((T ++ N).take k) x with
                    | true =>
                      have HX2 := Lib.hid (HBAD.out (by rw [HWB2.out, hn1, hn2]; rfl))
                      obtain ⟨c0, c1, c2, d0, d1, d2, f0, f1, f2⟩ := HH6.out.cells
                      obtain ⟨g0, g1, g2, gb⟩ := HH6.out.ret
                      have HGB := Lib.hid gb
                      clear gb
                      go_wp2
                      refine bodyPost_ret (v := .tuple #[.agg #[.slice Av nv cv, .slice Ar nr cr, .slice Ap np cp], .int .i64 3]) ?_ rfl ?_
                      · simp [results, Try.f40, go_sem, g0, g1, g2]
                      · exact LnPost.same (k := 3) HX2.out HGB.out
                    | false =>
                      cases pat with
                      | true =>
                        have HX2 := Lib.hid (HFIN.out (by rw [HWB2.out, hn1, hn2]; simp))
                        go_wp2
                        go_roundw
                        case rel => exact HX2.out
                        case measure => simp [intOf]; omega
                      | false =>
                        go_wp2_with fail
                        refine (find_any x ⟨#[37]⟩ 0 w6 (by decide) (by decide) (by omega) (by omega)).mono ?_
                        rintro e w' ⟨rfl, rfl⟩
                        rw [show (⟨#[37]⟩ : ByteArray).data.toList = [37] from rfl]
                        cases hq3 : patB x with
                        | true =>
                          obtain ⟨j, hj⟩ := pat_yes hq3
                          rw [hj]
                          have hj0 : (0 : Int) ≤ (j : Int) := by omega
                          have HX2 := Lib.hid (HBAD.out (by rw [HWB2.out, hn1, hn2, hq3]; rfl))
                          clear hj
                          obtain ⟨c0, c1, c2, d0, d1, d2, f0, f1, f2⟩ := HH6.out.cells
                          obtain ⟨g0, g1, g2, gb⟩ := HH6.out.ret
                          have HGB := Lib.hid gb
                          clear gb
                          go_wp2
                          refine bodyPost_ret (v := .tuple #[.agg #[.slice Av nv cv, .slice Ar nr cr, .slice Ap np cp], .int .i64 3]) ?_ rfl ?_
                          · simp [results, Try.f40, go_sem, g0, g1, g2]
                          · exact LnPost.same (k := 3) HX2.out HGB.out
                        | false =>
                          rw [pat_no hq3]
                          have HX2 := Lib.hid (HFIN.out (by rw [HWB2.out, hn1, hn2, hq3]; rfl))
                          go_wp2
                          go_roundw
                          case rel => exact HX2.out
                          case measure => simp [intOf]; omega
                · obtain rfl : na = k := by omega
                  have HALL := Lib.hid (show ∀ k x, (T ++ N)[k]? = some x → wordOk (T ++ N) (T.any patB) k x = true from fun j x hx => by
                    rw [← HPAT.out]
                    exact HOK.out j x (by rw [← HLA.out]; exact (List.getElem?_eq_some_iff.1 hx).1) hx)
                  obtain ⟨y0, y1, y2⟩ := HCr.out.cells
                  by_cases hmany : pat = true ∧ 1 < nt
                  · obtain ⟨rfl, h1⟩ := hmany
                    have t5 : (1 : Int) < (nt : Int) := by omega
                    have HX2 := Lib.hid (show r = (3, m) by rw [HZ.out, if_pos (shaped_many HPAT.out.symm (by rw [HNT.out]; exact h1))])
                    obtain ⟨c0, c1, c2, d0, d1, d2, f0, f1, f2⟩ := HHr.out.cells
                    obtain ⟨g0, g1, g2, gb⟩ := HHr.out.ret
                    have HGB := Lib.hid gb
                    clear gb
                    go_wp2
                    refine bodyPost_ret (v := .tuple #[.agg #[.slice Av nv cv, .slice Ar nr cr, .slice Ap np cp], .int .i64 3]) ?_ rfl ?_
                    · simp [results, Try.f40, go_sem, g0, g1, g2]
                    · exact LnPost.same (k := 3) HX2.out HGB.out
                  · have hx := HZ.out
                    rw [if_neg (by rw [shaped_good (by rw [← HPAT.out, HNT.out]; exact hmany) HALL.out]; simp)] at hx
                    have HY := Lib.hid hx
                    clear hx HZ HALL HOK
                    cases pat with
                    | false =>
                      clear hmany
                      go_upto_region 27 with fail
                      obtain ⟨c0, c1, c2, d0, d1, d2, f0, f1, f2⟩ := HHr.out.cells
                      have hblk := HCr.out.blk
                      have hb8 : b8 < wr.heap.size := World.block_lt_of_cell? _ _ y0
                      have hbx : w.heap.size < wr.heap.size := World.block_lt_of_cell? _ _ c0
                      have hle2 : w2.heap.size ≤ wr.heap.size := HCr.out.bel.size
                      have k1 : Below wr.heap.size wr wr.drew := (Below.refl _ _).drew
                      have k2 : Below wr.heap.size wr ((wr.alloc (.cells #[.slice A3 nt c3, .slice A4 nn c4, .slice none 0 0] 81)).drew) := ((Below.refl _ _).alloc (Nat.le_refl _) _).drew
                      have HK1 := Lib.hid k1
                      have HK2 := Lib.hid k2
                      have q0 : wr.drew.cell? ⟨b8, 0, none⟩ = some (.slice A3 nt c3) := y0
                      have q1 : wr.drew.cell? ⟨b8, 1, none⟩ = some (.slice A4 nn c4) := y1
                      have q2 : wr.drew.cell? ⟨b8, 2, none⟩ = some (.slice none 0 0) := y2
                      have q3 : wr.drew.cell? ⟨w.heap.size, 1, none⟩ = some (.slice Ar nr cr) := c1
                      have q3a : ((wr.alloc (.cells #[.slice A3 nt c3, .slice A4 nn c4, .slice none 0 0] 81)).drew).cell? ⟨w.heap.size, 1, none⟩ = some (.slice Ar nr cr) := (k2.cell (p := ⟨w.heap.size, 1, none⟩) hbx).trans c1
                      have HXR := Lib.hid (show RdX wr.drew 3 Ar nr (rcells R) from ((HRR.out.belowS HHr.out.bel).x HM.out.one))
                      have HXR2 := Lib.hid (show RdX ((wr.alloc (.cells #[.slice A3 nt c3, .slice A4 nn c4, .slice none 0 0] 81)).drew) 3 Ar nr (rcells R) from ((HRR.out.belowS (HHr.out.below k2).bel).x HM.out.one))
                      have HXN2 := Lib.hid (show RdX ((wr.alloc (.cells #[.slice A3 nt c3, .slice A4 nn c4, .slice none 0 0] 81)).drew) 3 (some ⟨wr.heap.size, 0, none⟩) 1 [.slice A3 nt c3, .slice A4 nn c4, .slice none 0 0] from RdX.new wr 3 #[.slice A3 nt c3, .slice A4 nn c4, .slice none 0 0] 81 rfl (by simp [Value.oneCell']))
                      clear k1 k2 hblk
                      go_region_law
                        (first
                          | (refine step_append_rd _ (by rfl) (.const (.slice none 0 0)) (.tmp 133) _ (by rfl) wr.heap.size 81 ri _ 3 72 Try.underlying34 RI.out RZ.out RS.out RB.out rfl (by decide) (.slice none 0 0) 0 [] (by rfl) (World.ownsRow_nil wr.drew _ _ _) Ar nr cr (rcells R) (by rfl) HXR.out (by unfold maxLen; omega) (by omega) HK1.out.size ?_; intro v5 w5 own5 g5 loc5; have HB5 := Lib.hid (HK1.out.grown g5 HK1.out.size (fun k hk => by cases hk)); have u0 := (HB5.out.cell (p := ⟨b8, 0, none⟩) hb8).trans y0; have u1 := (HB5.out.cell (p := ⟨b8, 1, none⟩) hb8).trans y1; have u2 := (HB5.out.cell (p := ⟨b8, 2, none⟩) hb8).trans y2; have HO5 := Lib.hid own5; clear own5 g5 loc5)
                          | (refine step_append_rd _ (by rfl) (.const (.slice none 0 0)) (.tmp 133) _ (by rfl) wr.heap.size 81 ri _ 3 72 Try.underlying34 RI.out RZ.out RS.out RB.out rfl (by decide) (.slice none 0 0) 0 [] (by rfl) (World.ownsRow_nil ((wr.alloc (.cells #[.slice A3 nt c3, .slice A4 nn c4, .slice none 0 0] 81)).drew) _ _ _) Ar nr cr (rcells R) (by rfl) HXR2.out (by unfold maxLen; omega) (by omega) HK2.out.size ?_; intro v5b w5b own5 g5 loc5; have HB5b := Lib.hid (HK2.out.grown g5 HK2.out.size (fun k hk => by cases hk)); have HXN5 := Lib.hid (HXN2.out.keep (fun b hb => by obtain ⟨off, e⟩ := hb; injection e with e; injection e with e _; subst e; exact g5.block _ (by show wr.heap.size < (wr.alloc (.cells #[.slice A3 nt c3, .slice A4 nn c4, .slice none 0 0] 81)).heap.size; simp) (by simp [Value.ownBlock]))); have HO5b := Lib.hid own5; clear own5 g5 loc5)
                          | (refine step_append_rd _ (by rfl) (.tmp 134) (.tmp 136) _ (by rfl) wr.heap.size 81 ri _ 3 72 Try.underlying34 RI.out RZ.out RS.out RB.out rfl (by decide) v5 (0 + nr) _ (by rfl) (HO5.out.alloc (.cells #[.slice A3 nt c3, .slice A4 nn c4, .slice none 0 0] 81)) (some ⟨w5.heap.size, 0, none⟩) 1 1 [.slice A3 nt c3, .slice A4 nn c4, .slice none 0 0] (by rfl) (RdX.new w5 3 #[.slice A3 nt c3, .slice A4 nn c4, .slice none 0 0] 81 rfl (by simp [Value.oneCell'])) (by unfold maxLen; omega) (by omega) (HB5.out.alloc HB5.out.size _).size ?_; intro v6 w6 own6 g6 loc6; rw [Nat.zero_add, List.nil_append] at own6; obtain ⟨A6, c6, rfl⟩ := own_slice own6; have HB6 := Lib.hid ((HB5.out.alloc HB5.out.size (.cells #[.slice A3 nt c3, .slice A4 nn c4, .slice none 0 0] 81)).grown g6 (HB5.out.alloc HB5.out.size _).size (fun k hk => (HO5.out.lt k hk).1)); have HO6 := Lib.hid own6; have hH6 := HHr.out.below HB6.out; have r0 := hH6.cells.2.1; have r1 : w6.frozen? ⟨w.heap.size, 1, none⟩ = false := (by have kx := hH6.kx; simp [World.frozen?, kx]); clear own6 g6 loc6 hH6)
                          | (refine step_append_rd _ (by rfl) (.tmp 134) (.tmp 136) _ (by rfl) wr.heap.size 81 ri _ 3 72 Try.underlying34 RI.out RZ.out RS.out RB.out rfl (by decide) v5b (0 + nr) _ (by rfl) HO5b.out (some ⟨wr.heap.size, 0, none⟩) 1 1 [.slice A3 nt c3, .slice A4 nn c4, .slice none 0 0] (by rfl) HXN5.out (by unfold maxLen; omega) (by omega) HB5b.out.size ?_; intro v6 w6 own6 g6 loc6; rw [Nat.zero_add, List.nil_append] at own6; obtain ⟨A6, c6, rfl⟩ := own_slice own6; have HB6 := Lib.hid (HB5b.out.grown g6 HB5b.out.size (fun k hk => (HO5b.out.lt k hk).1)); have HO6 := Lib.hid own6; have hH6 := HHr.out.below HB6.out; have r0 := hH6.cells.2.1; have r1 : w6.frozen? ⟨w.heap.size, 1, none⟩ = false := (by have kx := hH6.kx; simp [World.frozen?, kx]); clear own6 g6 loc6 hH6))
                      all_goals (
                        have hH7 := (HHr.out.below HB6.out).setR (.slice A6 (nr + 1) c6)
                        have HO7 := Lib.hid ((HHr.out.below HB6.out).own 1 (.slice A6 (nr + 1) c6) HO6.out (by decide))
                        have HC6 := HCr.out.below HB6.out
                        have HT7 := Lib.hid ((HHr.out.below HB6.out).own 1 (.slice A6 (nr + 1) c6) HC6.t (by decide))
                        have HN7 := Lib.hid ((HHr.out.below HB6.out).own 1 (.slice A6 (nr + 1) c6) HC6.n (by decide))
                        have HH7 := Lib.hid hH7
                        obtain ⟨m0, m1, m2, n0, n1, n2, o0, o1, o2⟩ := hH7.cells
                        obtain ⟨g0, g1, g2, gb⟩ := hH7.ret
                        have HGB := Lib.hid gb
                        clear gb hH7 HC6
                        go_wp2
                        refine bodyPost_ret (v := .tuple #[.agg #[.slice Av nv cv, .slice A6 (nr + 1) c6, .slice Ap np cp], .int .i64 0]) ?_ rfl ?_
                        · simp [results, Try.f40, go_sem, g0, g1, g2]
                        · exact LnPost.rule HY.out hw2 HGB.out (by have := (HH7.out.ownRet HO7.out (by decide)).mono hle2; rw [HNR.out]; exact this) (HH7.out.ownRet HT7.out (by decide)) (HH7.out.ownRet HN7.out (by decide)))
                    | true =>
                      have t5 : decide ((1 : Int) < (nt : Int)) = false := decide_eq_false (fun h => hmany ⟨rfl, by omega⟩)
                      clear hmany
                      go_upto_region 27 with fail
                      obtain ⟨c0, c1, c2, d0, d1, d2, f0, f1, f2⟩ := HHr.out.cells
                      have hblk := HCr.out.blk
                      have hb8 : b8 < wr.heap.size := World.block_lt_of_cell? _ _ y0
                      have hbx : w.heap.size < wr.heap.size := World.block_lt_of_cell? _ _ c0
                      have hle2 : w2.heap.size ≤ wr.heap.size := HCr.out.bel.size
                      have k1 : Below wr.heap.size wr wr.drew := (Below.refl _ _).drew
                      have k2 : Below wr.heap.size wr ((wr.alloc (.cells #[.slice A3 nt c3, .slice A4 nn c4, .slice none 0 0] 81)).drew) := ((Below.refl _ _).alloc (Nat.le_refl _) _).drew
                      have HK1 := Lib.hid k1
                      have HK2 := Lib.hid k2
                      have q0 : wr.drew.cell? ⟨b8, 0, none⟩ = some (.slice A3 nt c3) := y0
                      have q1 : wr.drew.cell? ⟨b8, 1, none⟩ = some (.slice A4 nn c4) := y1
                      have q2 : wr.drew.cell? ⟨b8, 2, none⟩ = some (.slice none 0 0) := y2
                      have q3 : wr.drew.cell? ⟨w.heap.size, 1, none⟩ = some (.slice Ar nr cr) := c1
                      have q3a : ((wr.alloc (.cells #[.slice A3 nt c3, .slice A4 nn c4, .slice none 0 0] 81)).drew).cell? ⟨w.heap.size, 1, none⟩ = some (.slice Ar nr cr) := (k2.cell (p := ⟨w.heap.size, 1, none⟩) hbx).trans c1
                      have HXR := Lib.hid (show RdX wr.drew 3 Ar nr (rcells R) from ((HRR.out.belowS HHr.out.bel).x HM.out.one))
                      have HXR2 := Lib.hid (show RdX ((wr.alloc (.cells #[.slice A3 nt c3, .slice A4 nn c4, .slice none 0 0] 81)).drew) 3 Ar nr (rcells R) from ((HRR.out.belowS (HHr.out.below k2).bel).x HM.out.one))
                      have HXN2 := Lib.hid (show RdX ((wr.alloc (.cells #[.slice A3 nt c3, .slice A4 nn c4, .slice none 0 0] 81)).drew) 3 (some ⟨wr.heap.size, 0, none⟩) 1 [.slice A3 nt c3, .slice A4 nn c4, .slice none 0 0] from RdX.new wr 3 #[.slice A3 nt c3, .slice A4 nn c4, .slice none 0 0] 81 rfl (by simp [Value.oneCell']))
                      clear k1 k2 hblk
                      go_region_law
                        (first
                          | (refine step_append_rd _ (by rfl) (.const (.slice none 0 0)) (.tmp 133) _ (by rfl) wr.heap.size 81 ri _ 3 72 Try.underlying34 RI.out RZ.out RS.out RB.out rfl (by decide) (.slice none 0 0) 0 [] (by rfl) (World.ownsRow_nil wr.drew _ _ _) Ar nr cr (rcells R) (by rfl) HXR.out (by unfold maxLen; omega) (by omega) HK1.out.size ?_; intro v5 w5 own5 g5 loc5; have HB5 := Lib.hid (HK1.out.grown g5 HK1.out.size (fun k hk => by cases hk)); have u0 := (HB5.out.cell (p := ⟨b8, 0, none⟩) hb8).trans y0; have u1 := (HB5.out.cell (p := ⟨b8, 1, none⟩) hb8).trans y1; have u2 := (HB5.out.cell (p := ⟨b8, 2, none⟩) hb8).trans y2; have HO5 := Lib.hid own5; clear own5 g5 loc5)
                          | (refine step_append_rd _ (by rfl) (.const (.slice none 0 0)) (.tmp 133) _ (by rfl) wr.heap.size 81 ri _ 3 72 Try.underlying34 RI.out RZ.out RS.out RB.out rfl (by decide) (.slice none 0 0) 0 [] (by rfl) (World.ownsRow_nil ((wr.alloc (.cells #[.slice A3 nt c3, .slice A4 nn c4, .slice none 0 0] 81)).drew) _ _ _) Ar nr cr (rcells R) (by rfl) HXR2.out (by unfold maxLen; omega) (by omega) HK2.out.size ?_; intro v5b w5b own5 g5 loc5; have HB5b := Lib.hid (HK2.out.grown g5 HK2.out.size (fun k hk => by cases hk)); have HXN5 := Lib.hid (HXN2.out.keep (fun b hb => by obtain ⟨off, e⟩ := hb; injection e with e; injection e with e _; subst e; exact g5.block _ (by show wr.heap.size < (wr.alloc (.cells #[.slice A3 nt c3, .slice A4 nn c4, .slice none 0 0] 81)).heap.size; simp) (by simp [Value.ownBlock]))); have HO5b := Lib.hid own5; clear own5 g5 loc5)
                          | (refine step_append_rd _ (by rfl) (.tmp 134) (.tmp 136) _ (by rfl) wr.heap.size 81 ri _ 3 72 Try.underlying34 RI.out RZ.out RS.out RB.out rfl (by decide) v5 (0 + nr) _ (by rfl) (HO5.out.alloc (.cells #[.slice A3 nt c3, .slice A4 nn c4, .slice none 0 0] 81)) (some ⟨w5.heap.size, 0, none⟩) 1 1 [.slice A3 nt c3, .slice A4 nn c4, .slice none 0 0] (by rfl) (RdX.new w5 3 #[.slice A3 nt c3, .slice A4 nn c4, .slice none 0 0] 81 rfl (by simp [Value.oneCell'])) (by unfold maxLen; omega) (by omega) (HB5.out.alloc HB5.out.size _).size ?_; intro v6 w6 own6 g6 loc6; rw [Nat.zero_add, List.nil_append] at own6; obtain ⟨A6, c6, rfl⟩ := own_slice own6; have HB6 := Lib.hid ((HB5.out.alloc HB5.out.size (.cells #[.slice A3 nt c3, .slice A4 nn c4, .slice none 0 0] 81)).grown g6 (HB5.out.alloc HB5.out.size _).size (fun k hk => (HO5.out.lt k hk).1)); have HO6 := Lib.hid own6; have hH6 := HHr.out.below HB6.out; have r0 := hH6.cells.2.1; have r1 : w6.frozen? ⟨w.heap.size, 1, none⟩ = false := (by have kx := hH6.kx; simp [World.frozen?, kx]); clear own6 g6 loc6 hH6)
                          | (refine step_append_rd _ (by rfl) (.tmp 134) (.tmp 136) _ (by rfl) wr.heap.size 81 ri _ 3 72 Try.underlying34 RI.out RZ.out RS.out RB.out rfl (by decide) v5b (0 + nr) _ (by rfl) HO5b.out (some ⟨wr.heap.size, 0, none⟩) 1 1 [.slice A3 nt c3, .slice A4 nn c4, .slice none 0 0] (by rfl) HXN5.out (by unfold maxLen; omega) (by omega) HB5b.out.size ?_; intro v6 w6 own6 g6 loc6; rw [Nat.zero_add, List.nil_append] at own6; obtain ⟨A6, c6, rfl⟩ := own_slice own6; have HB6 := Lib.hid (HB5b.out.grown g6 HB5b.out.size (fun k hk => (HO5b.out.lt k hk).1)); have HO6 := Lib.hid own6; have hH6 := HHr.out.below HB6.out; have r0 := hH6.cells.2.1; have r1 : w6.frozen? ⟨w.heap.size, 1, none⟩ = false := (by have kx := hH6.kx; simp [World.frozen?, kx]); clear own6 g6 loc6 hH6))
                      all_goals (
                        have hH7 := (HHr.out.below HB6.out).setR (.slice A6 (nr + 1) c6)
                        have HO7 := Lib.hid ((HHr.out.below HB6.out).own 1 (.slice A6 (nr + 1) c6) HO6.out (by decide))
                        have HC6 := HCr.out.below HB6.out
                        have HT7 := Lib.hid ((HHr.out.below HB6.out).own 1 (.slice A6 (nr + 1) c6) HC6.t (by decide))
                        have HN7 := Lib.hid ((HHr.out.below HB6.out).own 1 (.slice A6 (nr + 1) c6) HC6.n (by decide))
                        have HH7 := Lib.hid hH7
                        obtain ⟨m0, m1, m2, n0, n1, n2, o0, o1, o2⟩ := hH7.cells
                        obtain ⟨g0, g1, g2, gb⟩ := hH7.ret
                        have HGB := Lib.hid gb
                        clear gb hH7 HC6
                        go_wp2
                        refine bodyPost_ret (v := .tuple #[.agg #[.slice Av nv cv, .slice A6 (nr + 1) c6, .slice Ap np cp], .int .i64 0]) ?_ rfl ?_
                        · simp [results, Try.f40, go_sem, g0, g1, g2]
                        · exact LnPost.rule HY.out hw2 HGB.out (by have := (HH7.out.ownRet HO7.out (by decide)).mono hle2; rw [HNR.out]; exact this) (HH7.out.ownRet HT7.out (by decide)) (HH7.out.ownRet HN7.out (by decide)))
end Go.Proofs.Ytlkpbpecgdphaaa
